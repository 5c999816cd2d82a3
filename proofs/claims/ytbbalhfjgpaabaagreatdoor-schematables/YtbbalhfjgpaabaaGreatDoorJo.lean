import Derived.Test.YtbbalhfjgpaabaaGreatDoorJh
import Derived.Test.YtbbalhfjgpaabaaGreatDoorJn
import Derived.Test.YtbbalhfjgpaabaaGreatDoorJc
import Derived.Test.YtbbalhfjgpaabaaGreatDoorJb
import Derived.Test.YtbbalhfjgpaabaaGreatDoorJa
namespace Go.Proofs.YtbbalhfjgpaabaaGreatDoor
section
open Go.RowKit Go
structure Tbx (w : World) (tc : Array Value) (wx : World) : Prop where
  a : wx.heap[w.heap.size]? = some (.cells tc 69 (0, 0))
  b : Below w.heap.size w wx
theorem Tbx.next {w wx wy : World} {tc : Array Value} (h : Tbx w tc wx) (hb : Below wx.heap.size wx wy) : Tbx w tc wy := ⟨(hb.block _ (blk_lt h.a)).trans h.a, h.b.trans (hb.mono h.b.size)⟩
theorem Tbx.start (w : World) (tc : Array Value) : Tbx w tc (w.alloc (.cells tc 69)) := ⟨heap_alloc_new w _, below_alloc4 w _⟩
structure Fdx (w : World) (tc fc : Array Value) (F : Nat) (wx : World) : Prop where
  t : Tbx w tc wx
  f : wx.heap[F]? = some (.cells fc 104 (0, 0))
theorem Fdx.next {w wx wy : World} {tc fc : Array Value} {F : Nat} (h : Fdx w tc fc F wx) (hb : Below wx.heap.size wx wy) : Fdx w tc fc F wy := ⟨h.t.next hb, (hb.block _ (blk_lt h.f)).trans h.f⟩
theorem ksP_nil (k : Int) : ksP k [] = [] := by unfold ksP; split <;> rfl
theorem fok_no1 {k : Int} {pre : List Fd} {f : Fd} (h : fon k f = false) : fok k pre f = false := by unfold fok; rw [h, Bool.false_and]
theorem fok_no2 {k : Int} {pre : List Fd} {f g : Fd} (hg : g ∈ pre) (h : fpr k f g = true) : fok k pre f = false := by
  unfold fok
  rw [Bool.and_eq_false_iff]
  refine .inr ?_
  rw [List.all_eq_false]
  exact ⟨g, hg, by rw [h]; decide⟩
theorem fok_yes {k : Int} {pre : List Fd} {f : Fd} (h : fon k f = true) (h2 : ∀ j g, j < pre.length → pre[j]? = some g → fpr k f g = false) : fok k pre f = true := by
  unfold fok
  rw [h, Bool.true_and, List.all_eq_true]
  intro g hg
  obtain ⟨j, hj, e⟩ := List.getElem_of_mem hg
  rw [h2 j g hj (by rw [List.getElem?_eq_getElem hj, e])]
  rfl
set_option maxRecDepth 1000000 in
set_option maxHeartbeats 2000000 in
theorem fields11_any (w : World) (t : Tp) (c : Array Value) (hc : Tpi w t c) : Calls Tryz.prog 59 #[.agg c] w fun e w' => e = .returned (.bool (fft t)) ∧ Below w.heap.size w w' := by
  obtain ⟨⟨vf, vc, vw, rfl, ⟨⟨af, cf, rfl, -, hff⟩, hfm⟩, ⟨⟨ac, cc, rfl, -, -⟩, -⟩, ⟨⟨aw, cw, rfl, -, -⟩, -, -⟩⟩, -⟩ := hc
  have HF := hide hff
  clear hff
  unfold tpc
  have HX := hide (Tbx.start w #[.string t.n, .int .i64 t.k, .int .i64 t.lo, .int .i64 t.hi, .string t.r.n, .bool t.r.z, .slice af t.fs.length cf, .slice ac t.cs.length cc, .slice aw t.ws.length cw])
  have HT1 : Hid ((#[.string t.n, .int .i64 t.k, .int .i64 t.lo, .int .i64 t.hi, .string t.r.n, .bool t.r.z, .slice af t.fs.length cf, .slice ac t.cs.length cc, .slice aw t.ws.length cw] : Array Value)[1]? = some (.int .i64 t.k)) := rfl
  have HT6 : Hid ((#[.string t.n, .int .i64 t.k, .int .i64 t.lo, .int .i64 t.hi, .string t.r.n, .bool t.r.z, .slice af t.fs.length cf, .slice ac t.cs.length cc, .slice aw t.ws.length cw] : Array Value)[6]? = some (.slice af t.fs.length cf)) := rfl
  have HIF := hide infoFd
  have HAF : Hid (∀ w, (isAgg 104).run Tryz.prog w = .ok true w) := aggFd
  have HFE : Hid (fft t = (decide (t.fs.length ≤ 64) && ffs t.k [] [] false t.fs)) := rfl
  go_enter Tryz.func59, Tryz.ntmps59
  go_upto_region 1 with fail
  generalize w.alloc (.cells #[.string t.n, .int .i64 t.k, .int .i64 t.lo, .int .i64 t.hi, .string t.r.n, .bool t.r.z, .slice af t.fs.length cf, .slice ac t.cs.length cc, .slice aw t.ws.length cw] 69) = w1 at *
  obtain ⟨tc, htc⟩ : ∃ tc : Array Value, tc = #[.string t.n, .int .i64 t.k, .int .i64 t.lo, .int .i64 t.hi, .string t.r.n, .bool t.r.z, .slice af t.fs.length cf, .slice ac t.cs.length cc, .slice aw t.ws.length cw] := ⟨_, rfl⟩
  rw [← htc] at HX HT1 HT6
  clear htc
  have q6 : w1.cell? ⟨w.heap.size, 6, none⟩ = some (.slice af t.fs.length cf) := blk_cell (j := 6) HX.out.a HT6.out
  by_cases h64 : t.fs.length ≤ 64
  case neg => as_aux_lemma =>
    have g0 : (64 : Int) < (t.fs.length : Int) := by omega
    have HE : Hid (fft t = false) := by show _ = _; rw [HFE.out, decide_eq_false h64, Bool.false_and]
    clear HFE
    go_wp2_with fail
    go_ret
    exact ⟨by rw [HE.out] <;> rfl, HX.out.b⟩
  have g0 : ¬ (64 : Int) < (t.fs.length : Int) := by omega
  have HFF : Hid (fft t = ffs t.k [] [] false t.fs) := by show _ = _; rw [HFE.out, decide_eq_true h64, Bool.true_and]
  clear HFE
  go_wp2_with fail
  clear q6 g0
  go_loopw [3] (fun vi wx => ∃ (i : Nat), i ≤ t.fs.length ∧ vi = .int .i64 (i : Nat) ∧ Hid (fft t = ffs t.k ((t.fs.take i).map (·.n)).reverse (ksP t.k (t.fs.take i)) (mbP (t.fs.take i)) (t.fs.drop i)) ∧ Hid (Mon t.k (t.fs.take i)) ∧ Hid (Tbx w tc wx)) (fun vi _ => t.fs.length - (intOf vi).toNat)
  case atStart => exact ⟨0, by omega, rfl, by show _ = _; rw [HFF.out, List.take_zero, ksP_nil]; rfl, (show Mon t.k (t.fs.take 0) from fun _ g hg => by rw [List.take_zero] at hg; cases hg), HX⟩
  case round =>
    obtain ⟨i, hi, rfl, HE, HM, HXi⟩ := hrel
    clear HX HFF
    have q6 : wr.cell? ⟨w.heap.size, 6, none⟩ = some (.slice af t.fs.length cf) := blk_cell (j := 6) HXi.out.a HT6.out
    by_cases hlt : i < t.fs.length
    case neg => as_aux_lemma =>
      have g1 : ¬ (i : Int) < (t.fs.length : Int) := by omega
      have HR : Hid (fft t = true) := by show _ = _; rw [HE.out, List.drop_eq_nil_of_le (by omega)]; rfl
      clear HE
      go_wp2_with fail
      go_ret
      exact ⟨by rw [HR.out] <;> rfl, HXi.out.b⟩
    have g1 : (i : Int) < (t.fs.length : Int) := by omega
    obtain ⟨f, hf⟩ : ∃ f, t.fs[i]? = some f := ⟨t.fs[i], List.getElem?_eq_getElem hlt⟩
    obtain ⟨b, off, rfl, hcc⟩ := HF.out.resolve_left (fun h => by rw [h] at hlt; simp at hlt)
    have HCC : Hid (∀ (j : Nat) (g : Fd) (wy : World), t.fs[j]? = some g → Below w.heap.size w wy → ∀ (m : Nat) (u : Value), (#[.string g.n, .string g.k, .string g.r.n, .bool g.r.z, .bool g.m] : Array Value)[m]? = some u → wy.cell? ⟨b, off + j * 5 + m, none⟩ = some u) := fun j g wy hg hb m u hu => by
      obtain ⟨c, ⟨rfl, _⟩, hcell⟩ := hcc j g hg
      exact keep_below hb _ _ (hcell m u hu)
    have HSZ : Hid (f.n.size ≤ 140737488351232 ∧ f.k.size ≤ 140737488351232) := by
      obtain ⟨c, ⟨_, h1, h2, _⟩, _⟩ := hcc i f hf
      exact ⟨h1, h2⟩
    have HCL := hide (HCC.out i f wr hf HXi.out.b)
    have HDR : Hid (t.fs.drop i = f :: t.fs.drop (i + 1)) := by
      show _ = _
      rw [List.drop_eq_getElem_cons hlt]
      rw [List.getElem?_eq_getElem hlt] at hf
      injection hf with hf
      rw [hf]
    have HTK : Hid (t.fs.take (i + 1) = t.fs.take i ++ [f]) := by
      show _ = _
      rw [List.take_succ_eq_append_getElem hlt]
      rw [List.getElem?_eq_getElem hlt] at hf
      injection hf with hf
      rw [hf]
    rw [HDR.out] at HE
    have HX2 : Hid (Fdx w tc #[.string f.n, .string f.k, .string f.r.n, .bool f.r.z, .bool f.m] wr.heap.size (wr.alloc (.cells #[.string f.n, .string f.k, .string f.r.n, .bool f.r.z, .bool f.m] 104))) := ⟨HXi.out.next (below_alloc4 wr _), heap_alloc_new wr _⟩
    have HNO : Hid (fok t.k (t.fs.take i) f = false → fft t = false) := fun h => HE.out.trans (ffs_no HM.out h)
    have HYE : Hid (fok t.k (t.fs.take i) f = true → fft t = ffs t.k ((t.fs.take (i + 1)).map (·.n)).reverse (ksP t.k (t.fs.take (i + 1))) (mbP (t.fs.take (i + 1))) (t.fs.drop (i + 1)) ∧ Mon t.k (t.fs.take (i + 1))) := fun h => by
      rw [HTK.out]
      exact ⟨HE.out.trans (ffs_yes h), mon_app HM.out h⟩
    clear hcc hf HF HE HM HXi HDR HTK
    go_upto_region 7 with (refine wpList_aggAt rfl rfl HIF.out HAF.out b (off + i * 5) #[.string f.n, .string f.k, .string f.r.n, .bool f.r.z, .bool f.m] rfl rfl HCL.out ?_)
    generalize hF : wr.heap.size = F at *
    have HFZ := hide hF
    clear hF
    generalize wr.alloc (.cells #[.string f.n, .string f.k, .string f.r.n, .bool f.r.z, .bool f.m] 104) = w2 at *
    have q1 : w2.cell? ⟨w.heap.size, 1, none⟩ = some (.int .i64 t.k) := blk_cell (j := 1) HX2.out.t.a HT1.out
    have c0 : w2.cell? ⟨F, 0, none⟩ = some (.string f.n) := blk_cell (j := 0) HX2.out.f rfl
    have c1 : w2.cell? ⟨F, 1, none⟩ = some (.string f.k) := blk_cell (j := 1) HX2.out.f rfl
    have HNM := hide (named11_any w2 f.n)
    have HGD := hide (good11_any w2 f.k HSZ.out.2)
    rw [show ugood (sl f.k) = !badb f.k by rw [bad_good, Bool.not_not]] at HGD
    have HFO : Hid (fon t.k f = (nbl f.n && (!(decide (t.k = 5) && badb f.k) && !(decide (t.k = 6) && !decide (f.k = ⟨#[]⟩))))) := rfl
    clear q6 HCL HSZ
    go_cut [47] from 23 to 48 (fun v wx => v = .bool (!fon t.k f) ∧ wx = w2)
    case first =>
      cases hn : nbl f.n with
      | false => as_aux_lemma =>
        have HR : Hid (fon t.k f = false) := by show _ = _; rw [HFO.out, hn, Bool.false_and]
        rw [hn] at HNM
        clear HFO hn HGD
        go_wp2_with (go_at_call 54; refine HNM.out.mono ?_; rintro e wq ⟨rfl, hwq⟩; have hwq := hwq.symm; subst hwq)
        go_meet
        case rel => exact ⟨by rw [HR.out] <;> rfl, rfl⟩
      | true =>
        rw [hn] at HNM
        by_cases h5 : t.k = 5
        · have g5 : (t.k == 5) = true := beq_iff_eq.2 h5
          have g6 : (t.k == 6) = false := beq_eq_false_iff_ne.2 (by omega)
          cases hb : badb f.k with
          | true => as_aux_lemma =>
            have HR : Hid (fon t.k f = false) := by show _ = _; rw [HFO.out, hn, hb, decide_eq_true h5]; rfl
            rw [hb] at HGD
            clear HFO hn hb h5
            go_wp2_with (first
              | (go_at_call 54; refine HNM.out.mono ?_; rintro e wq ⟨rfl, hwq⟩; have hwq := hwq.symm; subst hwq)
              | (go_at_call 110; refine HGD.out.mono ?_; rintro e wq ⟨rfl, hwq⟩; have hwq := hwq.symm; subst hwq))
            go_meet
            case rel => exact ⟨by rw [HR.out] <;> rfl, rfl⟩
          | false => as_aux_lemma =>
            have HR : Hid (fon t.k f = true) := by show _ = _; rw [HFO.out, hn, hb, decide_eq_false (show ¬ t.k = 6 by omega)]; simp
            rw [hb] at HGD
            clear HFO hn hb h5
            go_wp2_with (first
              | (go_at_call 54; refine HNM.out.mono ?_; rintro e wq ⟨rfl, hwq⟩; have hwq := hwq.symm; subst hwq)
              | (go_at_call 110; refine HGD.out.mono ?_; rintro e wq ⟨rfl, hwq⟩; have hwq := hwq.symm; subst hwq))
            go_meet
            case rel => exact ⟨by rw [HR.out] <;> rfl, rfl⟩
        have g5 : (t.k == 5) = false := beq_eq_false_iff_ne.2 h5
        by_cases h6 : t.k = 6
        · have g6 : (t.k == 6) = true := beq_iff_eq.2 h6
          by_cases hk : f.k = ⟨#[]⟩
          · as_aux_lemma =>
            have gk : (f.k.toList == []) = true := by rw [hk, emp_l11]; rfl
            have HR : Hid (fon t.k f = true) := by show _ = _; rw [HFO.out, hn, decide_eq_false h5, decide_eq_true hk]; simp
            clear HFO hn h5 h6 hk HGD
            go_wp2_with (go_at_call 54; refine HNM.out.mono ?_; rintro e wq ⟨rfl, hwq⟩; have hwq := hwq.symm; subst hwq)
            go_meet
            case rel => exact ⟨by rw [HR.out] <;> rfl, rfl⟩
          · as_aux_lemma =>
            have gk : (f.k.toList == []) = false := by have := str_no hk; rw [emp_l11] at this; exact this
            have HR : Hid (fon t.k f = false) := by show _ = _; rw [HFO.out, hn, decide_eq_true h6, decide_eq_false hk]; simp
            clear HFO hn h5 h6 hk HGD
            go_wp2_with (go_at_call 54; refine HNM.out.mono ?_; rintro e wq ⟨rfl, hwq⟩; have hwq := hwq.symm; subst hwq)
            go_meet
            case rel => exact ⟨by rw [HR.out] <;> rfl, rfl⟩
        · as_aux_lemma =>
          have g6 : (t.k == 6) = false := beq_eq_false_iff_ne.2 h6
          have HR : Hid (fon t.k f = true) := by show _ = _; rw [HFO.out, hn, decide_eq_false h5, decide_eq_false h6]; rfl
          clear HFO hn h5 h6 HGD
          go_wp2_with (go_at_call 54; refine HNM.out.mono ?_; rintro e wq ⟨rfl, hwq⟩; have hwq := hwq.symm; subst hwq)
          go_meet
          case rel => exact ⟨by rw [HR.out] <;> rfl, rfl⟩
    obtain ⟨rfl, hww⟩ := hcut
    have hww := hww.symm
    subst hww
    clear HFO HNM HGD q1 c0 c1
    cases hfo : fon t.k f with
    | false => as_aux_lemma =>
      have HR : Hid (fft t = false) := HNO.out (fok_no1 hfo)
      clear hfo
      go_wp2_with fail
      go_ret
      exact ⟨by rw [HR.out] <;> rfl, HX2.out.t.b⟩
    | true =>
      have HFO := hide hfo
      clear hfo
      go_wp2_with fail
      go_loopw [5] (fun vj wx => ∃ (j : Nat), j ≤ i ∧ vj = .int .i64 (j : Nat) ∧ Hid (∀ m g, m < j → t.fs[m]? = some g → fpr t.k f g = false) ∧ Hid (Fdx w tc #[.string f.n, .string f.k, .string f.r.n, .bool f.r.z, .bool f.m] F wx)) (fun vj _ => i - (intOf vj).toNat)
      case atStart => exact ⟨0, by omega, rfl, fun m _ hm => absurd hm (by omega), HX2⟩
      case round =>
        rename World => wq
        obtain ⟨j, hj, rfl, HP, HXj⟩ := hrel
        clear HX2
        by_cases hjl : j < i
        case neg => as_aux_lemma =>
          have g2 : ¬ (j : Int) < (i : Int) := by omega
          have HY := hide (HYE.out (fok_yes HFO.out (fun m g hm hg => HP.out m g (by rw [List.length_take] at hm; omega) (by
            rw [List.getElem?_take] at hg
            split at hg
            · exact hg
            · cases hg))))
          go_wp2_with fail
          go_roundw
          case rel => exact ⟨i + 1, by omega, by go_num, HY.out.1, HY.out.2, HXj.out.t⟩
          case measure => simp [intOf]; omega
        have g2 : (j : Int) < (i : Int) := by omega
        have g3 : (j : Int) < (t.fs.length : Int) := by omega
        obtain ⟨g, hg⟩ : ∃ g, t.fs[j]? = some g := ⟨t.fs[j], List.getElem?_eq_getElem (by omega)⟩
        have HCL := hide (HCC.out j g wq hg HXj.out.t.b)
        have q6 : wq.cell? ⟨w.heap.size, 6, none⟩ = some (.slice (some ⟨b, off, none⟩) t.fs.length cf) := blk_cell (j := 6) HXj.out.t.a HT6.out
        have HX3 := hide (HXj.out.next (below_alloc4 wq (.cells #[.string g.n, .string g.k, .string g.r.n, .bool g.r.z, .bool g.m] 104)))
        have HG3 : Hid ((wq.alloc (.cells #[.string g.n, .string g.k, .string g.r.n, .bool g.r.z, .bool g.m] 104)).heap[wq.heap.size]? = some (.cells #[.string g.n, .string g.k, .string g.r.n, .bool g.r.z, .bool g.m] 104 (0, 0))) := heap_alloc_new wq _
        have HBA : Hid (fpr t.k f g = true → fft t = false) := fun h => HNO.out (fok_no2 (g := g) (by
          rw [List.mem_iff_getElem?]
          exact ⟨j, by rw [List.getElem?_take_of_lt hjl]; exact hg⟩) h)
        have HNX : Hid (fpr t.k f g = false → ∀ m g, m < j + 1 → t.fs[m]? = some g → fpr t.k f g = false) := fun h m g' hm hg' => by
          by_cases e : m = j
          · subst e
            rw [hg] at hg'
            rw [← Option.some.inj hg']
            exact h
          · exact HP.out m g' (by omega) hg'
        clear hg HP HXj HNO HYE
        go_upto_region 13 with (refine wpList_aggAt rfl rfl HIF.out HAF.out b (off + j * 5) #[.string g.n, .string g.k, .string g.r.n, .bool g.r.z, .bool g.m] rfl rfl HCL.out ?_)
        generalize hGz : wq.heap.size = G at *
        have HGZ := hide hGz
        clear hGz
        generalize wq.alloc (.cells #[.string g.n, .string g.k, .string g.r.n, .bool g.r.z, .bool g.m] 104) = w3 at *
        have q1 : w3.cell? ⟨w.heap.size, 1, none⟩ = some (.int .i64 t.k) := blk_cell (j := 1) HX3.out.t.a HT1.out
        have c0 : w3.cell? ⟨F, 0, none⟩ = some (.string f.n) := blk_cell (j := 0) HX3.out.f rfl
        have c1 : w3.cell? ⟨F, 1, none⟩ = some (.string f.k) := blk_cell (j := 1) HX3.out.f rfl
        have c4 : w3.cell? ⟨F, 4, none⟩ = some (.bool f.m) := blk_cell (j := 4) HX3.out.f rfl
        have d0 : w3.cell? ⟨G, 0, none⟩ = some (.string g.n) := blk_cell (j := 0) HG3.out rfl
        have d1 : w3.cell? ⟨G, 1, none⟩ = some (.string g.k) := blk_cell (j := 1) HG3.out rfl
        have d4 : w3.cell? ⟨G, 4, none⟩ = some (.bool g.m) := blk_cell (j := 4) HG3.out rfl
        have HFP : Hid (fpr t.k f g = (decide (g.n = f.n) || (decide (t.k = 5) && decide (g.k = f.k) || decide (t.k = 6) && (g.m && !f.m)))) := rfl
        clear q6 HCL HG3 HFO
        go_cut [88] from 58 to 89 (fun v wx => v = .bool (fpr t.k f g) ∧ wx = w3)
        case first =>
          by_cases hn : g.n = f.n
          · as_aux_lemma =>
            have e1 : (g.n.toList == f.n.toList) = true := by rw [hn]; exact str_yes _
            have HR : Hid (fpr t.k f g = true) := by show _ = _; rw [HFP.out, decide_eq_true hn]; rfl
            clear HFP hn
            go_wp2_with fail
            go_meet
            case rel => exact ⟨by rw [HR.out] <;> rfl, rfl⟩
          have e1 := str_no hn
          by_cases h5 : t.k = 5
          · have g5 : (t.k == 5) = true := beq_iff_eq.2 h5
            have g6 : (t.k == 6) = false := beq_eq_false_iff_ne.2 (by omega)
            by_cases hk : g.k = f.k
            · as_aux_lemma =>
              have e2 : (g.k.toList == f.k.toList) = true := by rw [hk]; exact str_yes _
              have HR : Hid (fpr t.k f g = true) := by show _ = _; rw [HFP.out, decide_eq_true h5, decide_eq_true hk]; simp
              clear HFP hn h5 hk
              go_wp2_with fail
              go_meet
              case rel => exact ⟨by rw [HR.out] <;> rfl, rfl⟩
            · as_aux_lemma =>
              have e2 := str_no hk
              have HR : Hid (fpr t.k f g = false) := by show _ = _; rw [HFP.out, decide_eq_false hn, decide_eq_false hk, decide_eq_false (show ¬ t.k = 6 by omega)]; simp
              clear HFP hn h5 hk
              go_wp2_with fail
              go_meet
              case rel => exact ⟨by rw [HR.out] <;> rfl, rfl⟩
          have g5 : (t.k == 5) = false := beq_eq_false_iff_ne.2 h5
          by_cases h6 : t.k = 6
          · as_aux_lemma =>
            have g6 : (t.k == 6) = true := beq_iff_eq.2 h6
            have HR : Hid (fpr t.k f g = (g.m && !f.m)) := by show _ = _; rw [HFP.out, decide_eq_false hn, decide_eq_false h5, decide_eq_true h6]; simp
            clear HFP hn h5 h6
            generalize f.m = fm at *
            generalize g.m = gm at *
            cases gm <;> cases fm <;> (
              go_wp2_with fail
              go_meet
              case rel => exact ⟨by rw [HR.out] <;> rfl, rfl⟩)
          · as_aux_lemma =>
            have g6 : (t.k == 6) = false := beq_eq_false_iff_ne.2 h6
            have HR : Hid (fpr t.k f g = false) := by show _ = _; rw [HFP.out, decide_eq_false hn, decide_eq_false h5, decide_eq_false h6]; rfl
            clear HFP hn h5 h6
            go_wp2_with fail
            go_meet
            case rel => exact ⟨by rw [HR.out] <;> rfl, rfl⟩
        obtain ⟨rfl, hww⟩ := hcut
        have hww := hww.symm
        subst hww
        clear HFP q1 c0 c1 c4 d0 d1 d4
        cases hfp : fpr t.k f g with
        | true => as_aux_lemma =>
          have HR : Hid (fft t = false) := HBA.out hfp
          clear hfp
          go_wp2_with fail
          go_ret
          exact ⟨by rw [HR.out] <;> rfl, HX3.out.t.b⟩
        | false => as_aux_lemma =>
          have HR := hide (HNX.out hfp)
          clear hfp
          go_wp2_with fail
          go_roundw
          case rel => exact ⟨j + 1, by omega, by go_num, HR, HX3⟩
          case measure => simp [intOf]; omega
end
section
open Go.RowKit Go
theorem seen_take {l : List Tp} {cs : List Cz} {i : Nat} {x : Cz} (hx : cs[i]? = some x) : ((cs.take (i + 1)).map (fun x => ckd l x.n)).reverse = ckd l x.n :: ((cs.take i).map (fun x => ckd l x.n)).reverse := by
  obtain ⟨hl, he⟩ := List.getElem?_eq_some_iff.1 hx
  rw [List.take_succ_eq_append_getElem hl, List.map_append, List.reverse_append, he]
  rfl
set_option maxRecDepth 1000000 in
set_option maxHeartbeats 2000000 in
theorem kinded11_any (w : World) (v : Value) (l : List Tp) (hv : TSl w v l) (F : Fst l) (t : Tp) (c : Array Value) (hc : Tpi w t c) (hE : ∀ x ∈ t.cs, (flr l x.n).2.2 = true ∧ (fnd l x.n).2 = true) : Calls Tryz.prog 61 #[v, .agg c] w fun e w' => e = .returned (.bool (kap l [] t.cs)) ∧ Below w.heap.size w w' := by
  have hmax := hv.max
  obtain ⟨⟨vf, vc, vw, rfl, ⟨⟨af, cf, rfl, -, -⟩, -⟩, ⟨⟨ac, cc, rfl, -, hcf⟩, hcm⟩, ⟨⟨aw, cw, rfl, -, -⟩, -, -⟩⟩, -⟩ := hc
  have HC := hide hcf
  have HF := hide F
  have HEN := hide hE
  clear hcf F hE
  unfold tpc
  have HX := hide (Tbx.start w #[.string t.n, .int .i64 t.k, .int .i64 t.lo, .int .i64 t.hi, .string t.r.n, .bool t.r.z, .slice af t.fs.length cf, .slice ac t.cs.length cc, .slice aw t.ws.length cw])
  have HT7 : Hid ((#[.string t.n, .int .i64 t.k, .int .i64 t.lo, .int .i64 t.hi, .string t.r.n, .bool t.r.z, .slice af t.fs.length cf, .slice ac t.cs.length cc, .slice aw t.ws.length cw] : Array Value)[7]? = some (.slice ac t.cs.length cc)) := rfl
  have HV1 : Hid (TSl (w.alloc (.cells #[.string t.n, .int .i64 t.k, .int .i64 t.lo, .int .i64 t.hi, .string t.r.n, .bool t.r.z, .slice af t.fs.length cf, .slice ac t.cs.length cc, .slice aw t.ws.length cw] 69)) v l) := TSl.mv hv (keep_below HX.out.b)
  obtain ⟨⟨a, cap, rfl, hn, hcl⟩, _⟩ := hv
  clear hn hcl
  go_enter Tryz.func61, Tryz.ntmps61
  go_upto_region 1 with fail
  generalize w.alloc (.cells #[.string t.n, .int .i64 t.k, .int .i64 t.lo, .int .i64 t.hi, .string t.r.n, .bool t.r.z, .slice af t.fs.length cf, .slice ac t.cs.length cc, .slice aw t.ws.length cw] 69) = w1 at *
  have q7 : w1.cell? ⟨w.heap.size, 7, none⟩ = some (.slice ac t.cs.length cc) := blk_cell (j := 7) HX.out.a HT7.out
  have HTP : Hid (∀ (j : Nat) (u : Tp), l[j]? = some u → ∃ b off, a = some ⟨b, off, none⟩ ∧ w1.cell? ⟨b, off + j * 9 + 1, none⟩ = some (.int .i64 u.k)) := fun j u hu => by
    obtain ⟨⟨a', cap', e, _, hcl⟩, _⟩ := HV1.out
    injection e with e1 _ _
    subst e1
    rcases hcl with h | ⟨b, off, ea, h⟩
    · rw [h] at hu; cases hu
    · obtain ⟨c, ⟨⟨vf, vc, vw, rfl, _⟩, _⟩, hcell⟩ := h j u hu
      exact ⟨b, off, ea, hcell 1 (.int .i64 u.k) rfl⟩
  have HCN : Hid (∀ (j : Nat) (x : Cz), t.cs[j]? = some x → ∃ b off, ac = some ⟨b, off, none⟩ ∧ w1.cell? ⟨b, off + j * 2 + 1, none⟩ = some (.string x.n)) := fun j x hx => by
    rcases HC.out with h | ⟨b, off, ea, h⟩
    · rw [h] at hx; cases hx
    · obtain ⟨c, ⟨rfl, _⟩, hcell⟩ := h j x hx
      exact ⟨b, off, ea, keep_below HX.out.b _ _ (hcell 1 (.string x.n) rfl)⟩
  have HB := hide HX.out.b
  clear HX HC HT7
  go_wp2_with fail
  go_loopw [5] (fun vi wx => ∃ (i : Nat), i ≤ t.cs.length ∧ vi = .int .i64 (i : Nat) ∧ wx = w1 ∧ Hid (kap l [] t.cs = kap l ((t.cs.take i).map (fun x => ckd l x.n)).reverse (t.cs.drop i)) ∧ Hid (∀ x ∈ t.cs.take i, Cok l x.n)) (fun vi _ => t.cs.length - (intOf vi).toNat)
  case atStart => exact ⟨0, by omega, rfl, rfl, rfl, (fun x hx => by rw [List.take_zero] at hx; cases hx)⟩
  case round =>
    obtain ⟨i, hi, rfl, hww, HE, HOK⟩ := hrel
    have hww := hww.symm
    subst hww
    by_cases hlt : i < t.cs.length
    case neg => as_aux_lemma =>
      have g1 : ¬ (i : Int) < (t.cs.length : Int) := by omega
      have HR : Hid (kap l [] t.cs = true) := by show _ = _; rw [HE.out, List.drop_eq_nil_of_le (by omega)]; rfl
      clear HE
      go_wp2_with fail
      go_ret
      exact ⟨by rw [HR.out] <;> rfl, HB.out⟩
    have g1 : (i : Int) < (t.cs.length : Int) := by omega
    obtain ⟨x, hx⟩ : ∃ x, t.cs[i]? = some x := ⟨t.cs[i], List.getElem?_eq_getElem hlt⟩
    obtain ⟨b, off, rfl, qn⟩ := HCN.out i x hx
    have HDR : Hid (t.cs.drop i = x :: t.cs.drop (i + 1)) := by
      show _ = _
      rw [List.drop_eq_getElem_cons hlt]
      rw [List.getElem?_eq_getElem hlt] at hx
      injection hx with hx
      rw [hx]
    rw [HDR.out] at HE
    have HSE := hide (seen_take (l := l) hx)
    have HXE := hide (HEN.out x (List.mem_of_getElem? hx))
    have HFO := hide (follow11_any w1 _ l HV1.out x.n)
    rw [HXE.out.1] at HFO
    have HPL := hide (place11_any w1 _ l HV1.out (flr l x.n).1)
    have HTK : Hid (t.cs.take (i + 1) = t.cs.take i ++ [x]) := by
      show _ = _
      rw [List.take_succ_eq_append_getElem hlt]
      rw [List.getElem?_eq_getElem hlt] at hx
      injection hx with hx
      rw [hx]
    have HBD : Hid ((flr l x.n).2.1 = true ∨ ckd l x.n = 0 ∨ ckd l x.n ∈ ((t.cs.take i).map (fun x => ckd l x.n)).reverse → kap l [] t.cs = false) := fun h => HE.out.trans (kap_bad HF.out h)
    have HGO : Hid (Cok l x.n → ckd l x.n ∉ ((t.cs.take i).map (fun x => ckd l x.n)).reverse → kap l [] t.cs = kap l ((t.cs.take (i + 1)).map (fun x => ckd l x.n)).reverse (t.cs.drop (i + 1)) ∧ ∀ y ∈ t.cs.take (i + 1), Cok l y.n) := fun h1 h2 => by
      rw [HSE.out]
      refine ⟨HE.out.trans (kap_next HF.out h1 h2), fun y hy => ?_⟩
      rw [HTK.out] at hy
      rcases List.mem_append.1 hy with hy | hy
      · exact HOK.out y hy
      · rw [List.mem_singleton.1 hy]; exact h1
    clear hx HE HDR HSE HTK
    obtain ⟨Z, hZ⟩ : ∃ Z, (flr l x.n).2.1 = Z := ⟨_, rfl⟩
    obtain ⟨E, hEE⟩ : ∃ E, (flr l x.n).1 = E := ⟨_, rfl⟩
    rw [hZ, hEE] at HFO
    rw [hEE] at HPL
    have HZ := hide hZ
    have HEE := hide hEE
    clear hZ hEE
    obtain ⟨P, hP⟩ : ∃ P, pli l E = P := ⟨_, rfl⟩
    rw [hP] at HPL
    have HPP := hide hP
    clear hP
    go_upto_region 7 with (first
      | (go_at_call 23; refine HFO.out.mono ?_; rintro e wq ⟨rfl, hwq⟩; have hwq := hwq.symm; subst hwq)
      | (go_at_call 56; refine HPL.out.mono ?_; rintro e wq ⟨rfl, hwq⟩; have hwq := hwq.symm; subst hwq))
    go_cut [48] from 36 to 49 (fun v wx => ∃ ok : Bool, v = .bool (!ok) ∧ wx = w1 ∧ Hid ((ok = true → Cok l x.n) ∧ (ok = false → kap l [] t.cs = false)))
    case first =>
      cases Z with
      | true => as_aux_lemma =>
        have HR := hide (HBD.out (.inl HZ.out))
        go_wp2_with fail
        go_meet
        case rel => exact ⟨false, rfl, rfl, (fun h => by cases h), fun _ => HR.out⟩
      | false =>
        cases hp : plc l E with
        | none => as_aux_lemma =>
          have HPE : P = -1 := by rw [← HPP.out]; unfold pli; rw [hp]
          have HR : Hid (Cok l x.n) := ⟨HXE.out.1, flr_fen HF.out HXE.out.2 HXE.out.1, HZ.out, by rw [HEE.out, fnd_none_k hp]; decide⟩
          subst HPE
          clear hp HPP
          go_wp2_with fail
          go_meet
          case rel => exact ⟨true, rfl, rfl, fun _ => HR.out, (fun h => by cases h)⟩
        | some j =>
          have HPE : P = (j : Nat) := by rw [← HPP.out]; unfold pli; rw [hp]
          obtain ⟨u, hu, hun⟩ := plc_lt hp
          obtain ⟨b2, off2, rfl, qk⟩ := HTP.out j u hu
          have hjl : j < l.length := (List.getElem?_eq_some_iff.1 hu).1
          have g2 : (j : Int) < (l.length : Int) := by omega
          have g3 : (0 : Int) ≤ (j : Int) := by omega
          subst HPE
          by_cases h8 : u.k = 8
          · as_aux_lemma =>
            have g8 : (u.k == 8) = true := beq_iff_eq.2 h8
            have HR := hide (HBD.out (.inr (.inl (ckd_8 HF.out (by rw [HEE.out]; exact hp) hu h8))))
            clear hp HPP hu hun h8
            go_wp2_with fail
            go_meet
            case rel => exact ⟨false, rfl, rfl, (fun h => by cases h), fun _ => HR.out⟩
          · as_aux_lemma =>
            have g8 : (u.k == 8) = false := beq_eq_false_iff_ne.2 h8
            have HR : Hid (Cok l x.n) := ⟨HXE.out.1, flr_fen HF.out HXE.out.2 HXE.out.1, HZ.out, by rw [HEE.out, fnd_some hp hu]; exact h8⟩
            clear hp HPP hu hun h8
            go_wp2_with fail
            go_meet
            case rel => exact ⟨true, rfl, rfl, fun _ => HR.out, (fun h => by cases h)⟩
    obtain ⟨ok, rfl, hww, HK⟩ := hcut
    have hww := hww.symm
    subst hww
    clear HPL HFO HZ HEE HXE HPP
    cases ok with
    | false => as_aux_lemma =>
      have HR := hide (HK.out.2 rfl)
      clear HK
      go_wp2_with fail
      go_ret
      exact ⟨by rw [HR.out] <;> rfl, HB.out⟩
    | true =>
      have HCX := hide (HK.out.1 rfl)
      have HRX := hide (HCX.out.kind HF.out)
      clear HK
      go_wp2_with fail
      go_loopw [11] (fun vj wx => ∃ (j : Nat), j ≤ i ∧ vj = .int .i64 (j : Nat) ∧ wx = w1 ∧ Hid (∀ m y, m < j → t.cs[m]? = some y → ckd l y.n ≠ ckd l x.n)) (fun vj _ => i - (intOf vj).toNat)
      case atStart => exact ⟨0, by omega, rfl, rfl, fun m _ hm => absurd hm (by omega)⟩
      case round =>
        obtain ⟨j, hj, rfl, hww, HNE⟩ := hrel
        have hww := hww.symm
        subst hww
        by_cases hjl : j < i
        case neg => as_aux_lemma =>
          have g2 : ¬ (j : Int) < (i : Int) := by omega
          have HG := hide (HGO.out HCX.out (fun hm => by
            rw [List.mem_reverse] at hm
            obtain ⟨y, hy, e⟩ := List.mem_map.1 hm
            obtain ⟨m, hm2, e2⟩ := List.getElem_of_mem hy
            rw [List.length_take] at hm2
            refine HNE.out m y (by omega) ?_ e
            rw [← e2, List.getElem_take]
            exact List.getElem?_eq_getElem _))
          go_wp2_with fail
          go_roundw
          case rel => exact ⟨i + 1, by omega, by go_num, trivial, HG.out.1, HG.out.2⟩
          case measure => simp [intOf]; omega
        have g2 : (j : Int) < (i : Int) := by omega
        have g3 : (j : Int) < (t.cs.length : Int) := by omega
        obtain ⟨y, hy⟩ : ∃ y, t.cs[j]? = some y := ⟨t.cs[j], List.getElem?_eq_getElem (by omega)⟩
        obtain ⟨b3, off3, eb, qy⟩ := HCN.out j y hy
        injection eb with eb
        injection eb with eb1 eb2 _
        subst eb1
        subst eb2
        have HMY : Hid (y ∈ t.cs.take i) := by
          show _ ∈ _
          rw [List.mem_iff_getElem?]
          exact ⟨j, by rw [List.getElem?_take_of_lt hjl]; exact hy⟩
        have HCY := hide (HOK.out y HMY.out)
        have HTX : Hid (∀ kd : Nat, Calls Tryz.prog 113 #[.slice a l.length cap, .string x.n, .int .i64 (kd : Nat)] w1 fun e w' => e = .returned (.bool (decide (ckd l x.n = kd))) ∧ w' = w1) := fun kd => takes11_any w1 _ l HV1.out HF.out x.n HCX.out kd
        have HTY : Hid (∀ kd : Nat, Calls Tryz.prog 113 #[.slice a l.length cap, .string y.n, .int .i64 (kd : Nat)] w1 fun e w' => e = .returned (.bool (decide (ckd l y.n = kd))) ∧ w' = w1) := fun kd => takes11_any w1 _ l HV1.out HF.out y.n HCY.out kd
        have HNX : Hid (ckd l y.n ≠ ckd l x.n → ∀ m z, m < j + 1 → t.cs[m]? = some z → ckd l z.n ≠ ckd l x.n) := fun h m z hm hz => by
          by_cases e : m = j
          · subst e
            rw [hy] at hz
            rw [← Option.some.inj hz]
            exact h
          · exact HNE.out m z (by omega) hz
        have HBY : Hid (ckd l y.n = ckd l x.n → kap l [] t.cs = false) := fun h => HBD.out (.inr (.inr (by
          rw [List.mem_reverse]
          exact List.mem_map.2 ⟨y, HMY.out, h⟩)))
        clear hy HNE HMY
        generalize ckd l x.n = X at *
        generalize ckd l y.n = Y at *
        go_wp2_with fail
        go_loopw [12] (fun vk wx => ∃ (kd : Nat), kd ≤ 10 ∧ vk = .int .i64 (kd : Nat) ∧ wx = w1 ∧ Hid (Y = X → kd ≤ X)) (fun vk _ => 10 - (intOf vk).toNat)
        case atStart => exact ⟨1, by omega, rfl, rfl, fun _ => by have := HRX.out; omega⟩
        case round =>
          obtain ⟨kd, hkd, rfl, hww, HY⟩ := hrel
          have hww := hww.symm
          subst hww
          by_cases hk9 : kd ≤ 9
          case neg => as_aux_lemma =>
            have g4 : ¬ (kd : Int) ≤ 9 := by omega
            have HG := hide (HNX.out (fun h => by have h1 := HY.out h; have h2 := HRX.out; omega))
            go_wp2_with fail
            go_roundw
            case rel => exact ⟨j + 1, by omega, by go_num, trivial, HG⟩
            case measure => simp [intOf]; omega
          have g4 : (kd : Int) ≤ 9 := by omega
          have HTX1 := hide (HTX.out kd)
          have HTY1 := hide (HTY.out kd)
          by_cases hX : X = kd
          · rw [decide_eq_true hX] at HTX1
            by_cases hY : Y = kd
            · as_aux_lemma =>
              rw [decide_eq_true hY] at HTY1
              have HR := hide (HBY.out (hY.trans hX.symm))
              clear hX hY HTX HTY HY HRX HBY HNX
              go_wp2_with (first
                | (go_at_call 113; with_reducible refine HTX1.out.mono ?_; rintro e wq ⟨rfl, hwq⟩; have hwq := hwq.symm; subst hwq)
                | (go_at_call 113; with_reducible refine HTY1.out.mono ?_; rintro e wq ⟨rfl, hwq⟩; have hwq := hwq.symm; subst hwq))
              go_ret
              exact ⟨by rw [HR.out] <;> rfl, HB.out⟩
            · as_aux_lemma =>
              rw [decide_eq_false hY] at HTY1
              have HY2 : Hid (Y = X → kd + 1 ≤ X) := fun h => absurd (h.trans hX) hY
              clear hX hY HTX HTY HY HRX HBY HNX
              go_wp2_with (first
                | (go_at_call 113; with_reducible refine HTX1.out.mono ?_; rintro e wq ⟨rfl, hwq⟩; have hwq := hwq.symm; subst hwq)
                | (go_at_call 113; with_reducible refine HTY1.out.mono ?_; rintro e wq ⟨rfl, hwq⟩; have hwq := hwq.symm; subst hwq))
              go_roundw
              case rel => exact ⟨kd + 1, by omega, by go_num, trivial, HY2⟩
              case measure => simp [intOf]; omega
          · as_aux_lemma =>
            rw [decide_eq_false hX] at HTX1
            have HY2 : Hid (Y = X → kd + 1 ≤ X) := fun h => by have := HY.out h; omega
            clear hX HTX HTY HY HRX HBY HNX HTY1
            go_wp2_with (go_at_call 113; with_reducible refine HTX1.out.mono ?_; rintro e wq ⟨rfl, hwq⟩; have hwq := hwq.symm; subst hwq)
            go_roundw
            case rel => exact ⟨kd + 1, by omega, by go_num, trivial, HY2⟩
            case measure => simp [intOf]; omega
end
section
open Go.RowKit Go
set_option maxRecDepth 1000000 in
set_option maxHeartbeats 1000000 in
theorem refs11_any (w : World) (t : Tp) (c : Array Value) (hc : Tpi w t c) (hf1 : t.fs.length ≤ 1000) (hc1 : t.cs.length ≤ 1000) : Calls Tryz.prog 58 #[.agg c] w fun e w' => ∃ v, e = .returned v ∧ Hid (RSl w' v (rfs t) ∧ Below w.heap.size w w') := by
  obtain ⟨⟨vf, vc, vw, rfl, ⟨⟨af, cf, rfl, -, hff⟩, hfm⟩, ⟨⟨ac, cc, rfl, -, hcf⟩, hcm⟩, ⟨⟨aw, cw, rfl, -, -⟩, hwm, -⟩⟩, hbd⟩ := hc
  have HF := hide hff
  have HC := hide hcf
  have HBD := hide hbd.r
  have HFS : Hid (∀ f ∈ t.fs, f.r.n.size ≤ 140737488351232) := fun f hf => by
    obtain ⟨i, hi, e⟩ := List.getElem_of_mem hf
    rcases hff with h | ⟨b, off, _, h⟩
    · rw [h] at hf; cases hf
    · obtain ⟨_, ⟨_, _, _, h3⟩, _⟩ := h i f (by rw [List.getElem?_eq_getElem hi, e])
      exact h3
  have HCS : Hid (∀ x ∈ t.cs, x.n.size ≤ 140737488351232) := fun x hx => by
    obtain ⟨i, hi, e⟩ := List.getElem_of_mem hx
    rcases hcf with h | ⟨b, off, _, h⟩
    · rw [h] at hx; cases hx
    · obtain ⟨_, ⟨_, _, h3⟩, _⟩ := h i x (by rw [List.getElem?_eq_getElem hi, e])
      exact h3
  have HF1 := hide hf1
  have HC1 := hide hc1
  unfold tpc
  clear hff hcf hbd hwm
  have HIR := hide infoRf
  have HAR : Hid (∀ w, (isAgg 65).run Tryz.prog w = .ok true w) := aggRf
  go_enter Tryz.func58, Tryz.ntmps58
  go_upto_region 1 with fail
  generalize hw1 : w.alloc (.cells #[.string t.n, .int .i64 t.k, .int .i64 t.lo, .int .i64 t.hi, .string t.r.n, .bool t.r.z, .slice af t.fs.length cf, .slice ac t.cs.length cc, .slice aw t.ws.length cw] 69) = w1 at *
  have HR := hide (Rfp.start hw1.symm)
  clear hw1
  have HT6 : Hid ((#[.string t.n, .int .i64 t.k, .int .i64 t.lo, .int .i64 t.hi, .string t.r.n, .bool t.r.z, .slice af t.fs.length cf, .slice ac t.cs.length cc, .slice aw t.ws.length cw] : Array Value)[6]? = some (.slice af t.fs.length cf)) := rfl
  have HT7 : Hid ((#[.string t.n, .int .i64 t.k, .int .i64 t.lo, .int .i64 t.hi, .string t.r.n, .bool t.r.z, .slice af t.fs.length cf, .slice ac t.cs.length cc, .slice aw t.ws.length cw] : Array Value)[7]? = some (.slice ac t.cs.length cc)) := rfl
  have q1 : w1.cell? ⟨w.heap.size, 1, none⟩ = some (.int .i64 t.k) := blk_cell (j := 1) HR.out.a rfl
  have HRF : Hid (∀ j u, (#[.string t.r.n, .bool t.r.z] : Array Value)[j]? = some u → w1.cell? ⟨w.heap.size, 4 + j, none⟩ = some u) := sub_cell HR.out.a (fun j u hj => by
    rcases j with _ | _ | j
    · exact hj
    · exact hj
    · simp at hj)
  obtain ⟨tc, htc⟩ : ∃ tc : Array Value, tc = #[.string t.n, .int .i64 t.k, .int .i64 t.lo, .int .i64 t.hi, .string t.r.n, .bool t.r.z, .slice af t.fs.length cf, .slice ac t.cs.length cc, .slice aw t.ws.length cw] := ⟨_, rfl⟩
  rw [← htc] at HR HT6 HT7
  clear htc
  go_upto_region 2 with fail
  go_cut [18] from 6 to 19 (fun v wx => v = .bool (decide (t.k = 1 ∨ t.k = 3 ∨ t.k = 4)) ∧ wx = w1)
  case first =>
    as_aux_lemma =>
    by_cases h1 : t.k = 1
    · have g1 : (t.k == 1) = true := beq_iff_eq.2 h1
      have HI : Hid (decide (t.k = 1 ∨ t.k = 3 ∨ t.k = 4) = true) := decide_eq_true (.inl h1)
      clear h1
      go_wp2_with fail
      go_meet
      case rel => exact ⟨by rw [HI.out], rfl⟩
    have g1 : (t.k == 1) = false := beq_eq_false_iff_ne.2 h1
    by_cases h3 : t.k = 3
    · have g3 : (t.k == 3) = true := beq_iff_eq.2 h3
      have HI : Hid (decide (t.k = 1 ∨ t.k = 3 ∨ t.k = 4) = true) := decide_eq_true (.inr (.inl h3))
      clear h1 h3
      go_wp2_with fail
      go_meet
      case rel => exact ⟨by rw [HI.out], rfl⟩
    have g3 : (t.k == 3) = false := beq_eq_false_iff_ne.2 h3
    by_cases h4 : t.k = 4
    · have g4 : (t.k == 4) = true := beq_iff_eq.2 h4
      have HI : Hid (decide (t.k = 1 ∨ t.k = 3 ∨ t.k = 4) = true) := decide_eq_true (.inr (.inr h4))
      clear h1 h3 h4
      go_wp2_with fail
      go_meet
      case rel => exact ⟨by rw [HI.out], rfl⟩
    have g4 : (t.k == 4) = false := beq_eq_false_iff_ne.2 h4
    have HI : Hid (decide (t.k = 1 ∨ t.k = 3 ∨ t.k = 4) = false) := decide_eq_false (fun h => h.elim h1 (fun h => h.elim h3 h4))
    clear h1 h3 h4
    go_wp2_with fail
    go_meet
    case rel => exact ⟨by rw [HI.out], rfl⟩
  obtain ⟨rfl, hww⟩ := hcut
  have hww := hww.symm
  subst hww
  generalize hkb : decide (t.k = 1 ∨ t.k = 3 ∨ t.k = 4) = kb
  have HKB := hide hkb
  clear hkb
  go_upto_if 18 with fail
  go_cut [3] from 19 to 24 (fun v wx => ∃ a0 n0 c0, v = .slice a0 n0 c0 ∧ Hid (Rfp w tc (.slice a0 n0 c0) (if kb = true then [t.r] else []) wx))
  case first =>
    as_aux_lemma =>
    cases kb with
    | true =>
      have HR1 : Hid (∀ (ops : Array Oper) (rest : List Oper) (o : Oper) (a : Act) (Q : Exit → Act → World → Prop) (s x : Operand), o.guard = none → o.op = .call { callee := .builtin .append, args := #[s, x], argTypes := #[121, 121] } → a.eval s = .slice none 0 0 → a.eval x = .slice (some ⟨w1.heap.size, 0, none⟩) 1 1 → (∀ v' w', Rfp w tc v' [t.r] w' → wpList Tryz.prog ops Q rest (a.put o.dst v') w') → wpList Tryz.prog ops Q (o :: rest) a (w1.alloc (.cells #[.string t.r.n, .bool t.r.z] 65))) := fun ops rest o a Q s x h1 h2 h3 h4 h5 => append_rf (r := t.r) h1 h2 h3 HR.out h4 (by decide) h5
      go_wp2_with (first
        | (refine wpList_aggAt rfl rfl HIR.out HAR.out w.heap.size 4 #[.string t.r.n, .bool t.r.z] rfl rfl HRF.out ?_)
        | (refine row1 infoRfs Tryz.underlying121 (by decide) (by decide) rfl rfl rfl (c := #[.string t.r.n, .bool t.r.z]) rfl rfl ?_)
        | (refine HR1.out _ _ _ _ _ _ _ rfl rfl rfl rfl ?_; intro v' w' hr'))
      obtain ⟨a0, c0, hv0, _⟩ := own_formG hr'.o
      subst hv0
      go_meet
      case rel => exact ⟨_, _, _, rfl, hr'⟩
    | false =>
      go_wp2_with fail
      go_meet
      case rel => exact ⟨_, _, _, rfl, HR.out⟩
  obtain ⟨a0, n0, c0, rfl, HP⟩ := hcut
  clear HR q1 HRF
  generalize hR0 : (if kb = true then [t.r] else []) = R0 at *
  have HR0 : Hid (rfs t = R0 ++ t.fs.map (·.r) ++ t.cs.map (fun c => ⟨c.n, false⟩)) := by
    show _ = _
    unfold rfs
    rw [← hR0, ← HKB.out]
    simp only [decide_eq_true_eq]
  have HL0 : Hid (R0.length ≤ 1) := by
    show _ ≤ _
    rw [← hR0]
    split <;> simp
  have HB0 : Hid (∀ r ∈ R0, r.n.size ≤ 140737488351232) := fun r hr => by
    rw [← hR0] at hr
    split at hr
    · rw [List.mem_singleton.1 hr]; exact HBD.out
    · cases hr
  clear hR0 HKB
  rename World => w2
  go_wp2_with fail
  go_loopw [3, 4] (fun v vi wx => ∃ (i : Nat) (a0 : Option Addr) (n0 c0 : Nat), i ≤ t.fs.length ∧ v = .slice a0 n0 c0 ∧ vi = .int .i64 (i : Nat) ∧ Hid (Rfp w tc (.slice a0 n0 c0) (R0 ++ (t.fs.take i).map (·.r)) wx)) (fun _ vi _ => t.fs.length - (intOf vi).toNat)
  case atStart => exact ⟨0, a0, n0, c0, by omega, rfl, rfl, (by show Rfp w tc _ _ _; rw [List.take_zero, List.map_nil, List.append_nil]; exact HP.out)⟩
  case round =>
    obtain ⟨i, a1, n1, c1, hi, rfl, rfl, HPi⟩ := hrel
    clear HP
    have q6 : wr.cell? ⟨w.heap.size, 6, none⟩ = some (.slice af t.fs.length cf) := blk_cell (j := 6) HPi.out.a HT6.out
    by_cases hlt : i < t.fs.length
    · as_aux_lemma =>
      have g1 : (i : Int) < (t.fs.length : Int) := by omega
      obtain ⟨f, hf⟩ : ∃ f, t.fs[i]? = some f := ⟨t.fs[i], List.getElem?_eq_getElem hlt⟩
      obtain ⟨b, off, rfl, hcc⟩ := HF.out.resolve_left (fun h => by rw [h] at hlt; simp at hlt)
      obtain ⟨c, ⟨rfl, _⟩, hcell⟩ := hcc i f hf
      unfold fdc at hcell
      have HRF : Hid (∀ j u, (#[.string f.r.n, .bool f.r.z] : Array Value)[j]? = some u → wr.cell? ⟨b, off + i * 5 + 2 + j, none⟩ = some u) := fun j u hj => by
        rw [Nat.add_assoc _ 2 j]
        refine keep_below HPi.out.b _ _ (hcell (2 + j) u ?_)
        rcases j with _ | _ | j
        · exact hj
        · exact hj
        · simp at hj
      have HTK : Hid (R0 ++ (t.fs.take (i + 1)).map (·.r) = (R0 ++ (t.fs.take i).map (·.r)) ++ [f.r]) := by
        show _ = _
        rw [List.take_succ_eq_append_getElem hlt, List.map_append, List.append_assoc]
        rw [List.getElem?_eq_getElem hlt] at hf
        injection hf with hf
        rw [hf]
        rfl
      have HP1 := HPi
      have HLL : Hid ((R0 ++ (t.fs.take i).map (·.r)).length ≤ 1000000) := by
        have h1 := HL0.out
        show _ ≤ _
        rw [List.length_append, List.length_map, List.length_take]
        omega
      have HR1 : Hid (∀ (ops : Array Oper) (rest : List Oper) (o : Oper) (a : Act) (Q : Exit → Act → World → Prop) (s x : Operand), o.guard = none → o.op = .call { callee := .builtin .append, args := #[s, x], argTypes := #[121, 121] } → a.eval s = .slice a1 n1 c1 → a.eval x = .slice (some ⟨wr.heap.size, 0, none⟩) 1 1 → (∀ v' w', Rfp w tc v' (R0 ++ (t.fs.take (i + 1)).map (·.r)) w' → wpList Tryz.prog ops Q rest (a.put o.dst v') w') → wpList Tryz.prog ops Q (o :: rest) a (wr.alloc (.cells #[.string f.r.n, .bool f.r.z] 65))) := fun ops rest o a Q s x h1 h2 h3 h4 h5 => append_rf (r := f.r) h1 h2 h3 HP1.out h4 (by have := HLL.out; omega) (by rw [← HTK.out]; exact h5)
      clear hcc hcell hf HPi HF HC HR0 HB0
      go_wp2_with (first
        | (refine wpList_aggAt rfl rfl HIR.out HAR.out b (off + i * 5 + 2) #[.string f.r.n, .bool f.r.z] rfl rfl HRF.out ?_)
        | (refine row1 infoRfs Tryz.underlying121 (by decide) (by decide) rfl rfl rfl (c := #[.string f.r.n, .bool f.r.z]) rfl rfl ?_)
        | (refine HR1.out _ _ _ _ _ _ _ rfl rfl rfl rfl ?_; intro v' w' hr'))
      obtain ⟨a2, c2, hv0, _⟩ := own_formG hr'.o
      subst hv0
      have HR' := hide hr'
      clear hr'
      go_wp2_with fail
      go_roundw
      case rel => exact ⟨i + 1, _, _, _, by omega, rfl, by go_num, HR'⟩
      case measure => simp [intOf]; omega
    · have g1 : ¬ (i : Int) < (t.fs.length : Int) := by omega
      have hil : i = t.fs.length := by omega
      have HP2 : Hid (Rfp w tc (.slice a1 n1 c1) (R0 ++ t.fs.map (·.r)) wr) := by have h := HPi.out; rw [hil, List.take_length] at h; exact h
      clear hil HPi HF
      go_wp2_with fail
      clear q6
      go_loopw [3, 5] (fun v vi wx => ∃ (i : Nat) (a0 : Option Addr) (n0 c0 : Nat), i ≤ t.cs.length ∧ v = .slice a0 n0 c0 ∧ vi = .int .i64 (i : Nat) ∧ Hid (Rfp w tc (.slice a0 n0 c0) (R0 ++ t.fs.map (·.r) ++ (t.cs.take i).map (fun c => ⟨c.n, false⟩)) wx)) (fun _ vi _ => t.cs.length - (intOf vi).toNat)
      case atStart => exact ⟨0, a1, n1, c1, by omega, rfl, rfl, (by show Rfp w tc _ _ _; rw [List.take_zero, List.map_nil, List.append_nil]; exact HP2.out)⟩
      case round =>
        rename World => wq
        obtain ⟨i, a3, n3, c3, hi, rfl, rfl, HPi⟩ := hrel
        clear HP2
        have q7 : wq.cell? ⟨w.heap.size, 7, none⟩ = some (.slice ac t.cs.length cc) := blk_cell (j := 7) HPi.out.a HT7.out
        by_cases hlt : i < t.cs.length
        · as_aux_lemma =>
          have g1 : (i : Int) < (t.cs.length : Int) := by omega
          obtain ⟨x, hx⟩ : ∃ x, t.cs[i]? = some x := ⟨t.cs[i], List.getElem?_eq_getElem hlt⟩
          obtain ⟨b, off, rfl, hcc⟩ := HC.out.resolve_left (fun h => by rw [h] at hlt; simp at hlt)
          obtain ⟨c, ⟨rfl, _⟩, hcell⟩ := hcc i x hx
          unfold czc at hcell
          have qn : wq.cell? ⟨b, off + i * 2 + 1, none⟩ = some (.string x.n) := keep_below HPi.out.b _ _ (hcell 1 _ rfl)
          have HTK : Hid (R0 ++ t.fs.map (·.r) ++ (t.cs.take (i + 1)).map (fun c => ⟨c.n, false⟩) = (R0 ++ t.fs.map (·.r) ++ (t.cs.take i).map (fun c => ⟨c.n, false⟩)) ++ [⟨x.n, false⟩]) := by
            show _ = _
            rw [List.take_succ_eq_append_getElem hlt, List.map_append, List.append_assoc _ _ [(⟨x.n, false⟩ : Rf)]]
            rw [List.getElem?_eq_getElem hlt] at hx
            injection hx with hx
            rw [hx]
            rfl
          have HP1 := HPi
          have HLL : Hid (List.length (α := Rf) (R0 ++ t.fs.map (·.r) ++ (t.cs.take i).map (fun c => ⟨c.n, false⟩)) ≤ 1000000) := by
            have h1 := HL0.out
            show _ ≤ _
            rw [List.length_append, List.length_append, List.length_map, List.length_map, List.length_take]
            omega
          have HR1 : Hid (∀ (ops : Array Oper) (rest : List Oper) (o : Oper) (a : Act) (Q : Exit → Act → World → Prop) (s y : Operand), o.guard = none → o.op = .call { callee := .builtin .append, args := #[s, y], argTypes := #[121, 121] } → a.eval s = .slice a3 n3 c3 → a.eval y = .slice (some ⟨wq.heap.size, 0, none⟩) 1 1 → (∀ v' w', Rfp w tc v' (R0 ++ t.fs.map (·.r) ++ (t.cs.take (i + 1)).map (fun c => ⟨c.n, false⟩)) w' → wpList Tryz.prog ops Q rest (a.put o.dst v') w') → wpList Tryz.prog ops Q (o :: rest) a (wq.alloc (.cells #[.string x.n, .bool false] 65))) := fun ops rest o a Q s y h1 h2 h3 h4 h5 => append_rf (r := ⟨x.n, false⟩) h1 h2 h3 HP1.out h4 (by have := HLL.out; omega) (by rw [← HTK.out]; exact h5)
          clear hcc hcell hx HPi HC HR0 HB0
          go_wp2_with (first
            | (refine row1 infoRfs Tryz.underlying121 (by decide) (by decide) rfl rfl rfl (c := #[.string x.n, .bool false]) rfl rfl ?_)
            | (refine HR1.out _ _ _ _ _ _ _ rfl rfl rfl rfl ?_; intro v' w' hr'))
          obtain ⟨a2, c2, hv0, _⟩ := own_formG hr'.o
          subst hv0
          have HR' := hide hr'
          clear hr'
          go_wp2_with fail
          go_roundw
          case rel => exact ⟨i + 1, _, _, _, by omega, rfl, by go_num, HR'⟩
          case measure => simp [intOf]; omega
        · as_aux_lemma =>
          have g1 : ¬ (i : Int) < (t.cs.length : Int) := by omega
          have hil : i = t.cs.length := by omega
          have HP3 : Hid (Rfp w tc (.slice a3 n3 c3) (rfs t) wq) := by have h := HPi.out; rw [hil, List.take_length, ← HR0.out] at h; exact h
          have HSZ : Hid (∀ r ∈ rfs t, r.n.size ≤ 140737488351232) := fun r hr => by
            rw [HR0.out] at hr
            rcases List.mem_append.1 hr with hr | hr
            · rcases List.mem_append.1 hr with hr | hr
              · exact HB0.out r hr
              · obtain ⟨f, hf, rfl⟩ := List.mem_map.1 hr
                exact HFS.out f hf
            · obtain ⟨x, hx, rfl⟩ := List.mem_map.1 hr
              exact HCS.out x hx
          have HLN : Hid ((rfs t).length ≤ 140737488351232) := by
            have h1 := HL0.out
            show _ ≤ _
            rw [HR0.out, List.length_append, List.length_append, List.length_map, List.length_map]
            omega
          clear hil HPi HC
          go_wp2_with fail
          go_ret
          exact ⟨_, rfl, HP3.out.rsl HLN.out HSZ.out, HP3.out.b⟩
end
section
open Go.RowKit Go
set_option maxRecDepth 1000000 in
set_option maxHeartbeats 1000000 in
theorem keys11_any (w : World) (v : Value) (cs : List Cz) (hv : CSl w v cs) (hn : cs.length ≤ 1000) : Calls Tryz.prog 112 #[v] w fun e w' => ∃ v', e = .returned v' ∧ Hid (SSl w' v' (cs.map (·.k)) ∧ Below w.heap.size w w') := by
  have HSZ : Hid (∀ s ∈ cs.map (·.k), s.size ≤ 140737488351232) := fun s hs => by
    obtain ⟨x, hx, rfl⟩ := List.mem_map.1 hs
    obtain ⟨i, hi, e⟩ := List.getElem_of_mem hx
    rcases hv.form with ⟨_, _, _, _, h | ⟨b, off, _, h⟩⟩
    · rw [h] at hx; cases hx
    · obtain ⟨_, ⟨_, h3, _⟩, _⟩ := h i x (by rw [List.getElem?_eq_getElem hi, e])
      exact h3
  obtain ⟨⟨a, cap, rfl, hcap, hform⟩, hmax⟩ := hv
  have HF := hide hform
  have HN := hide hn
  clear hform hcap hn
  go_enter Tryz.func112, Tryz.ntmps112
  go_wp2_with fail
  go_loopw [3, 4] (fun vo vi wx => ∃ (i : Nat) (a0 : Option Addr) (n0 c0 : Nat), i ≤ cs.length ∧ vo = .slice a0 n0 c0 ∧ vi = .int .i64 (i : Nat) ∧ Hid (wx.ownsRow w.heap.size 9 1 (.slice a0 n0 c0) i (sv ((cs.take i).map (·.k)))) ∧ Hid (Below w.heap.size w wx)) (fun _ vi _ => cs.length - (intOf vi).toNat)
  case atStart => exact ⟨0, none, 0, 0, by omega, rfl, rfl, World.ownsRow_nil _ _ _ _, Below.refl _ _⟩
  case round =>
    obtain ⟨i, a0, n0, c0, hi, rfl, rfl, HO, HBz1⟩ := hrel
    by_cases hlt : i < cs.length
    · as_aux_lemma =>
      have g1 : (i : Int) < (cs.length : Int) := by omega
      obtain ⟨x, hx⟩ : ∃ x, cs[i]? = some x := ⟨cs[i], List.getElem?_eq_getElem hlt⟩
      obtain ⟨b, off, rfl, hcc⟩ := HF.out.resolve_left (fun h => by rw [h] at hlt; simp at hlt)
      obtain ⟨c, ⟨rfl, hz, _⟩, hcell⟩ := hcc i x hx
      have qk := keep_below HBz1.out _ _ (hcell 0 (.string x.k) rfl)
      rw [Nat.add_zero] at qk
      have HTK : Hid ((cs.take (i + 1)).map (·.k) = (cs.take i).map (·.k) ++ [x.k]) := by
        show _ = _
        rw [List.take_succ_eq_append_getElem hlt, List.map_append]
        rw [List.getElem?_eq_getElem hlt] at hx
        injection hx with hx
        rw [hx]
        rfl
      have HZ := hide hz
      have HBS := hide HBz1.out.size
      have HLI : Hid (i ≤ 1000) := by have := HN.out; show _ ≤ _; omega
      clear hcc hcell hx hz
      go_wp2_with (at_builtin; refine append_ssl rfl _ _ rfl w.heap.size _ i ((cs.take i).map (·.k)) rfl (HO.out.alloc _) _ [x.k] rfl (one_ssl _ x.k HZ.out) ?b1 ?b2 ?_)
      case b1 => have := HLI.out; simp; omega
      case b2 => have := HBS.out; simp; omega
      intro v2 w2 hown2 hgr2
      have hbel2 : Below w.heap.size w w2 := (HBz1.out.alloc HBS.out _).grown hgr2 (by have := HBS.out; simp; omega) (fun q hq => (HO.out.lt q hq).1)
      have HO2 : Hid (w2.ownsRow w.heap.size 9 1 v2 (i + 1) (sv ((cs.take (i + 1)).map (·.k)))) := by show World.ownsRow _ _ _ _ _ _ _; rw [HTK.out]; first | exact hown2 | (rw [List.map_take]; exact hown2)
      have HB2 := hide hbel2
      clear hgr2 hown2 hbel2 HO HBz1
      obtain ⟨a2, c2, hv0, _⟩ := own_formG HO2.out
      subst hv0
      go_wp2_with fail
      go_roundw
      case rel => exact ⟨i + 1, _, _, _, by omega, rfl, by go_num, HO2, HB2⟩
      case measure => simp [intOf]; omega
    · have g1 : ¬ (i : Int) < (cs.length : Int) := by omega
      have hil : i = cs.length := by omega
      have HO2 : Hid (wr.ownsRow w.heap.size 9 1 (.slice a0 n0 c0) cs.length (sv (cs.map (·.k)))) := by have h := HO.out; rw [hil, List.take_length] at h; exact h
      clear hil HO
      go_wp2_with fail
      go_ret
      exact ⟨_, rfl, SSl.own HO2.out (by rw [List.length_map]) (by rw [List.length_map]; exact hmax) HSZ.out, HBz1.out⟩
theorem SSl.tk {w : World} {a : Option Addr} {cap i : Nat} {L : List ByteArray} (h : SSl w (.slice a L.length cap) L) (hi : i ≤ L.length) : SSl w (.slice a i cap) (L.take i) := by
  obtain ⟨⟨a', cap', e, hn, hc⟩, hm, hs⟩ := h
  injection e with e1 _ e3
  subst e1
  subst e3
  have hl : (L.take i).length = i := by rw [List.length_take]; omega
  refine ⟨⟨a, cap, by rw [hl], ⟨by omega, hn.2⟩, ?_⟩, by omega, fun s hs' => hs s (List.mem_of_mem_take hs')⟩
  rcases hc with hc | ⟨b, off, ea, hc⟩
  · exact .inl (by rw [hc]; simp)
  · refine .inr ⟨b, off, ea, fun j s hj => hc j s ?_⟩
    rw [List.getElem?_take] at hj
    split at hj
    · exact hj
    · cases hj
set_option maxRecDepth 1000000 in
set_option maxHeartbeats 1000000 in
theorem texts11_any (w : World) (v : Value) (L : List ByteArray) (hv : SSl w v L) : Calls Tryz.prog 111 #[v] w fun e w' => e = .returned (.bool (some64 L.length && goodT [] L)) ∧ Below w.heap.size w w' := by
  have HSZ := hide hv.size
  have hmax := hv.max
  have HV := hide hv
  obtain ⟨⟨a, cap, rfl, hcap, hform⟩, _, _⟩ := hv
  have HF := hide hform
  have HCP := hide hcap.1
  clear hform hcap
  go_enter Tryz.func111, Tryz.ntmps111
  go_wp2_with fail
  go_loopw [3] (fun vi wx => ∃ (i : Nat), i ≤ L.length ∧ vi = .int .i64 (i : Nat) ∧ Hid (goodT [] L = goodT (L.take i).reverse (L.drop i)) ∧ Hid (Below w.heap.size w wx)) (fun vi _ => L.length - (intOf vi).toNat)
  case atStart => exact ⟨0, by omega, rfl, rfl, Below.refl _ _⟩
  case round =>
    obtain ⟨i, hi, rfl, HE, HBz1⟩ := hrel
    by_cases hlt : i < L.length
    · have g1 : (i : Int) < (L.length : Int) := by omega
      obtain ⟨s, hs⟩ : ∃ s, L[i]? = some s := ⟨L[i], List.getElem?_eq_getElem hlt⟩
      have hsv := HF.out.resolve_left (fun h => by rw [h] at hlt; simp at hlt)
      obtain ⟨b, off, rfl, hcc⟩ := hsv
      have c1 : ∀ t' : Ext wr, t'.w'.cell? ⟨b, off + i, none⟩ = some (.string s) := fun t' => keep_below t'.h _ _ (keep_below HBz1.out _ _ (hcc i s hs))
      have hsz := HSZ.out s (List.mem_of_getElem? hs)
      have HDR : Hid (L.drop i = s :: L.drop (i + 1)) := by
        show _ = _
        rw [List.drop_eq_getElem_cons hlt]
        rw [List.getElem?_eq_getElem hlt] at hs
        injection hs with hs
        rw [hs]
      have HTK : Hid (L.take (i + 1) = L.take i ++ [s]) := by
        show _ = _
        rw [List.take_succ_eq_append_getElem hlt]
        rw [List.getElem?_eq_getElem hlt] at hs
        injection hs with hs
        rw [hs]
      rw [HDR.out] at HE
      have HGo : Hid (∀ t' : Ext wr, Calls Tryz.prog 110 #[.string s] t'.w' fun e w'' => e = .returned (.bool (!badb s)) ∧ ∃ t2 : Ext wr, w'' = t2.w') := fun t' => by
        have h := good11_any t'.w' s hsz
        rw [show ugood (sl s) = !badb s by rw [bad_good, Bool.not_not]] at h
        exact Calls.ext_same h
      have HIs : Hid (∀ t' : Ext wr, Calls Tryz.prog 55 #[.slice (some ⟨b, off, none⟩) i cap, .string s] t'.w' fun e w'' => e = .returned (.bool (memb (L.take i) s)) ∧ ∃ t2 : Ext wr, w'' = t2.w') := fun t' =>
        Calls.ext_same (is11_any t'.w' _ (L.take i) ((SSl.tk HV.out (by omega)).move (fun p u hu => keep_below t'.h _ _ (keep_below HBz1.out _ _ hu))) s)
      have g2 : (i : Int) ≤ (cap : Int) := by have := HCP.out; omega
      have g3 : i ≤ cap := by omega
      clear hcc hs HF HSZ
      cases hb : badb s with
      | true =>
        as_aux_lemma =>
        have HR : Hid (goodT [] L = false) := HE.out.trans (goodT_no (by rw [hb, Bool.or_true]))
        rw [hb] at HGo
        clear hb HE HIs
        go_wp2_with fail
        refine region_ext (by kernel_rfl) (by kernel_rfl) ?_
        repeat (
          with_reducible refine wpQuiet_step (fun K hK => ?_)
          go_simp
          first
            | (with_reducible refine hK _ ?_; clear hK K)
            | (apply Exists.intro
               refine ⟨fun _ => ?_, hK _ ?_⟩
               (go_at_call 110; with_reducible exact HGo.out _)
               clear hK K))
        refine wpQuiet_nil ?_
        rintro _ ⟨tq, rfl⟩
        have HB2 : Hid (Below w.heap.size w tq.w') := HBz1.out.trans (tq.h.mono HBz1.out.size)
        clear c1
        go_wp2_with fail
        go_ret
        exact ⟨by rw [HR.out, Bool.and_false] <;> rfl, HB2.out⟩
      | false =>
        rw [hb] at HGo
        cases hm : memb (L.take i) s with
        | true =>
          as_aux_lemma =>
          have HR : Hid (goodT [] L = false) := HE.out.trans (goodT_no (by rw [hm, Bool.true_or]))
          rw [hm] at HIs
          clear hb HE hm
          go_wp2_with fail
          refine region_ext (by kernel_rfl) (by kernel_rfl) ?_
          repeat (
            with_reducible refine wpQuiet_step (fun K hK => ?_)
            go_simp
            first
              | (with_reducible refine hK _ ?_; clear hK K)
              | (apply Exists.intro
                 refine ⟨fun _ => ?_, hK _ ?_⟩
                 (first
                   | (go_at_call 110; with_reducible exact HGo.out _)
                   | (go_at_call 55; with_reducible exact HIs.out _))
                 clear hK K))
          refine wpQuiet_nil ?_
          rintro _ ⟨tq, rfl⟩
          have HB2 : Hid (Below w.heap.size w tq.w') := HBz1.out.trans (tq.h.mono HBz1.out.size)
          clear c1
          go_wp2_with fail
          go_ret
          exact ⟨by rw [HR.out, Bool.and_false] <;> rfl, HB2.out⟩
        | false =>
          as_aux_lemma =>
          have HR : Hid (goodT [] L = goodT (L.take (i + 1)).reverse (L.drop (i + 1))) := by
            show _ = _
            rw [HTK.out]
            exact HE.out.trans (goodT_yes hm hb)
          rw [hm] at HIs
          clear hb HE hm
          go_wp2_with fail
          refine region_ext (by kernel_rfl) (by kernel_rfl) ?_
          repeat (
            with_reducible refine wpQuiet_step (fun K hK => ?_)
            go_simp
            first
              | (with_reducible refine hK _ ?_; clear hK K)
              | (apply Exists.intro
                 refine ⟨fun _ => ?_, hK _ ?_⟩
                 (first
                   | (go_at_call 110; with_reducible exact HGo.out _)
                   | (go_at_call 55; with_reducible exact HIs.out _))
                 clear hK K))
          refine wpQuiet_nil ?_
          rintro _ ⟨tq, rfl⟩
          have HB2 : Hid (Below w.heap.size w tq.w') := HBz1.out.trans (tq.h.mono HBz1.out.size)
          clear c1
          go_wp2_with fail
          go_roundw
          case rel => exact ⟨i + 1, by omega, by go_num, HR, HB2⟩
          case measure => simp [intOf]; omega
    · have g1 : ¬ (i : Int) < (L.length : Int) := by omega
      have HR : Hid (goodT [] L = true) := by
        show _ = _
        rw [HE.out, List.drop_eq_nil_of_le (by omega)]
        rfl
      clear HE
      by_cases h1 : 1 ≤ L.length
      · have k1 : (1 : Int) ≤ (L.length : Int) := by omega
        by_cases h2 : L.length ≤ 64
        · have k2 : (L.length : Int) ≤ 64 := by omega
          have HS : Hid (some64 L.length = true) := by show _ = _; unfold some64; rw [decide_eq_true (by omega), decide_eq_true h2]; rfl
          go_wp2_with fail
          go_ret
          exact ⟨by rw [HR.out, HS.out] <;> rfl, HBz1.out⟩
        · have k2 : ¬ (L.length : Int) ≤ 64 := by omega
          have HS : Hid (some64 L.length = false) := by show _ = _; unfold some64; rw [decide_eq_false h2, Bool.and_false]
          go_wp2_with fail
          go_ret
          exact ⟨by rw [HS.out] <;> rfl, HBz1.out⟩
      · have k1 : ¬ (1 : Int) ≤ (L.length : Int) := by omega
        have HS : Hid (some64 L.length = false) := by show _ = _; unfold some64; rw [decide_eq_false (by omega), Bool.false_and]
        go_wp2_with fail
        go_ret
        exact ⟨by rw [HS.out] <;> rfl, HBz1.out⟩
end
section
open Go.RowKit Go
set_option maxRecDepth 1000000 in
set_option maxHeartbeats 2000000 in
theorem cases11_any (w : World) (t : Tp) (c : Array Value) (hc : Tpi w t c) (hk : 7 ≤ t.k ∧ t.k ≤ 9) (hc1 : t.cs.length ≤ 1000) : Calls Tryz.prog 60 #[.agg c] w fun e w' => e = .returned (.bool (cft t)) ∧ Below w.heap.size w w' := by
  obtain ⟨⟨vf, vc, vw, rfl, ⟨⟨af, cf, rfl, -, -⟩, -⟩, hC, hW⟩, -⟩ := hc
  have HCS := hide hC
  have HWS := hide hW
  obtain ⟨⟨ac, cc, rfl, -, hcf⟩, -⟩ := hC
  obtain ⟨⟨aw, cw, rfl, -, -⟩, -, -⟩ := hW
  have HC := hide hcf
  have HC1 := hide hc1
  clear hcf
  unfold tpc
  have HX := hide (Tbx.start w #[.string t.n, .int .i64 t.k, .int .i64 t.lo, .int .i64 t.hi, .string t.r.n, .bool t.r.z, .slice af t.fs.length cf, .slice ac t.cs.length cc, .slice aw t.ws.length cw])
  have HT1 : Hid ((#[.string t.n, .int .i64 t.k, .int .i64 t.lo, .int .i64 t.hi, .string t.r.n, .bool t.r.z, .slice af t.fs.length cf, .slice ac t.cs.length cc, .slice aw t.ws.length cw] : Array Value)[1]? = some (.int .i64 t.k)) := rfl
  have HT7 : Hid ((#[.string t.n, .int .i64 t.k, .int .i64 t.lo, .int .i64 t.hi, .string t.r.n, .bool t.r.z, .slice af t.fs.length cf, .slice ac t.cs.length cc, .slice aw t.ws.length cw] : Array Value)[7]? = some (.slice ac t.cs.length cc)) := rfl
  have HT8 : Hid ((#[.string t.n, .int .i64 t.k, .int .i64 t.lo, .int .i64 t.hi, .string t.r.n, .bool t.r.z, .slice af t.fs.length cf, .slice ac t.cs.length cc, .slice aw t.ws.length cw] : Array Value)[8]? = some (.slice aw t.ws.length cw)) := rfl
  go_enter Tryz.func60, Tryz.ntmps60
  go_upto_region 1 with fail
  generalize w.alloc (.cells #[.string t.n, .int .i64 t.k, .int .i64 t.lo, .int .i64 t.hi, .string t.r.n, .bool t.r.z, .slice af t.fs.length cf, .slice ac t.cs.length cc, .slice aw t.ws.length cw] 69) = w1 at *
  obtain ⟨tc, htc⟩ : ∃ tc : Array Value, tc = #[.string t.n, .int .i64 t.k, .int .i64 t.lo, .int .i64 t.hi, .string t.r.n, .bool t.r.z, .slice af t.fs.length cf, .slice ac t.cs.length cc, .slice aw t.ws.length cw] := ⟨_, rfl⟩
  rw [← htc] at HX HT1 HT7 HT8
  clear htc
  have q1 : w1.cell? ⟨w.heap.size, 1, none⟩ = some (.int .i64 t.k) := blk_cell (j := 1) HX.out.a HT1.out
  have q7 : w1.cell? ⟨w.heap.size, 7, none⟩ = some (.slice ac t.cs.length cc) := blk_cell (j := 7) HX.out.a HT7.out
  have q8 : w1.cell? ⟨w.heap.size, 8, none⟩ = some (.slice aw t.ws.length cw) := blk_cell (j := 8) HX.out.a HT8.out
  by_cases h7 : t.k = 7
  · as_aux_lemma =>
    have g7 : (t.k == 7) = true := beq_iff_eq.2 h7
    have HE : Hid (cft t = (some64 (t.cs.map (·.k)).length && goodT [] (t.cs.map (·.k)))) := by show _ = _; unfold cft; rw [if_pos h7, List.length_map]
    clear h7 hk hc1
    go_wp2_with fail
    refine (keys11_any w1 _ t.cs (HCS.out.mv (keep_below HX.out.b)) HC1.out).mono ?_
    rintro e w2 ⟨v', rfl, hP⟩
    have HX2 := hide (HX.out.next hP.out.2)
    have HSL := hide hP.out.1
    clear hP HX q1 q7 q8
    go_wp2_with fail
    refine (texts11_any w2 _ (t.cs.map (·.k)) HSL.out).mono ?_
    rintro e w3 ⟨rfl, hb3⟩
    have HX3 := hide (HX2.out.next hb3)
    clear hb3 HX2 HSL
    generalize (some64 (t.cs.map (·.k)).length && goodT [] (t.cs.map (·.k))) = R at *
    go_wp2_with fail
    go_ret
    exact ⟨by rw [HE.out] <;> rfl, HX3.out.b⟩
  have g7 : (t.k == 7) = false := beq_eq_false_iff_ne.2 h7
  by_cases h9 : t.k = 9
  · as_aux_lemma =>
    have g9 : (t.k == 9) = true := beq_iff_eq.2 h9
    have HE : Hid (cft t = (some64 t.ws.length && goodT [] t.ws)) := by show _ = _; unfold cft; rw [if_neg h7, if_neg (by omega), if_pos h9]
    clear h7 h9 hk hc1
    go_wp2_with fail
    refine (texts11_any w1 _ t.ws (HWS.out.move (keep_below HX.out.b))).mono ?_
    rintro e w3 ⟨rfl, hb3⟩
    have HX3 := hide (HX.out.next hb3)
    clear hb3 HX q1 q7 q8
    generalize (some64 t.ws.length && goodT [] t.ws) = R at *
    go_wp2_with fail
    go_ret
    exact ⟨by rw [HE.out] <;> rfl, HX3.out.b⟩
  have g9 : (t.k == 9) = false := beq_eq_false_iff_ne.2 h9
  have HE : Hid (cft t = (some64 t.cs.length && t.cs.all fun c => decide (c.k = ⟨#[]⟩))) := by show _ = _; unfold cft; rw [if_neg h7, if_pos (by omega)]
  clear h7 h9 hk HWS HCS
  go_wp2_with fail
  clear q1 q7 q8
  go_loopw [3] (fun vi wx => ∃ (i : Nat), i ≤ t.cs.length ∧ vi = .int .i64 (i : Nat) ∧ Hid (∀ j x, j < i → t.cs[j]? = some x → x.k = ⟨#[]⟩) ∧ Hid (Tbx w tc wx)) (fun vi _ => t.cs.length - (intOf vi).toNat)
  case atStart => exact ⟨0, by omega, rfl, fun j _ hj => absurd hj (by omega), HX⟩
  case round =>
    obtain ⟨i, hi, rfl, HA, HXi⟩ := hrel
    clear HX
    have q7 : wr.cell? ⟨w.heap.size, 7, none⟩ = some (.slice ac t.cs.length cc) := blk_cell (j := 7) HXi.out.a HT7.out
    by_cases hlt : i < t.cs.length
    · have g1 : (i : Int) < (t.cs.length : Int) := by omega
      obtain ⟨x, hx⟩ : ∃ x, t.cs[i]? = some x := ⟨t.cs[i], List.getElem?_eq_getElem hlt⟩
      obtain ⟨b, off, rfl, hcc⟩ := HC.out.resolve_left (fun h => by rw [h] at hlt; simp at hlt)
      obtain ⟨c, ⟨rfl, hz, _⟩, hcell⟩ := hcc i x hx
      have qk := keep_below HXi.out.b _ _ (hcell 0 (.string x.k) rfl)
      rw [Nat.add_zero] at qk
      have HXM := hide (List.mem_of_getElem? hx)
      have HXX := hide hx
      clear hcc hcell hz hx
      by_cases he : x.k = ⟨#[]⟩
      · as_aux_lemma =>
        have gk : (x.k.toList == []) = true := by rw [he, emp_l11]; rfl
        have HA2 : Hid (∀ j y, j < i + 1 → t.cs[j]? = some y → y.k = ⟨#[]⟩) := fun j y hj hy => by
          by_cases e : j = i
          · subst e
            rw [HXX.out] at hy
            rw [← Option.some.inj hy]
            exact he
          · exact HA.out j y (by omega) hy
        clear he HA
        go_wp2_with fail
        go_roundw
        case rel => exact ⟨i + 1, by omega, by go_num, HA2, HXi⟩
        case measure => simp [intOf]; omega
      · as_aux_lemma =>
        have gk : (x.k.toList == []) = false := by have := str_no he; rw [emp_l11] at this; exact this
        have HR : Hid (cft t = false) := by
          show _ = _
          rw [HE.out, Bool.and_eq_false_iff]
          refine .inr ?_
          rw [List.all_eq_false]
          exact ⟨x, HXM.out, by rw [decide_eq_false he]; decide⟩
        clear he HA
        go_wp2_with fail
        go_ret
        exact ⟨by rw [HR.out] <;> rfl, HXi.out.b⟩
    · have g1 : ¬ (i : Int) < (t.cs.length : Int) := by omega
      have HAL : Hid ((t.cs.all fun c => decide (c.k = ⟨#[]⟩)) = true) := by
        show _ = _
        rw [List.all_eq_true]
        intro y hy
        obtain ⟨j, hj, e⟩ := List.getElem_of_mem hy
        exact decide_eq_true (HA.out j y (by omega) (by rw [List.getElem?_eq_getElem hj, e]))
      clear HA
      by_cases h1 : 1 ≤ t.cs.length
      · have k1 : (1 : Int) ≤ (t.cs.length : Int) := by omega
        by_cases h2 : t.cs.length ≤ 64
        · as_aux_lemma =>
          have k2 : (t.cs.length : Int) ≤ 64 := by omega
          have HR : Hid (cft t = true) := by show _ = _; rw [HE.out, HAL.out]; unfold some64; rw [decide_eq_true (show 0 < t.cs.length by omega), decide_eq_true h2]; rfl
          go_wp2_with fail
          go_ret
          exact ⟨by rw [HR.out] <;> rfl, HXi.out.b⟩
        · as_aux_lemma =>
          have k2 : ¬ (t.cs.length : Int) ≤ 64 := by omega
          have HR : Hid (cft t = false) := by show _ = _; rw [HE.out]; unfold some64; rw [decide_eq_false h2, Bool.and_false, Bool.false_and]
          go_wp2_with fail
          go_ret
          exact ⟨by rw [HR.out] <;> rfl, HXi.out.b⟩
      · as_aux_lemma =>
        have k1 : ¬ (1 : Int) ≤ (t.cs.length : Int) := by omega
        have HR : Hid (cft t = false) := by show _ = _; rw [HE.out]; unfold some64; rw [decide_eq_false (show ¬ 0 < t.cs.length by omega), Bool.false_and, Bool.false_and]
        go_wp2_with fail
        go_ret
        exact ⟨by rw [HR.out] <;> rfl, HXi.out.b⟩
end
end Go.Proofs.YtbbalhfjgpaabaaGreatDoor
