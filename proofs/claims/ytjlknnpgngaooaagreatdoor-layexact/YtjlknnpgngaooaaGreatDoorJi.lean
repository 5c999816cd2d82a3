import Derived.Test.YtjlknnpgngaooaaGreatDoorJd
import Derived.Test.YtjlknnpgngaooaaGreatDoorJa
import Derived.Test.YtjlknnpgngaooaaGreatDoorJg
import Derived.Test.YtjlknnpgngaooaaGreatDoorJe
import Derived.Test.YtjlknnpgngaooaaGreatDoorJc
import Derived.Test.YtjlknnpgngaooaaGreatDoorJb
namespace Go.Proofs.YtjlknnpgngaooaaGreatDoor
section
open Go.RowKit Go
theorem qstep_valAt {C : World → Prop} {ops : Array Oper} {o : Oper} {a : Act} {K : Act → Prop} {p : Operand} (hgd : Region.wanted o (yielded ops a.tmps) = true) (ho : o.op = .load 65 p) (g off : Nat) (cs : Array Value) (hn : cs.size = 13)
    (hp : a.eval p = .pointer (some ⟨g, off, none⟩)) (hc : ∀ w, C w → ∀ j u, cs[j]? = some u → w.cell? ⟨g, off + j, none⟩ = some u)
    (h : K (a.put o.dst (.agg cs))) : if Region.wanted o (yielded ops a.tmps) = true then o.quiet Tryz.prog a C K else K (a.put o.dst undef) := by
  rw [if_pos hgd]
  refine ⟨.agg cs, fun w hC => ?_, h⟩
  unfold Oper.quietAt execOp
  simp only [ho, Sem.run_bind, hp, load_val g off cs hn (hc w hC), Result.andThen_ok]
  exact ⟨rfl, rfl⟩
theorem eqlk_selfV (w : World) (a : Lk) : (Op.equalIn 10000 63 (.agg (lcs a)) (.agg (lcs a))).run Tryz.prog w = .ok true w := by
  have u3 := Tryz.underlying3
  have u9 := Tryz.underlying9
  have u33 := Tryz.underlying61
  have a3 := Tryz.isAgg3
  have a9 := Tryz.isAgg9
  have a33 := Tryz.isAgg61
  have z3 := Tryz.sizeOf3
  have z9 := Tryz.sizeOf9
  have z33 := Tryz.sizeOf61
  have hS : Tryz.prog.underlying 63 = some (.struct (Tryz.prog.fieldsOf 63)) := by kernel_rfl
  have hp : Tryz.prog.stoodInHeld 63 = false := by kernel_rfl
  unfold lcs
  rw [show (10000 : Nat) = 9999 + 1 from rfl, run_equalIn_agg w 9999 63 _ _ hS hp]
  simp only [Program.fieldsOf, Tryz.underlying63]
  go_simp
theorem intactV {w : World} {base g cap : Nat} {xs : List Nat} (h : Lnt w base g cap xs) (vb : Value) (hb : BSl w vb xs) :
    Calls Tryz.prog 11 #[.slice (some ⟨g, 0, none⟩) xs.length cap, vb] w fun e w' => e = .returned (.bool true) ∧ Below w.heap.size w w' :=
  (intact_any h vb hb).mono fun _ _ ⟨he, hk⟩ => ⟨he, hk.below (Nat.le_refl _) (fun _ h => h.elim)⟩
/-- Two values' blocks. -/
structure Bw (w wx : World) (c0 c1 : Array Value) : Prop where
  a : wx.heap[w.heap.size]? = some (.cells c0 65 (0, 0))
  c : wx.heap[w.heap.size + 1]? = some (.cells c1 65 (0, 0))
  b : Below w.heap.size w wx
theorem Bw.start (w : World) (c0 c1 : Array Value) : Bw w ((w.alloc (.cells c0 65)).alloc (.cells c1 65)) c0 c1 := by
  have h1 := heap_alloc_new w (.cells c0 65)
  have e1 : (w.alloc (.cells c0 65)).heap.size = w.heap.size + 1 := by simp
  have h2 := heap_alloc_new (w.alloc (.cells c0 65)) (.cells c1 65)
  rw [e1] at h2
  have b1 := below_alloc4 w (.cells c0 65)
  have b2 := below_alloc4 (w.alloc (.cells c0 65)) (.cells c1 65)
  exact ⟨blk_alloc _ h1, h2, b1.trans (b2.mono b1.size)⟩
theorem Bw.next {w wx wy : World} {c0 c1 : Array Value} (h : Bw w wx c0 c1) (hb : Below wx.heap.size wx wy) : Bw w wy c0 c1 :=
  ⟨(hb.block _ (blk_lt h.a)).trans h.a, (hb.block _ (blk_lt h.c)).trans h.c, h.b.trans (hb.mono h.b.size)⟩
theorem lk_in {w : World} {g : Nat} {t : Tv} {vy vk vi : Value} (h : w.heap[g]? = some (.cells (vcs t vy vk vi) 65 (0, 0))) {j : Nat} {u : Value} (hu : (lcs t.l)[j]? = some u) : w.cell? ⟨g, 7 + j, none⟩ = some u := by
  refine blk_cell h ?_
  match j, hu with
  | 0, hu => exact hu
  | 1, hu => exact hu
  | 2, hu => exact hu
  | 3, hu => exact hu
  | j + 4, hu => simp [lcs] at hu
def BacksV (N : Nat) : Prop := ∀ t : Tv, SizeOf.sizeOf t < N → ∀ (w : World) (lo hi : Nat) (c cs : Array Value), Ltv w lo hi t c → Tin w t cs → Calls Tryz.prog 10 #[.agg c, .agg cs] w fun e w' => e = .returned (.bool true) ∧ Below w.heap.size w w'
theorem Tin.size {w : World} {t : Tv} {c : Array Value} (h : Tin w t c) : c.size = 13 := by
  obtain ⟨_, _, _, e, _⟩ := h.parts
  rw [e]
  rfl
set_option maxRecDepth 1000000 in
set_option maxHeartbeats 1000000 in
theorem backValues_any (N : Nat) (ih : BacksV N) (is : List Tv) (hN : ∀ u ∈ is, SizeOf.sizeOf u < N) (w : World) (lo hh gi ci : Nat) (L : List (Array Value)) (v : Value)
    (ho : w.ownsRow lo 65 13 (.slice (some ⟨gi, 0, none⟩) (is.length + 9) ci) (is.length + 9) (vfl (L ++ List.replicate 9 mv))) (hil : is.length ≤ 100000) (hL : L.length = is.length) (h13 : ∀ c ∈ L, c.size = 13) (hcs : ∀ (i : Nat) (u : Tv) (c : Array Value), is[i]? = some u → L[i]? = some c → Ltv w lo hh u c) (hsl : VSl w v is) :
    Calls Tryz.prog 34 #[.slice (some ⟨gi, 0, none⟩) is.length ci, v] w fun e w' => e = .returned (.bool true) ∧ Below w.heap.size w w' := by
  have HIH := hide ih
  have HNN := hide hN
  have HCS := hide hcs
  have HLe := hide hL
  have H13 := hide h13
  have HCE : Hid (∀ k c, (L ++ List.replicate 9 mv)[k]? = some c → ∀ j u, c[j]? = some u → w.cell? ⟨gi, k * 13 + j, none⟩ = some u) := fun k c hk => own_val ho (all13 h13 9) hk
  have hcap : is.length + 9 ≤ ci := by
    rcases ho.2 with ⟨e, _⟩ | ⟨g', cap', cur, e, _, _, h1, _⟩
    · cases e
    · injection e with _ _ e
      subst e
      exact h1
  have hcap2 : (is.length : Int) + 9 ≤ (ci : Int) := by omega
  obtain ⟨⟨a, cap, rfl, _, hf⟩, _⟩ := hsl
  have HF := hide hf
  clear ih hN hcs hL h13 ho hcap hf
  go_enter Tryz.func34, Tryz.ntmps34
  go_wp2_with fail
  go_loopw [5] (fun ii wx => ∃ i : Nat, i ≤ is.length ∧ ii = .int .i64 (i : Nat) ∧ Hid (Below w.heap.size w wx)) (fun ii _ => is.length - (intOf ii).toNat)
  case atStart => exact ⟨0, by omega, rfl, Below.refl _ _⟩
  case round =>
    obtain ⟨i, hi, rfl, HBw⟩ := hrel
    by_cases hlt : i < is.length
    · as_aux_lemma =>
      have g1 : (i : Int) < (is.length : Int) := by omega
      obtain ⟨u, hu⟩ : ∃ u, is[i]? = some u := ⟨is[i], List.getElem?_eq_getElem hlt⟩
      obtain ⟨b, off, rfl, hcells⟩ := HF.out.resolve_left (fun h => by rw [h] at hlt; simp at hlt)
      obtain ⟨cu, hcu, hcc⟩ := hcells i u hu
      obtain ⟨c, hc⟩ : ∃ c, L[i]? = some c := ⟨L[i]'(by rw [HLe.out]; exact hlt), List.getElem?_eq_getElem (by rw [HLe.out]; exact hlt)⟩
      have HLc := hide (HCS.out i u c hu hc)
      have HSc := hide HLc.out.size
      have HSu := hide hcu.size
      have HQ1 : Hid (∀ wx, (∃ t : Ext wr, wx = t.w') → ∀ j x, c[j]? = some x → wx.cell? ⟨gi, i * 13 + j, none⟩ = some x) := by
        rintro _ ⟨t, rfl⟩ j x hx
        exact keep_below t.h _ _ (keep_below HBw.out _ _ (HCE.out i c (by rw [List.getElem?_append_left (List.getElem?_eq_some_iff.1 hc).1]; exact hc) j x hx))
      have HQ2 : Hid (∀ wx, (∃ t : Ext wr, wx = t.w') → ∀ j x, cu[j]? = some x → wx.cell? ⟨b, off + i * 13 + j, none⟩ = some x) := by
        rintro _ ⟨t, rfl⟩ j x hx
        exact keep_below t.h _ _ (keep_below HBw.out _ _ (hcc j x hx))
      have HC1 : Hid (∀ t : Ext wr, Calls Tryz.prog 10 #[.agg c, .agg cu] t.w' fun e w'' => e = .returned (.bool true) ∧ ∃ t' : Ext wr, w'' = t'.w') := fun t => Calls.ext_below (HIH.out u (HNN.out u (List.mem_of_getElem? hu)) t.w' lo hh c cu ((HLc.out.kept HBw.out).kept t.h) ((hcu.move (keep_below HBw.out)).move (keep_below t.h)))
      clear hu hcells hcu hcc hc
      go_wp2_with fail
      refine region_ext (by kernel_rfl) (by kernel_rfl) ?_
      repeat (
        refine wpQuiet_step (fun K hK => ?_)
        first
          | (refine qstep_valAt rfl rfl gi (i * 13) c HSc.out rfl HQ1.out (hK _ ?_); clear hK K)
          | (refine qstep_valAt rfl rfl b (off + i * 13) cu HSu.out rfl HQ2.out (hK _ ?_); clear hK K)
          | (go_simp
             first
               | (refine hK _ ?_; clear hK K)
               | (apply Exists.intro
                  refine ⟨fun _ => ?_, hK _ ?_⟩
                  (go_at_call 10; exact HC1.out _)
                  clear hK K)))
      refine wpQuiet_nil ?_
      rintro _ ⟨tq, rfl⟩
      have HB2 : Hid (Below w.heap.size w tq.w') := HBw.out.trans (tq.h.mono HBw.out.size)
      go_wp2_with fail
      go_roundw
      case rel => exact ⟨i + 1, by omega, by go_num, HB2⟩
      case measure => simp [intOf]; omega
    · have g1 : ¬ (i : Int) < (is.length : Int) := by omega
      go_wp2_with fail
      go_loopw [7] (fun ii wx => ∃ j : Nat, j ≤ 9 ∧ ii = .int .i64 ((is.length + j : Nat) : Int) ∧ Hid (Below w.heap.size w wx)) (fun ii _ => is.length + 9 - (intOf ii).toNat)
      case atStart => exact ⟨0, by omega, by simp, HBw⟩
      case round => as_aux_lemma =>
        rename World => wz
        obtain ⟨j, hj, rfl, HBz⟩ := hrel
        clear HBw
        by_cases hlt2 : j < 9
        · have g2 : ((is.length + j : Nat) : Int) < (is.length : Int) + 9 := by omega
          have HMk : Hid (∀ k x, mv[k]? = some x → wz.cell? ⟨gi, (is.length + j) * 13 + k, none⟩ = some x) := fun k x hx => keep_below HBz.out _ _ (HCE.out (is.length + j) mv (by rw [List.getElem?_append_right (by rw [HLe.out]; omega), HLe.out, Nat.add_sub_cancel_left, List.getElem?_replicate_of_lt hlt2]) k x hx)
          have c0 : wz.cell? ⟨gi, (is.length + j) * 13, none⟩ = some (.int .i64 777) := HMk.out 0 _ rfl
          have g2b : (j : Int) < 9 := by omega
          have c12 : wz.cell? ⟨gi, (is.length + j) * 13 + 12, none⟩ = some (.slice none 0 0) := HMk.out 12 _ rfl
          have c6 : wz.cell? ⟨gi, (is.length + j) * 13 + 6, none⟩ = some (.slice none 0 0) := HMk.out 6 _ rfl
          have c3 : wz.cell? ⟨gi, (is.length + j) * 13 + 3, none⟩ = some (.int .u64 0) := HMk.out 3 _ rfl
          have hm : is.length + j ≤ 100009 := by omega
          have g2' : is.length + j < is.length + 9 := by omega
          have hkj : ((is.length + j : Nat) : Int) + 1 = ((is.length + (j + 1) : Nat) : Int) := by omega
          have HME : Hid (is.length + 9 - (is.length + (j + 1)) < is.length + 9 - (is.length + j)) := by show _ < _; omega
          go_wp2_with fail
          go_roundw
          case rel => exact ⟨j + 1, by omega, by go_num, HBz⟩
          case measure => simp [intOf]; omega
        · have g2 : ¬ ((is.length + j : Nat) : Int) < (is.length : Int) + 9 := by omega
          go_wp2_with fail
          go_ret
          exact ⟨rfl, HBz.out⟩
set_option maxRecDepth 1000000 in
set_option maxHeartbeats 1000000 in
theorem backValue_step (N : Nat) (ih : BacksV N) (t : Tv) (hN : SizeOf.sizeOf t = N) (w : World) (lo hh : Nat) (c cs : Array Value) (hl : Ltv w lo hh t c) (ht : Tin w t cs) : Calls Tryz.prog 10 #[.agg c, .agg cs] w fun e w' => e = .returned (.bool true) ∧ Below w.heap.size w w' := by
  have HIH := hide ih
  have HNN : Hid (∀ u ∈ t.is, SizeOf.sizeOf u < N) := fun u hu => by rw [← hN]; exact Tv.is_lt hu
  clear ih hN
  obtain ⟨vy, vk, vi, rfl, hy, hk, hv, hb⟩ := ht.parts
  have HY := hide hy
  have HK := hide hk
  have HV := hide hv
  obtain ⟨⟨ay, cy, rfl, _, _⟩, _, _⟩ := hy
  obtain ⟨⟨ak, ck, rfl, _, _⟩, _, _⟩ := hk
  obtain ⟨⟨ai, ci, rfl, _, _⟩, _⟩ := hv
  have HL := hide hl
  clear ht hb
  cases hl with
  | mk _ gy cy2 gk ck2 gi ci2 L hbd hly hgy hlk hgk hkl hks hlv hgi hil hLn h13 hcs =>
  have HLY := hide hly
  have HLK : Hid (Lts w lo (.slice (some ⟨gk, 0, none⟩) t.ks.length ck2) t.ks) := ⟨⟨gk, ck2, rfl, hlk⟩, hkl, hks⟩
  have HLV : Hid (∀ wx, Below w.heap.size w wx → Calls Tryz.prog 34 #[.slice (some ⟨gi, 0, none⟩) t.is.length ci2, .slice ai t.is.length ci] wx fun e w' => e = .returned (.bool true) ∧ Below wx.heap.size wx w') := fun wx hbx => backValues_any N HIH.out t.is HNN.out wx lo hh gi ci2 L _ ((Kp.of_below (S := fun _ => False) hbx).owns hlv (fun _ _ h => h)) hil hLn h13 (fun i u c e1 e2 => (hcs i u c e1 e2).kept hbx) (HV.out.move (keep_below hbx))
  clear hbd hly hgy hlk hgk hkl hks hlv hgi hil hLn h13 hcs HL
  unfold vcs
  have HW0 : Hid (Bw w ((w.alloc (.cells #[.int .i64 t.k, .bool t.f, .bool t.g, .int .u64 (t.n : Nat), .int .u64 (t.b : Nat), .string t.s, .slice (some ⟨gy, 0, none⟩) t.y.length cy2, .int .i64 t.l.v, .int .u64 (t.l.c : Nat), .int .u64 (t.l.h : Nat), .string (nstr t.l.d), .slice (some ⟨gk, 0, none⟩) t.ks.length ck2, .slice (some ⟨gi, 0, none⟩) t.is.length ci2] 65)).alloc (.cells #[.int .i64 t.k, .bool t.f, .bool t.g, .int .u64 (t.n : Nat), .int .u64 (t.b : Nat), .string t.s, .slice ay t.y.length cy, .int .i64 t.l.v, .int .u64 (t.l.c : Nat), .int .u64 (t.l.h : Nat), .string (nstr t.l.d), .slice ak t.ks.length ck, .slice ai t.is.length ci] 65)) (vcs t (.slice (some ⟨gy, 0, none⟩) t.y.length cy2) (.slice (some ⟨gk, 0, none⟩) t.ks.length ck2) (.slice (some ⟨gi, 0, none⟩) t.is.length ci2)) (vcs t (.slice ay t.y.length cy) (.slice ak t.ks.length ck) (.slice ai t.is.length ci))) := Bw.start w _ _
  have HEQ := hide (fun wx => eqlk_selfV wx t.l)
  have HA := hide (fun j u (h : (lcs t.l)[j]? = some u) => lk_in HW0.out.a h)
  have HBb := hide (fun j u (h : (lcs t.l)[j]? = some u) => lk_in HW0.out.c h)
  go_enter Tryz.func10, Tryz.ntmps10
  go_wp2_with (first
    | (refine wpList_lkAt rfl rfl w.heap.size 7 t.l rfl HA.out ?_)
    | (refine wpList_lkAt rfl rfl (w.heap.size + 1) 7 t.l rfl HBb.out ?_)
    | (refine wpList_eqlk rfl rfl _ _ true rfl rfl (HEQ.out _) ?_))
  generalize (w.alloc (.cells #[.int .i64 t.k, .bool t.f, .bool t.g, .int .u64 (t.n : Nat), .int .u64 (t.b : Nat), .string t.s, .slice (some ⟨gy, 0, none⟩) t.y.length cy2, .int .i64 t.l.v, .int .u64 (t.l.c : Nat), .int .u64 (t.l.h : Nat), .string (nstr t.l.d), .slice (some ⟨gk, 0, none⟩) t.ks.length ck2, .slice (some ⟨gi, 0, none⟩) t.is.length ci2] 65)).alloc (.cells #[.int .i64 t.k, .bool t.f, .bool t.g, .int .u64 (t.n : Nat), .int .u64 (t.b : Nat), .string t.s, .slice ay t.y.length cy, .int .i64 t.l.v, .int .u64 (t.l.c : Nat), .int .u64 (t.l.h : Nat), .string (nstr t.l.d), .slice ak t.ks.length ck, .slice ai t.is.length ci] 65) = w2 at *
  refine (intactV (HLY.out.kp (Kp.of_below (S := fun _ => False) HW0.out.b) (fun h => h)) _ (HY.out.move (keep_below HW0.out.b))).mono ?_
  rintro e w3 ⟨rfl, hb3⟩
  have HW3 := hide (HW0.out.next hb3)
  clear hb3 HW0
  have a11 := blk_cell (j := 11) HW3.out.a rfl
  have b11 := blk_cell (j := 11) HW3.out.c rfl
  go_wp2_with fail
  refine (backTexts_any (HLK.out.below HW3.out.b) _ (HK.out.move (keep_below HW3.out.b))).mono ?_
  rintro e w4 ⟨rfl, hb4⟩
  have HW4 := hide (HW3.out.next hb4)
  clear hb4 HW3 a11 b11
  have a12 := blk_cell (j := 12) HW4.out.a rfl
  have b12 := blk_cell (j := 12) HW4.out.c rfl
  go_wp2_with fail
  refine (HLV.out w4 HW4.out.b).mono ?_
  rintro e w5 ⟨rfl, hb5⟩
  have HB5 : Hid (Below w.heap.size w w5) := HW4.out.b.trans (hb5.mono HW4.out.b.size)
  clear hb5 a12 b12
  go_wp2_with fail
  go_ret
  exact ⟨rfl, HB5.out⟩
theorem backValue_any (t : Tv) (w : World) (lo hh : Nat) (c cs : Array Value) (hl : Ltv w lo hh t c) (ht : Tin w t cs) : Calls Tryz.prog 10 #[.agg c, .agg cs] w fun e w' => e = .returned (.bool true) ∧ Below w.heap.size w w' := by
  have h : ∀ N, BacksV N := by
    intro N
    induction N with
    | zero => exact fun t h => absurd h (by omega)
    | succ N ih =>
      intro t htN w lo hh c cs hl ht
      exact backValue_step (SizeOf.sizeOf t) (fun u hu => ih u (by omega)) t rfl w lo hh c cs hl ht
  exact h _ t (Nat.lt_succ_self _) w lo hh c cs hl ht
end
section
open Go.RowKit Go

end
section
open Go.RowKit Go
theorem nstr_eq {xs : List Nat} {S : ByteArray} (h : ∀ x ∈ xs, x < 256) : ((nstr xs).toList == S.toList) = decide (xs = sl S) := by
  by_cases e : xs = sl S
  · rw [e, nstr_sl]
    simp
  · rw [decide_eq_false e]
    refine beq_eq_false_iff_ne.2 fun h2 => e (nstr_inj h (sl_byte S) ?_)
    rw [nstr_sl]
    exact h2
end
section
open Go.RowKit Go
theorem str_bne (s t : ByteArray) : (s.toList != t.toList) = !decide (s = t) := by
  have h := nstr_eq (S := t) (sl_byte s)
  rw [nstr_sl] at h
  unfold bne
  rw [h]
  congr 1
  by_cases e : s = t
  · rw [e]; simp
  · have e2 : sl s ≠ sl t := fun h2 => e (by rw [← nstr_sl s, h2, nstr_sl])
    simp [e, e2]
end
section
open Go.RowKit Go
theorem r_no {R : Bool} {p : Prop} (h : R = true ↔ p) (hp : ¬ p) : R = false := by
  cases R with
  | false => rfl
  | true => exact absurd (h.1 rfl) hp
end
section
open Go.RowKit Go
theorem str_beq_no {s t : ByteArray} (he : s ≠ t) : (s.toList == t.toList) = false := by
  have h := str_bne s t
  simp [he] at h
  exact beq_eq_false_iff_ne.2 h
end
section
open Go.RowKit Go
theorem bfr_adj {ks : List ByteArray} {n : Nat} {ps : List Nat} (h : Srp ks n ps) (hne : ∀ (i p q : Nat), ps[i]? = some p → ps[i + 1]? = some q → ks.getD p ⟨#[]⟩ ≠ ks.getD q ⟨#[]⟩) : ∀ (d i p q : Nat), ps[i]? = some p → ps[i + d + 1]? = some q → bfr (sl (ks.getD p ⟨#[]⟩)) (sl (ks.getD q ⟨#[]⟩)) = true := by
  have key : ∀ (i p q : Nat), ps[i]? = some p → ps[i + 1]? = some q → bfr (sl (ks.getD p ⟨#[]⟩)) (sl (ks.getD q ⟨#[]⟩)) = true := fun i p q hp hq => by
    rcases Bool.eq_false_or_eq_true (bfr (sl (ks.getD p ⟨#[]⟩)) (sl (ks.getD q ⟨#[]⟩))) with e | e
    · exact e
    · exact absurd (sl_inj (bfr_tot e (h.s i (i + 1) p q (by omega) hp hq))) (hne i p q hp hq)
  intro d
  induction d with
  | zero => exact key
  | succ d ih =>
    intro i p q hp hq
    have hlt := (List.getElem?_eq_some_iff.1 hq).1
    have hm : ps[i + d + 1]? = some (ps[i + d + 1]'(by omega)) := List.getElem?_eq_getElem (by omega)
    exact bfr_tr _ _ _ (ih i p _ hp hm) (key (i + d + 1) _ q hm hq)
/-- No two that stand side by side are the same: no key stands twice. -/
theorem nodup_adj {ks : List ByteArray} {ps : List Nat} (h : Srp ks ks.length ps) (hne : ∀ (i p q : Nat), ps[i]? = some p → ps[i + 1]? = some q → ks.getD p ⟨#[]⟩ ≠ ks.getD q ⟨#[]⟩) : ks.Nodup := by
  have hadj := bfr_adj h hne
  have hinj : ∀ i j, i < ps.length → j < ps.length → i < j → ks.getD (ps.getD i 0) ⟨#[]⟩ ≠ ks.getD (ps.getD j 0) ⟨#[]⟩ := fun i j hi hj hij e => by
    have h1 : ps[i]? = some (ps.getD i 0) := by simp [List.getD, List.getElem?_eq_getElem hi]
    have h2 : ps[i + (j - i - 1) + 1]? = some (ps.getD j 0) := by
      rw [show i + (j - i - 1) + 1 = j by omega]
      simp [List.getD, List.getElem?_eq_getElem hj]
    have hb := hadj (j - i - 1) i _ _ h1 h2
    rw [e, bfr_self] at hb
    cases hb
  have hmem : ∀ p, p < ks.length → ∃ i, i < ps.length ∧ ps.getD i 0 = p := fun p hp => by
    have hm : p ∈ ps := h.p.mem_iff.2 (by simpa using hp)
    obtain ⟨i, hi, e⟩ := List.getElem_of_mem hm
    exact ⟨i, hi, by simp [List.getD, List.getElem?_eq_getElem hi, e]⟩
  rw [List.Nodup, List.pairwise_iff_getElem]
  intro a b ha hb hab e
  obtain ⟨i, hi, ei⟩ := hmem a ha
  obtain ⟨j, hj, ej⟩ := hmem b hb
  have e1 : ks.getD (ps.getD i 0) ⟨#[]⟩ = ks.getD (ps.getD j 0) ⟨#[]⟩ := by
    rw [ei, ej]
    simp [List.getD, List.getElem?_eq_getElem ha, List.getElem?_eq_getElem hb, e]
  rcases Nat.lt_trichotomy i j with hij | hij | hij
  · exact hinj i j hi hj hij e1
  · subst hij
    omega
  · exact hinj j i hj hi hij e1.symm
theorem dup_adj {ks : List ByteArray} {ps : List Nat} (h : Srp ks ks.length ps) {i p q : Nat} (hp : ps[i]? = some p) (hq : ps[i + 1]? = some q) (e : ks.getD p ⟨#[]⟩ = ks.getD q ⟨#[]⟩) : ¬ ks.Nodup := fun hn => by
  have l1 := h.lt p (List.mem_of_getElem? hp)
  have l2 := h.lt q (List.mem_of_getElem? hq)
  have e2 := nodup_at hn l1 l2 e
  have hnd : ps.Nodup := h.p.nodup_iff.2 List.nodup_range
  have hi := (List.getElem?_eq_some_iff.1 hp).1
  have hj := (List.getElem?_eq_some_iff.1 hq).1
  have hx := List.pairwise_iff_getElem.1 hnd i (i + 1) hi hj (by omega)
  rw [List.getElem?_eq_getElem hi] at hp
  rw [List.getElem?_eq_getElem hj] at hq
  injection hp with hp
  injection hq with hq
  exact hx (by rw [hp, hq, e2])
set_option maxRecDepth 1000000 in
set_option maxHeartbeats 1000000 in
theorem twice_any (t : Tv) (R : Bool) (hR : R = true ↔ ¬ t.ks.Nodup) (hl : t.ks.length = t.is.length) (w : World) (cs : Array Value) (ht : Tin w t cs) (hn : t.ks.length ≤ 6000000) : Calls Tryz.prog 139 #[.agg cs] w fun e w' => e = .returned (.bool R) ∧ Below w.heap.size w w' := by
  have HR := hide hR
  have HTN := hide ht
  have HSZ := hide ht.size13
  obtain ⟨vy, vk, vi, rfl, hy, hk, hv, hb⟩ := ht.parts
  obtain ⟨⟨ak, ck, rfl, _, hkf⟩, hkm, _⟩ := hk
  have HKF := hide hkf
  have HMN : Hid (min t.ks.length t.is.length = t.ks.length) := by show _ = _; omega
  have HCK : Hid ((vcs t vy (.slice ak t.ks.length ck) vi)[11]? = some (.slice ak t.ks.length ck)) := rfl
  generalize vcs t vy (.slice ak t.ks.length ck) vi = cs at *
  clear hR ht hy hkf hv hb hl
  have HQ0 := hide (box_mk w cs)
  have HCB : Hid (∀ j u, cs[j]? = some u → (w.alloc (.cells cs 65)).cell? ⟨w.heap.size, 0 + j, none⟩ = some u) := fun j u hu => by rw [Nat.zero_add]; exact blk_cell HQ0.out.2 hu
  go_enter Tryz.func139, Tryz.ntmps139
  go_wp2_with (refine wpList_valAt rfl rfl w.heap.size 0 cs rfl HSZ.out HCB.out ?_)
  refine (order6_any t _ cs (HTN.out.move (keep_below HQ0.out.1)) (by omega)).mono ?_
  rintro e w2 ⟨v, ps, rfl, hpo, hsp, ho, hb2⟩
  clear hpo
  rw [HMN.out] at hsp
  have HSP := hide hsp
  have hpl : ps.length ≤ 6000000 := by have := hsp.len; omega
  have hi2 := ISl.own ho rfl (by omega)
  obtain ⟨⟨pa, pc, rfl, _, hpf⟩, _⟩ := hi2
  have HPF := hide hpf
  have HW2 : Hid (Below w.heap.size w w2 ∧ w2.heap[w.heap.size]? = some (.cells cs 65 (0, 0))) := ⟨HQ0.out.1.trans (hb2.mono HQ0.out.1.size), (hb2.block _ (blk_lt HQ0.out.2)).trans HQ0.out.2⟩
  clear hsp ho hb2 hpf HQ0 HCB
  go_wp2_with fail
  go_loopw [9] (fun ii wx => ∃ i : Nat, i ≤ ps.length ∧ ii = .int .i64 (i : Nat) ∧ Hid (∀ (j p q : Nat), j + 1 < i → ps[j]? = some p → ps[j + 1]? = some q → t.ks.getD p ⟨#[]⟩ ≠ t.ks.getD q ⟨#[]⟩) ∧ Hid (Below w2.heap.size w2 wx)) (fun ii _ => ps.length - (intOf ii).toNat)
  case atStart => exact ⟨0, by omega, rfl, fun j p q hj => absurd hj (by omega), Below.refl _ _⟩
  case round =>
    obtain ⟨i, hi, rfl, HI, HBw⟩ := hrel
    by_cases hlt : i < ps.length
    · have g1 : (i : Int) < (ps.length : Int) := by omega
      rcases Nat.eq_zero_or_pos i with h0 | h0
      · as_aux_lemma =>
        subst h0
        go_wp2_with fail
        go_quiet (fail)
        go_wp2_with fail
        have HB2 : Hid (Below w2.heap.size w2 (wr.drewN nq)) := HBw.out.trans ((((Kp.refl (fun _ => False) wr).drewN _).below (Nat.le_refl _) (fun _ h => h.elim)).mono HBw.out.size)
        go_roundw
        case rel => exact ⟨1, by omega, by go_num, fun j p q hj => absurd hj (by omega), HB2⟩
        case measure => simp [intOf]; omega
      · obtain ⟨k, rfl⟩ : ∃ k, i = k + 1 := ⟨i - 1, by omega⟩
        have hk1 : k < ps.length := by omega
        obtain ⟨p, hp⟩ : ∃ p, ps[k]? = some p := ⟨ps[k], List.getElem?_eq_getElem hk1⟩
        obtain ⟨q, hq⟩ : ∃ p, ps[k + 1]? = some p := ⟨ps[k + 1], List.getElem?_eq_getElem hlt⟩
        have l1 := HSP.out.lt p (List.mem_of_getElem? hp)
        have l2 := HSP.out.lt q (List.mem_of_getElem? hq)
        obtain ⟨b1, off1, rfl, hc1⟩ := HPF.out.resolve_left (fun h => by rw [h] at hlt; simp at hlt)
        obtain ⟨b2, off2, rfl, hc2⟩ := HKF.out.resolve_left (fun h => by rw [h] at l1; simp at l1)
        have hkw : ∀ a x, w.cell? a = some x → wr.cell? a = some x := fun a x h => keep_below HBw.out _ _ (keep_below HW2.out.1 _ _ h)
        have c1 : wr.cell? ⟨b1, off1 + k, none⟩ = some (.int .i64 (p : Nat)) := keep_below HBw.out _ _ (hc1 k p hp)
        have c2 : wr.cell? ⟨b1, off1 + (k + 1), none⟩ = some (.int .i64 (q : Nat)) := keep_below HBw.out _ _ (hc1 (k + 1) q hq)
        have s1 : wr.cell? ⟨b2, off2 + p, none⟩ = some (.string (t.ks.getD p ⟨#[]⟩)) := hkw _ _ (hc2 p _ (by simp [List.getD, List.getElem?_eq_getElem l1]))
        have s2 : wr.cell? ⟨b2, off2 + q, none⟩ = some (.string (t.ks.getD q ⟨#[]⟩)) := hkw _ _ (hc2 q _ (by simp [List.getD, List.getElem?_eq_getElem l2]))
        have x1 : wr.cell? ⟨w.heap.size, 11, none⟩ = some (.slice (some ⟨b2, off2, none⟩) t.ks.length ck) := keep_below HBw.out _ _ (blk_cell HW2.out.2 HCK.out)
        have g2 : (0 : Int) < ((k : Int) + 1) := by omega
        have g3 : (k : Int) < (ps.length : Int) := by omega
        have g4 : (p : Int) < (t.ks.length : Int) := by omega
        have g5 : (q : Int) < (t.ks.length : Int) := by omega
        clear hc1 hc2 hkw
        by_cases he : t.ks.getD p ⟨#[]⟩ = t.ks.getD q ⟨#[]⟩
        · as_aux_lemma =>
          have HT : Hid (R = true) := HR.out.2 (dup_adj HSP.out hp hq he)
          have hne : ((t.ks.getD p ⟨#[]⟩).toList == (t.ks.getD q ⟨#[]⟩).toList) = true := by rw [he]; simp
          clear hp hq he HI
          generalize t.ks.getD p ⟨#[]⟩ = k1 at *
          generalize t.ks.getD q ⟨#[]⟩ = k2 at *
          go_wp2_with fail
          go_quiet (fail)
          go_wp2_with fail
          go_ret
          exact ⟨by rw [HT.out]; rfl, HW2.out.1.trans ((HBw.out.trans ((((Kp.refl (fun _ => False) wr).drewN _).below (Nat.le_refl _) (fun _ h => h.elim)).mono HBw.out.size)).mono HW2.out.1.size)⟩
        · as_aux_lemma =>
          have hne : ((t.ks.getD p ⟨#[]⟩).toList == (t.ks.getD q ⟨#[]⟩).toList) = false := str_beq_no he
          have HI2 : Hid (∀ (j p q : Nat), j + 1 < k + 1 + 1 → ps[j]? = some p → ps[j + 1]? = some q → t.ks.getD p ⟨#[]⟩ ≠ t.ks.getD q ⟨#[]⟩) := fun j p' q' hj h1 h2 => by
            by_cases hjk : j = k
            · subst hjk
              rw [hp] at h1
              rw [hq] at h2
              injection h1 with h1
              injection h2 with h2
              subst h1 h2
              exact he
            · exact HI.out j p' q' (by omega) h1 h2
          clear hp hq he HI
          generalize t.ks.getD p ⟨#[]⟩ = k1 at *
          generalize t.ks.getD q ⟨#[]⟩ = k2 at *
          go_wp2_with fail
          go_quiet (fail)
          go_wp2_with fail
          have HB2 : Hid (Below w2.heap.size w2 (wr.drewN nq)) := HBw.out.trans ((((Kp.refl (fun _ => False) wr).drewN _).below (Nat.le_refl _) (fun _ h => h.elim)).mono HBw.out.size)
          go_roundw
          case rel => exact ⟨k + 1 + 1, by omega, by go_num, HI2, HB2⟩
          case measure => simp [intOf]; omega
    · as_aux_lemma =>
      have g1 : ¬ (i : Int) < (ps.length : Int) := by omega
      have HT : Hid (R = false) := r_no HR.out (fun h => h (nodup_adj HSP.out (fun j p q h1 h2 => HI.out j p q (by have := (List.getElem?_eq_some_iff.1 h2).1; omega) h1 h2)))
      go_wp2_with fail
      go_ret
      exact ⟨by rw [HT.out]; rfl, HW2.out.1.trans (HBw.out.mono HW2.out.1.size)⟩
end
end Go.Proofs.YtjlknnpgngaooaaGreatDoor
