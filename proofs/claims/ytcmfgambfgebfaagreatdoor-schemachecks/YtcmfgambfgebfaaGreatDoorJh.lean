import Derived.Test.YtcmfgambfgebfaaGreatDoorJg
import Derived.Test.YtcmfgambfgebfaaGreatDoorJf
import Derived.Test.YtcmfgambfgebfaaGreatDoorJb
import Derived.Test.YtcmfgambfgebfaaGreatDoorJa
namespace Go.Proofs.YtcmfgambfgebfaaGreatDoor
section
open Go.RowKit Go
theorem infoRfs : (Tryz.prog.info? 40).map (fun i => (i.zero, i.size, i.bytes)) = some (some (.agg #[.string ⟨#[]⟩, .bool false]), 2, 24) := by kernel_rfl
theorem kp_grown {w w' : World} {row : Option Nat} (h : w.grownBy w' row) : Kp (fun q => row = some q) w w' := ⟨h.os, h.tape, h.output, h.size, fun k hk hne => h.block k hk (fun e => hne e.symm)⟩
theorem sub_cell {w : World} {g T : Nat} {c d : Array Value} {o : Nat} (h : w.heap[g]? = some (.cells c T (0, 0))) (hd : ∀ j u, d[j]? = some u → c[o + j]? = some u) : ∀ j u, d[j]? = some u → w.cell? ⟨g, o + j, none⟩ = some u := fun j u hj => blk_cell h (hd j u hj)
/-- What references has in hand. -/
structure Rfp (w : World) (c : Array Value) (v : Value) (L : List Rf) (wx : World) : Prop where
  a : wx.heap[w.heap.size]? = some (.cells c 45 (0, 0))
  o : wx.ownsRow (w.heap.size + 1) 40 2 v (L.map rfc).length (gfl (L.map rfc))
  b : Below w.heap.size w wx
theorem Rfp.next {w wx wy : World} {c : Array Value} {v : Value} {L : List Rf} (h : Rfp w c v L wx) (hb : Below wx.heap.size wx wy) : Rfp w c v L wy := ⟨(hb.block _ (blk_lt h.a)).trans h.a, (Kp.of_below (S := fun _ => False) hb).owns h.o (fun _ _ e => e), h.b.trans (hb.mono h.b.size)⟩
theorem Rfp.app {w wx wy : World} {c : Array Value} {v v' : Value} {L : List Rf} {r : Rf} (h : Rfp w c v L wx) (hg : wx.grownBy wy v.ownBlock) (ho : wy.ownsRow (w.heap.size + 1) 40 2 v' ((L.map rfc).length + 1) (gfl (L.map rfc ++ [rfc r]))) : Rfp w c v' (L ++ [r]) wy := by
  have hk := kp_grown hg
  have hq : ∀ q, v.ownBlock = some q → w.heap.size < q := fun q e => by have := (h.o.lt q e).1; omega
  refine ⟨(hk.block _ (blk_lt h.a) (fun e => by have := hq _ e; omega)).trans h.a, ?_, h.b.trans (hk.below h.b.size (fun q e => by have := hq q e; omega))⟩
  rw [List.map_append, List.length_append]
  exact ho
theorem Rfp.start {w w1 : World} {c : Array Value} (h1 : w1 = w.alloc (.cells c 45)) : Rfp w c (.slice none 0 0) [] w1 := by
  subst h1
  exact ⟨heap_alloc_new w _, World.ownsRow_nil _ _ _ _, below_alloc4 w _⟩
theorem Rfp.rsl {w wx : World} {c : Array Value} {v : Value} {L : List Rf} (h : Rfp w c v L wx) (hl : L.length ≤ 140737488351232) (hb : ∀ r ∈ L, r.n.size ≤ 140737488351232) : RSl wx v L :=
  own_gsl h.o (fun c hc => by obtain ⟨r, _, rfl⟩ := List.mem_map.1 hc; rfl) (by rw [List.length_map]) hl (fun i r c hr hc => by
    rw [List.getElem?_map, hr] at hc
    injection hc with hc
    exact ⟨hc.symm, hb r (List.mem_of_getElem? hr)⟩)
theorem rfc_one (r : Rf) : ∀ u ∈ (rfc r).toList, u.oneCell' = true := fun u hu => by
  simp only [rfc, List.mem_cons, List.not_mem_nil, or_false] at hu
  rcases hu with rfl | rfl <;> rfl
/-- The row behind one more. -/
theorem append_rf {ops : Array Oper} {rest : List Oper} {o : Oper} {a : Act} {Q : Exit → Act → World → Prop} {w wx : World} (hgd : o.guard = none) {s x : Operand} (ho : o.op = .call { callee := .builtin .append, args := #[s, x], argTypes := #[88, 88] }) {c : Array Value} {v : Value} {L : List Rf} {r : Rf} (hs : a.eval s = v) (h : Rfp w c v L wx)
    (hx : a.eval x = .slice (some ⟨wx.heap.size, 0, none⟩) 1 1) (hlen : L.length ≤ 1000000)
    (hK : ∀ v' w', Rfp w c v' (L ++ [r]) w' → wpList Tryz.prog ops Q rest (a.put o.dst v') w') : wpList Tryz.prog ops Q (o :: rest) a (wx.alloc (.cells (rfc r) 40)) := by
  have h2 := h.next (below_alloc4 wx (.cells (rfc r) 40))
  exact append_g infoRfs Tryz.underlying88 rfl (by decide) (by decide) hgd ho hs h2.o hx (heap_alloc_new wx _) rfl (rfc_one r) (by rw [List.length_map]; exact hlen) (by have := blk_lt h2.a; omega) (fun v' w' h3 h4 _ => hK v' w' (h2.app h4 h3))
set_option maxRecDepth 1000000 in
set_option maxHeartbeats 1000000 in
theorem references_any (w : World) (t : Tp) (c : Array Value) (hc : Tpi w t c) (hf1 : t.fs.length ≤ 1000) (hc1 : t.cs.length ≤ 1000) : Calls Tryz.prog 40 #[.agg c] w fun e w' => ∃ v, e = .returned v ∧ Hid (RSl w' v (rfs t) ∧ Below w.heap.size w w') := by
  obtain ⟨⟨vf, vc, vw, rfl, ⟨⟨af, cf, rfl, -, hff⟩, hfm⟩, ⟨⟨ac, cc, rfl, -, hcf⟩, hcm⟩, ⟨⟨aw, cw, rfl, -, -⟩, hwm, -⟩⟩, hbd⟩ := hc
  have HF := hide hff
  have HC := hide hcf
  have HBD := hide hbd.r
  have HFS : Hid (∀ f ∈ t.fs, f.r.n.size ≤ 140737488351232) := fun f hf => by
    obtain ⟨i, hi, e⟩ := List.getElem_of_mem hf
    rcases hff with h | ⟨b, off, _, h⟩
    · rw [h] at hf; cases hf
    · obtain ⟨_, ⟨_, _, _, h3⟩, _⟩ := h i f (by rw [List.getElem?_eq_getElem hi, e])
      exact h3
  have HCS : Hid (∀ x ∈ t.cs, x.n.size ≤ 140737488351232) := fun x hx => by
    obtain ⟨i, hi, e⟩ := List.getElem_of_mem hx
    rcases hcf with h | ⟨b, off, _, h⟩
    · rw [h] at hx; cases hx
    · obtain ⟨_, ⟨_, _, h3⟩, _⟩ := h i x (by rw [List.getElem?_eq_getElem hi, e])
      exact h3
  have HF1 := hide hf1
  have HC1 := hide hc1
  unfold tpc
  clear hff hcf hbd hwm
  have HIR := hide infoRf
  have HAR : Hid (∀ w, (isAgg 40).run Tryz.prog w = .ok true w) := aggRf
  go_enter Tryz.func40, Tryz.ntmps40
  go_upto_region 1 with fail
  generalize hw1 : w.alloc (.cells #[.string t.n, .int .i64 t.k, .int .i64 t.lo, .int .i64 t.hi, .string t.r.n, .bool t.r.z, .slice af t.fs.length cf, .slice ac t.cs.length cc, .slice aw t.ws.length cw] 45) = w1 at *
  have HR := hide (Rfp.start hw1.symm)
  clear hw1
  have HT6 : Hid ((#[.string t.n, .int .i64 t.k, .int .i64 t.lo, .int .i64 t.hi, .string t.r.n, .bool t.r.z, .slice af t.fs.length cf, .slice ac t.cs.length cc, .slice aw t.ws.length cw] : Array Value)[6]? = some (.slice af t.fs.length cf)) := rfl
  have HT7 : Hid ((#[.string t.n, .int .i64 t.k, .int .i64 t.lo, .int .i64 t.hi, .string t.r.n, .bool t.r.z, .slice af t.fs.length cf, .slice ac t.cs.length cc, .slice aw t.ws.length cw] : Array Value)[7]? = some (.slice ac t.cs.length cc)) := rfl
  have q1 : w1.cell? ⟨w.heap.size, 1, none⟩ = some (.int .i64 t.k) := blk_cell (j := 1) HR.out.a rfl
  have HRF : Hid (∀ j u, (#[.string t.r.n, .bool t.r.z] : Array Value)[j]? = some u → w1.cell? ⟨w.heap.size, 4 + j, none⟩ = some u) := sub_cell HR.out.a (fun j u hj => by
    rcases j with _ | _ | j
    · exact hj
    · exact hj
    · simp at hj)
  obtain ⟨tc, htc⟩ : ∃ tc : Array Value, tc = #[.string t.n, .int .i64 t.k, .int .i64 t.lo, .int .i64 t.hi, .string t.r.n, .bool t.r.z, .slice af t.fs.length cf, .slice ac t.cs.length cc, .slice aw t.ws.length cw] := ⟨_, rfl⟩
  rw [← htc] at HR HT6 HT7
  clear htc
  go_upto_region 2 with fail
  go_cut [20] from 8 to 21 (fun v wx => v = .bool (decide (t.k = 1 ∨ t.k = 3 ∨ t.k = 4)) ∧ wx = w1)
  case first =>
    as_aux_lemma =>
    by_cases h1 : t.k = 1
    · have g1 : (t.k == 1) = true := beq_iff_eq.2 h1
      have HI : Hid (decide (t.k = 1 ∨ t.k = 3 ∨ t.k = 4) = true) := decide_eq_true (.inl h1)
      clear h1
      go_wp2_with fail
      go_meet
      case rel => exact ⟨by rw [HI.out], rfl⟩
    have g1 : (t.k == 1) = false := beq_eq_false_iff_ne.2 h1
    by_cases h3 : t.k = 3
    · have g3 : (t.k == 3) = true := beq_iff_eq.2 h3
      have HI : Hid (decide (t.k = 1 ∨ t.k = 3 ∨ t.k = 4) = true) := decide_eq_true (.inr (.inl h3))
      clear h1 h3
      go_wp2_with fail
      go_meet
      case rel => exact ⟨by rw [HI.out], rfl⟩
    have g3 : (t.k == 3) = false := beq_eq_false_iff_ne.2 h3
    by_cases h4 : t.k = 4
    · have g4 : (t.k == 4) = true := beq_iff_eq.2 h4
      have HI : Hid (decide (t.k = 1 ∨ t.k = 3 ∨ t.k = 4) = true) := decide_eq_true (.inr (.inr h4))
      clear h1 h3 h4
      go_wp2_with fail
      go_meet
      case rel => exact ⟨by rw [HI.out], rfl⟩
    have g4 : (t.k == 4) = false := beq_eq_false_iff_ne.2 h4
    have HI : Hid (decide (t.k = 1 ∨ t.k = 3 ∨ t.k = 4) = false) := decide_eq_false (fun h => h.elim h1 (fun h => h.elim h3 h4))
    clear h1 h3 h4
    go_wp2_with fail
    go_meet
    case rel => exact ⟨by rw [HI.out], rfl⟩
  obtain ⟨rfl, hww⟩ := hcut
  have hww := hww.symm
  subst hww
  generalize hkb : decide (t.k = 1 ∨ t.k = 3 ∨ t.k = 4) = kb
  have HKB := hide hkb
  clear hkb
  go_upto_if 20 with fail
  go_cut [3] from 21 to 26 (fun v wx => ∃ a0 n0 c0, v = .slice a0 n0 c0 ∧ Hid (Rfp w tc (.slice a0 n0 c0) (if kb = true then [t.r] else []) wx))
  case first =>
    as_aux_lemma =>
    cases kb with
    | true =>
      have HR1 : Hid (∀ (ops : Array Oper) (rest : List Oper) (o : Oper) (a : Act) (Q : Exit → Act → World → Prop) (s x : Operand), o.guard = none → o.op = .call { callee := .builtin .append, args := #[s, x], argTypes := #[88, 88] } → a.eval s = .slice none 0 0 → a.eval x = .slice (some ⟨w1.heap.size, 0, none⟩) 1 1 → (∀ v' w', Rfp w tc v' [t.r] w' → wpList Tryz.prog ops Q rest (a.put o.dst v') w') → wpList Tryz.prog ops Q (o :: rest) a (w1.alloc (.cells #[.string t.r.n, .bool t.r.z] 40))) := fun ops rest o a Q s x h1 h2 h3 h4 h5 => append_rf (r := t.r) h1 h2 h3 HR.out h4 (by decide) h5
      go_wp2_with (first
        | (refine wpList_aggAt rfl rfl HIR.out HAR.out w.heap.size 4 #[.string t.r.n, .bool t.r.z] rfl rfl HRF.out ?_)
        | (refine row1 infoRfs Tryz.underlying88 (by decide) (by decide) rfl rfl rfl (c := #[.string t.r.n, .bool t.r.z]) rfl rfl ?_)
        | (refine HR1.out _ _ _ _ _ _ _ rfl rfl rfl rfl ?_; intro v' w' hr'))
      obtain ⟨a0, c0, hv0, _⟩ := own_formG hr'.o
      subst hv0
      go_meet
      case rel => exact ⟨_, _, _, rfl, hr'⟩
    | false =>
      go_wp2_with fail
      go_meet
      case rel => exact ⟨_, _, _, rfl, HR.out⟩
  obtain ⟨a0, n0, c0, rfl, HP⟩ := hcut
  clear HR q1 HRF
  generalize hR0 : (if kb = true then [t.r] else []) = R0 at *
  have HR0 : Hid (rfs t = R0 ++ t.fs.map (·.r) ++ t.cs.map (fun c => ⟨c.n, false⟩)) := by
    show _ = _
    unfold rfs
    rw [← hR0, ← HKB.out]
    simp only [decide_eq_true_eq]
  have HL0 : Hid (R0.length ≤ 1) := by
    show _ ≤ _
    rw [← hR0]
    split <;> simp
  have HB0 : Hid (∀ r ∈ R0, r.n.size ≤ 140737488351232) := fun r hr => by
    rw [← hR0] at hr
    split at hr
    · rw [List.mem_singleton.1 hr]; exact HBD.out
    · cases hr
  clear hR0 HKB
  rename World => w2
  have q6 : w2.cell? ⟨w.heap.size, 6, none⟩ = some (.slice af t.fs.length cf) := blk_cell (j := 6) HP.out.a HT6.out
  go_wp2_with fail
  clear q6
  go_loopw [3, 29] (fun v vi wx => ∃ (i : Nat) (a0 : Option Addr) (n0 c0 : Nat), i ≤ t.fs.length ∧ v = .slice a0 n0 c0 ∧ vi = .int .i64 (i : Nat) ∧ Hid (Rfp w tc (.slice a0 n0 c0) (R0 ++ (t.fs.take i).map (·.r)) wx)) (fun _ vi _ => t.fs.length - (intOf vi).toNat)
  case atStart => exact ⟨0, a0, n0, c0, by omega, rfl, rfl, (by show Rfp w tc _ _ _; rw [List.take_zero, List.map_nil, List.append_nil]; exact HP.out)⟩
  case round =>
    obtain ⟨i, a1, n1, c1, hi, rfl, rfl, HPi⟩ := hrel
    clear HP
    by_cases hlt : i < t.fs.length
    · as_aux_lemma =>
      have g1 : (i : Int) < (t.fs.length : Int) := by omega
      obtain ⟨f, hf⟩ : ∃ f, t.fs[i]? = some f := ⟨t.fs[i], List.getElem?_eq_getElem hlt⟩
      obtain ⟨b, off, rfl, hcc⟩ := HF.out.resolve_left (fun h => by rw [h] at hlt; simp at hlt)
      obtain ⟨c, ⟨rfl, _⟩, hcell⟩ := hcc i f hf
      unfold fdc at hcell
      have HCL : Hid (∀ j u, (#[.string f.n, .string f.k, .string f.r.n, .bool f.r.z, .bool f.m] : Array Value)[j]? = some u → wr.cell? ⟨b, off + i * 5 + j, none⟩ = some u) := fun j u hj => keep_below HPi.out.b _ _ (hcell j u hj)
      have HTK : Hid (R0 ++ (t.fs.take (i + 1)).map (·.r) = (R0 ++ (t.fs.take i).map (·.r)) ++ [f.r]) := by
        show _ = _
        rw [List.take_succ_eq_append_getElem hlt, List.map_append, List.append_assoc]
        rw [List.getElem?_eq_getElem hlt] at hf
        injection hf with hf
        rw [hf]
        rfl
      have HP1 := hide (HPi.out.next (below_alloc4 wr (.cells #[.string f.n, .string f.k, .string f.r.n, .bool f.r.z, .bool f.m] 77)))
      have HIF := hide infoFd
      have HAF : Hid (∀ w, (isAgg 77).run Tryz.prog w = .ok true w) := aggFd
      have HRF : Hid (∀ j u, (#[.string f.r.n, .bool f.r.z] : Array Value)[j]? = some u → (wr.alloc (.cells #[.string f.n, .string f.k, .string f.r.n, .bool f.r.z, .bool f.m] 77)).cell? ⟨wr.heap.size, 2 + j, none⟩ = some u) := sub_cell (heap_alloc_new wr _) (fun j u hj => by
        rcases j with _ | _ | j
        · exact hj
        · exact hj
        · simp at hj)
      have HLL : Hid ((R0 ++ (t.fs.take i).map (·.r)).length ≤ 1000000) := by
        have h1 := HL0.out
        show _ ≤ _
        rw [List.length_append, List.length_map, List.length_take]
        omega
      have HR1 : Hid (∀ (ops : Array Oper) (rest : List Oper) (o : Oper) (a : Act) (Q : Exit → Act → World → Prop) (s x : Operand), o.guard = none → o.op = .call { callee := .builtin .append, args := #[s, x], argTypes := #[88, 88] } → a.eval s = .slice a1 n1 c1 → a.eval x = .slice (some ⟨(wr.alloc (.cells #[.string f.n, .string f.k, .string f.r.n, .bool f.r.z, .bool f.m] 77)).heap.size, 0, none⟩) 1 1 → (∀ v' w', Rfp w tc v' (R0 ++ (t.fs.take (i + 1)).map (·.r)) w' → wpList Tryz.prog ops Q rest (a.put o.dst v') w') → wpList Tryz.prog ops Q (o :: rest) a ((wr.alloc (.cells #[.string f.n, .string f.k, .string f.r.n, .bool f.r.z, .bool f.m] 77)).alloc (.cells #[.string f.r.n, .bool f.r.z] 40))) := fun ops rest o a Q s x h1 h2 h3 h4 h5 => append_rf (r := f.r) h1 h2 h3 HP1.out h4 HLL.out (by rw [← HTK.out]; exact h5)
      clear hcc hcell hf HPi HF HC HR0 HB0
      go_wp2_with (first
        | (refine wpList_aggAt rfl rfl HIF.out HAF.out b (off + i * 5) #[.string f.n, .string f.k, .string f.r.n, .bool f.r.z, .bool f.m] rfl rfl HCL.out ?_)
        | (refine wpList_aggAt rfl rfl HIR.out HAR.out wr.heap.size 2 #[.string f.r.n, .bool f.r.z] rfl rfl HRF.out ?_)
        | (refine row1 infoRfs Tryz.underlying88 (by decide) (by decide) rfl rfl rfl (c := #[.string f.r.n, .bool f.r.z]) rfl rfl ?_)
        | (refine HR1.out _ _ _ _ _ _ _ rfl rfl rfl rfl ?_; intro v' w' hr'))
      obtain ⟨a2, c2, hv0, _⟩ := own_formG hr'.o
      subst hv0
      have HR' := hide hr'
      clear hr'
      go_wp2_with fail
      go_roundw
      case rel => exact ⟨i + 1, _, _, _, by omega, rfl, by go_num, HR'⟩
      case measure => simp [intOf]; omega
    · have g1 : ¬ (i : Int) < (t.fs.length : Int) := by omega
      have hil : i = t.fs.length := by omega
      have HP2 : Hid (Rfp w tc (.slice a1 n1 c1) (R0 ++ t.fs.map (·.r)) wr) := by have h := HPi.out; rw [hil, List.take_length] at h; exact h
      clear hil HPi HF
      have q7 : wr.cell? ⟨w.heap.size, 7, none⟩ = some (.slice ac t.cs.length cc) := blk_cell (j := 7) HP2.out.a HT7.out
      go_wp2_with fail
      clear q7
      go_loopw [3, 42] (fun v vi wx => ∃ (i : Nat) (a0 : Option Addr) (n0 c0 : Nat), i ≤ t.cs.length ∧ v = .slice a0 n0 c0 ∧ vi = .int .i64 (i : Nat) ∧ Hid (Rfp w tc (.slice a0 n0 c0) (R0 ++ t.fs.map (·.r) ++ (t.cs.take i).map (fun c => ⟨c.n, false⟩)) wx)) (fun _ vi _ => t.cs.length - (intOf vi).toNat)
      case atStart => exact ⟨0, a1, n1, c1, by omega, rfl, rfl, (by show Rfp w tc _ _ _; rw [List.take_zero, List.map_nil, List.append_nil]; exact HP2.out)⟩
      case round =>
        rename World => wq
        obtain ⟨i, a3, n3, c3, hi, rfl, rfl, HPi⟩ := hrel
        clear HP2
        by_cases hlt : i < t.cs.length
        · as_aux_lemma =>
          have g1 : (i : Int) < (t.cs.length : Int) := by omega
          obtain ⟨x, hx⟩ : ∃ x, t.cs[i]? = some x := ⟨t.cs[i], List.getElem?_eq_getElem hlt⟩
          obtain ⟨b, off, rfl, hcc⟩ := HC.out.resolve_left (fun h => by rw [h] at hlt; simp at hlt)
          obtain ⟨c, ⟨rfl, _⟩, hcell⟩ := hcc i x hx
          unfold czc at hcell
          have HCL : Hid (∀ j u, (#[.string x.k, .string x.n] : Array Value)[j]? = some u → wq.cell? ⟨b, off + i * 2 + j, none⟩ = some u) := fun j u hj => keep_below HPi.out.b _ _ (hcell j u hj)
          have HTK : Hid (R0 ++ t.fs.map (·.r) ++ (t.cs.take (i + 1)).map (fun c => ⟨c.n, false⟩) = (R0 ++ t.fs.map (·.r) ++ (t.cs.take i).map (fun c => ⟨c.n, false⟩)) ++ [⟨x.n, false⟩]) := by
            show _ = _
            rw [List.take_succ_eq_append_getElem hlt, List.map_append, List.append_assoc _ _ [(⟨x.n, false⟩ : Rf)]]
            rw [List.getElem?_eq_getElem hlt] at hx
            injection hx with hx
            rw [hx]
            rfl
          have HP1 := hide (HPi.out.next (below_alloc4 wq (.cells #[.string x.k, .string x.n] 102)))
          have HIF := hide infoCz
          have HAF : Hid (∀ w, (isAgg 102).run Tryz.prog w = .ok true w) := aggCz
          have HLL : Hid (List.length (α := Rf) (R0 ++ t.fs.map (·.r) ++ (t.cs.take i).map (fun c => ⟨c.n, false⟩)) ≤ 1000000) := by
            have h1 := HL0.out
            show _ ≤ _
            rw [List.length_append, List.length_append, List.length_map, List.length_map, List.length_take]
            omega
          have HR1 : Hid (∀ (ops : Array Oper) (rest : List Oper) (o : Oper) (a : Act) (Q : Exit → Act → World → Prop) (s y : Operand), o.guard = none → o.op = .call { callee := .builtin .append, args := #[s, y], argTypes := #[88, 88] } → a.eval s = .slice a3 n3 c3 → a.eval y = .slice (some ⟨(wq.alloc (.cells #[.string x.k, .string x.n] 102)).heap.size, 0, none⟩) 1 1 → (∀ v' w', Rfp w tc v' (R0 ++ t.fs.map (·.r) ++ (t.cs.take (i + 1)).map (fun c => ⟨c.n, false⟩)) w' → wpList Tryz.prog ops Q rest (a.put o.dst v') w') → wpList Tryz.prog ops Q (o :: rest) a ((wq.alloc (.cells #[.string x.k, .string x.n] 102)).alloc (.cells #[.string x.n, .bool false] 40))) := fun ops rest o a Q s y h1 h2 h3 h4 h5 => append_rf (r := ⟨x.n, false⟩) h1 h2 h3 HP1.out h4 HLL.out (by rw [← HTK.out]; exact h5)
          clear hcc hcell hx HPi HC HR0 HB0
          go_wp2_with (first
            | (refine wpList_aggAt rfl rfl HIF.out HAF.out b (off + i * 2) #[.string x.k, .string x.n] rfl rfl HCL.out ?_)
            | (refine row1 infoRfs Tryz.underlying88 (by decide) (by decide) rfl rfl rfl (c := #[.string x.n, .bool false]) rfl rfl ?_)
            | (refine HR1.out _ _ _ _ _ _ _ rfl rfl rfl rfl ?_; intro v' w' hr'))
          obtain ⟨a2, c2, hv0, _⟩ := own_formG hr'.o
          subst hv0
          have HR' := hide hr'
          clear hr'
          go_wp2_with fail
          go_roundw
          case rel => exact ⟨i + 1, _, _, _, by omega, rfl, by go_num, HR'⟩
          case measure => simp [intOf]; omega
        · as_aux_lemma =>
          have g1 : ¬ (i : Int) < (t.cs.length : Int) := by omega
          have hil : i = t.cs.length := by omega
          have HP3 : Hid (Rfp w tc (.slice a3 n3 c3) (rfs t) wq) := by have h := HPi.out; rw [hil, List.take_length, ← HR0.out] at h; exact h
          have HSZ : Hid (∀ r ∈ rfs t, r.n.size ≤ 140737488351232) := fun r hr => by
            rw [HR0.out] at hr
            rcases List.mem_append.1 hr with hr | hr
            · rcases List.mem_append.1 hr with hr | hr
              · exact HB0.out r hr
              · obtain ⟨f, hf, rfl⟩ := List.mem_map.1 hr
                exact HFS.out f hf
            · obtain ⟨x, hx, rfl⟩ := List.mem_map.1 hr
              exact HCS.out x hx
          have HLN : Hid ((rfs t).length ≤ 140737488351232) := by
            have h1 := HL0.out
            show _ ≤ _
            rw [HR0.out, List.length_append, List.length_append, List.length_map, List.length_map]
            omega
          clear hil HPi HC
          go_wp2_with fail
          go_ret
          exact ⟨_, rfl, HP3.out.rsl HLN.out HSZ.out, HP3.out.b⟩
end
section
open Go.RowKit Go
/-! ### Refs, the reference's -/
set_option maxRecDepth 1000000 in
set_option maxHeartbeats 1000000 in
theorem refs11_any (w : World) (t : Tp) (c : Array Value) (hc : Tpi w t c) (hf1 : t.fs.length ≤ 1000) (hc1 : t.cs.length ≤ 1000) : Calls Tryz.prog 52 #[.agg c] w fun e w' => ∃ v, e = .returned v ∧ Hid (RSl w' v (rfs t) ∧ Below w.heap.size w w') := by
  obtain ⟨⟨vf, vc, vw, rfl, ⟨⟨af, cf, rfl, -, hff⟩, hfm⟩, ⟨⟨ac, cc, rfl, -, hcf⟩, hcm⟩, ⟨⟨aw, cw, rfl, -, -⟩, hwm, -⟩⟩, hbd⟩ := hc
  have HF := hide hff
  have HC := hide hcf
  have HBD := hide hbd.r
  have HFS : Hid (∀ f ∈ t.fs, f.r.n.size ≤ 140737488351232) := fun f hf => by
    obtain ⟨i, hi, e⟩ := List.getElem_of_mem hf
    rcases hff with h | ⟨b, off, _, h⟩
    · rw [h] at hf; cases hf
    · obtain ⟨_, ⟨_, _, _, h3⟩, _⟩ := h i f (by rw [List.getElem?_eq_getElem hi, e])
      exact h3
  have HCS : Hid (∀ x ∈ t.cs, x.n.size ≤ 140737488351232) := fun x hx => by
    obtain ⟨i, hi, e⟩ := List.getElem_of_mem hx
    rcases hcf with h | ⟨b, off, _, h⟩
    · rw [h] at hx; cases hx
    · obtain ⟨_, ⟨_, _, h3⟩, _⟩ := h i x (by rw [List.getElem?_eq_getElem hi, e])
      exact h3
  have HF1 := hide hf1
  have HC1 := hide hc1
  unfold tpc
  clear hff hcf hbd hwm
  have HIR := hide infoRf
  have HAR : Hid (∀ w, (isAgg 40).run Tryz.prog w = .ok true w) := aggRf
  go_enter Tryz.func52, Tryz.ntmps52
  go_upto_region 1 with fail
  generalize hw1 : w.alloc (.cells #[.string t.n, .int .i64 t.k, .int .i64 t.lo, .int .i64 t.hi, .string t.r.n, .bool t.r.z, .slice af t.fs.length cf, .slice ac t.cs.length cc, .slice aw t.ws.length cw] 45) = w1 at *
  have HR := hide (Rfp.start hw1.symm)
  clear hw1
  have HT6 : Hid ((#[.string t.n, .int .i64 t.k, .int .i64 t.lo, .int .i64 t.hi, .string t.r.n, .bool t.r.z, .slice af t.fs.length cf, .slice ac t.cs.length cc, .slice aw t.ws.length cw] : Array Value)[6]? = some (.slice af t.fs.length cf)) := rfl
  have HT7 : Hid ((#[.string t.n, .int .i64 t.k, .int .i64 t.lo, .int .i64 t.hi, .string t.r.n, .bool t.r.z, .slice af t.fs.length cf, .slice ac t.cs.length cc, .slice aw t.ws.length cw] : Array Value)[7]? = some (.slice ac t.cs.length cc)) := rfl
  have q1 : w1.cell? ⟨w.heap.size, 1, none⟩ = some (.int .i64 t.k) := blk_cell (j := 1) HR.out.a rfl
  have HRF : Hid (∀ j u, (#[.string t.r.n, .bool t.r.z] : Array Value)[j]? = some u → w1.cell? ⟨w.heap.size, 4 + j, none⟩ = some u) := sub_cell HR.out.a (fun j u hj => by
    rcases j with _ | _ | j
    · exact hj
    · exact hj
    · simp at hj)
  obtain ⟨tc, htc⟩ : ∃ tc : Array Value, tc = #[.string t.n, .int .i64 t.k, .int .i64 t.lo, .int .i64 t.hi, .string t.r.n, .bool t.r.z, .slice af t.fs.length cf, .slice ac t.cs.length cc, .slice aw t.ws.length cw] := ⟨_, rfl⟩
  rw [← htc] at HR HT6 HT7
  clear htc
  go_upto_region 2 with fail
  go_cut [18] from 6 to 19 (fun v wx => v = .bool (decide (t.k = 1 ∨ t.k = 3 ∨ t.k = 4)) ∧ wx = w1)
  case first =>
    as_aux_lemma =>
    by_cases h1 : t.k = 1
    · have g1 : (t.k == 1) = true := beq_iff_eq.2 h1
      have HI : Hid (decide (t.k = 1 ∨ t.k = 3 ∨ t.k = 4) = true) := decide_eq_true (.inl h1)
      clear h1
      go_wp2_with fail
      go_meet
      case rel => exact ⟨by rw [HI.out], rfl⟩
    have g1 : (t.k == 1) = false := beq_eq_false_iff_ne.2 h1
    by_cases h3 : t.k = 3
    · have g3 : (t.k == 3) = true := beq_iff_eq.2 h3
      have HI : Hid (decide (t.k = 1 ∨ t.k = 3 ∨ t.k = 4) = true) := decide_eq_true (.inr (.inl h3))
      clear h1 h3
      go_wp2_with fail
      go_meet
      case rel => exact ⟨by rw [HI.out], rfl⟩
    have g3 : (t.k == 3) = false := beq_eq_false_iff_ne.2 h3
    by_cases h4 : t.k = 4
    · have g4 : (t.k == 4) = true := beq_iff_eq.2 h4
      have HI : Hid (decide (t.k = 1 ∨ t.k = 3 ∨ t.k = 4) = true) := decide_eq_true (.inr (.inr h4))
      clear h1 h3 h4
      go_wp2_with fail
      go_meet
      case rel => exact ⟨by rw [HI.out], rfl⟩
    have g4 : (t.k == 4) = false := beq_eq_false_iff_ne.2 h4
    have HI : Hid (decide (t.k = 1 ∨ t.k = 3 ∨ t.k = 4) = false) := decide_eq_false (fun h => h.elim h1 (fun h => h.elim h3 h4))
    clear h1 h3 h4
    go_wp2_with fail
    go_meet
    case rel => exact ⟨by rw [HI.out], rfl⟩
  obtain ⟨rfl, hww⟩ := hcut
  have hww := hww.symm
  subst hww
  generalize hkb : decide (t.k = 1 ∨ t.k = 3 ∨ t.k = 4) = kb
  have HKB := hide hkb
  clear hkb
  go_upto_if 18 with fail
  go_cut [3] from 19 to 24 (fun v wx => ∃ a0 n0 c0, v = .slice a0 n0 c0 ∧ Hid (Rfp w tc (.slice a0 n0 c0) (if kb = true then [t.r] else []) wx))
  case first =>
    as_aux_lemma =>
    cases kb with
    | true =>
      have HR1 : Hid (∀ (ops : Array Oper) (rest : List Oper) (o : Oper) (a : Act) (Q : Exit → Act → World → Prop) (s x : Operand), o.guard = none → o.op = .call { callee := .builtin .append, args := #[s, x], argTypes := #[88, 88] } → a.eval s = .slice none 0 0 → a.eval x = .slice (some ⟨w1.heap.size, 0, none⟩) 1 1 → (∀ v' w', Rfp w tc v' [t.r] w' → wpList Tryz.prog ops Q rest (a.put o.dst v') w') → wpList Tryz.prog ops Q (o :: rest) a (w1.alloc (.cells #[.string t.r.n, .bool t.r.z] 40))) := fun ops rest o a Q s x h1 h2 h3 h4 h5 => append_rf (r := t.r) h1 h2 h3 HR.out h4 (by decide) h5
      go_wp2_with (first
        | (refine wpList_aggAt rfl rfl HIR.out HAR.out w.heap.size 4 #[.string t.r.n, .bool t.r.z] rfl rfl HRF.out ?_)
        | (refine row1 infoRfs Tryz.underlying88 (by decide) (by decide) rfl rfl rfl (c := #[.string t.r.n, .bool t.r.z]) rfl rfl ?_)
        | (refine HR1.out _ _ _ _ _ _ _ rfl rfl rfl rfl ?_; intro v' w' hr'))
      obtain ⟨a0, c0, hv0, _⟩ := own_formG hr'.o
      subst hv0
      go_meet
      case rel => exact ⟨_, _, _, rfl, hr'⟩
    | false =>
      go_wp2_with fail
      go_meet
      case rel => exact ⟨_, _, _, rfl, HR.out⟩
  obtain ⟨a0, n0, c0, rfl, HP⟩ := hcut
  clear HR q1 HRF
  generalize hR0 : (if kb = true then [t.r] else []) = R0 at *
  have HR0 : Hid (rfs t = R0 ++ t.fs.map (·.r) ++ t.cs.map (fun c => ⟨c.n, false⟩)) := by
    show _ = _
    unfold rfs
    rw [← hR0, ← HKB.out]
    simp only [decide_eq_true_eq]
  have HL0 : Hid (R0.length ≤ 1) := by
    show _ ≤ _
    rw [← hR0]
    split <;> simp
  have HB0 : Hid (∀ r ∈ R0, r.n.size ≤ 140737488351232) := fun r hr => by
    rw [← hR0] at hr
    split at hr
    · rw [List.mem_singleton.1 hr]; exact HBD.out
    · cases hr
  clear hR0 HKB
  rename World => w2
  go_wp2_with fail
  go_loopw [3, 4] (fun v vi wx => ∃ (i : Nat) (a0 : Option Addr) (n0 c0 : Nat), i ≤ t.fs.length ∧ v = .slice a0 n0 c0 ∧ vi = .int .i64 (i : Nat) ∧ Hid (Rfp w tc (.slice a0 n0 c0) (R0 ++ (t.fs.take i).map (·.r)) wx)) (fun _ vi _ => t.fs.length - (intOf vi).toNat)
  case atStart => exact ⟨0, a0, n0, c0, by omega, rfl, rfl, (by show Rfp w tc _ _ _; rw [List.take_zero, List.map_nil, List.append_nil]; exact HP.out)⟩
  case round =>
    obtain ⟨i, a1, n1, c1, hi, rfl, rfl, HPi⟩ := hrel
    clear HP
    have q6 : wr.cell? ⟨w.heap.size, 6, none⟩ = some (.slice af t.fs.length cf) := blk_cell (j := 6) HPi.out.a HT6.out
    by_cases hlt : i < t.fs.length
    · as_aux_lemma =>
      have g1 : (i : Int) < (t.fs.length : Int) := by omega
      obtain ⟨f, hf⟩ : ∃ f, t.fs[i]? = some f := ⟨t.fs[i], List.getElem?_eq_getElem hlt⟩
      obtain ⟨b, off, rfl, hcc⟩ := HF.out.resolve_left (fun h => by rw [h] at hlt; simp at hlt)
      obtain ⟨c, ⟨rfl, _⟩, hcell⟩ := hcc i f hf
      unfold fdc at hcell
      have HRF : Hid (∀ j u, (#[.string f.r.n, .bool f.r.z] : Array Value)[j]? = some u → wr.cell? ⟨b, off + i * 5 + 2 + j, none⟩ = some u) := fun j u hj => by
        rw [Nat.add_assoc _ 2 j]
        refine keep_below HPi.out.b _ _ (hcell (2 + j) u ?_)
        rcases j with _ | _ | j
        · exact hj
        · exact hj
        · simp at hj
      have HTK : Hid (R0 ++ (t.fs.take (i + 1)).map (·.r) = (R0 ++ (t.fs.take i).map (·.r)) ++ [f.r]) := by
        show _ = _
        rw [List.take_succ_eq_append_getElem hlt, List.map_append, List.append_assoc]
        rw [List.getElem?_eq_getElem hlt] at hf
        injection hf with hf
        rw [hf]
        rfl
      have HP1 := HPi
      have HLL : Hid ((R0 ++ (t.fs.take i).map (·.r)).length ≤ 1000000) := by
        have h1 := HL0.out
        show _ ≤ _
        rw [List.length_append, List.length_map, List.length_take]
        omega
      have HR1 : Hid (∀ (ops : Array Oper) (rest : List Oper) (o : Oper) (a : Act) (Q : Exit → Act → World → Prop) (s x : Operand), o.guard = none → o.op = .call { callee := .builtin .append, args := #[s, x], argTypes := #[88, 88] } → a.eval s = .slice a1 n1 c1 → a.eval x = .slice (some ⟨wr.heap.size, 0, none⟩) 1 1 → (∀ v' w', Rfp w tc v' (R0 ++ (t.fs.take (i + 1)).map (·.r)) w' → wpList Tryz.prog ops Q rest (a.put o.dst v') w') → wpList Tryz.prog ops Q (o :: rest) a (wr.alloc (.cells #[.string f.r.n, .bool f.r.z] 40))) := fun ops rest o a Q s x h1 h2 h3 h4 h5 => append_rf (r := f.r) h1 h2 h3 HP1.out h4 HLL.out (by rw [← HTK.out]; exact h5)
      clear hcc hcell hf HPi HF HC HR0 HB0
      go_wp2_with (first
        | (refine wpList_aggAt rfl rfl HIR.out HAR.out b (off + i * 5 + 2) #[.string f.r.n, .bool f.r.z] rfl rfl HRF.out ?_)
        | (refine row1 infoRfs Tryz.underlying88 (by decide) (by decide) rfl rfl rfl (c := #[.string f.r.n, .bool f.r.z]) rfl rfl ?_)
        | (refine HR1.out _ _ _ _ _ _ _ rfl rfl rfl rfl ?_; intro v' w' hr'))
      obtain ⟨a2, c2, hv0, _⟩ := own_formG hr'.o
      subst hv0
      have HR' := hide hr'
      clear hr'
      go_wp2_with fail
      go_roundw
      case rel => exact ⟨i + 1, _, _, _, by omega, rfl, by go_num, HR'⟩
      case measure => simp [intOf]; omega
    · have g1 : ¬ (i : Int) < (t.fs.length : Int) := by omega
      have hil : i = t.fs.length := by omega
      have HP2 : Hid (Rfp w tc (.slice a1 n1 c1) (R0 ++ t.fs.map (·.r)) wr) := by have h := HPi.out; rw [hil, List.take_length] at h; exact h
      clear hil HPi HF
      go_wp2_with fail
      clear q6
      go_loopw [3, 5] (fun v vi wx => ∃ (i : Nat) (a0 : Option Addr) (n0 c0 : Nat), i ≤ t.cs.length ∧ v = .slice a0 n0 c0 ∧ vi = .int .i64 (i : Nat) ∧ Hid (Rfp w tc (.slice a0 n0 c0) (R0 ++ t.fs.map (·.r) ++ (t.cs.take i).map (fun c => ⟨c.n, false⟩)) wx)) (fun _ vi _ => t.cs.length - (intOf vi).toNat)
      case atStart => exact ⟨0, a1, n1, c1, by omega, rfl, rfl, (by show Rfp w tc _ _ _; rw [List.take_zero, List.map_nil, List.append_nil]; exact HP2.out)⟩
      case round =>
        rename World => wq
        obtain ⟨i, a3, n3, c3, hi, rfl, rfl, HPi⟩ := hrel
        clear HP2
        have q7 : wq.cell? ⟨w.heap.size, 7, none⟩ = some (.slice ac t.cs.length cc) := blk_cell (j := 7) HPi.out.a HT7.out
        by_cases hlt : i < t.cs.length
        · as_aux_lemma =>
          have g1 : (i : Int) < (t.cs.length : Int) := by omega
          obtain ⟨x, hx⟩ : ∃ x, t.cs[i]? = some x := ⟨t.cs[i], List.getElem?_eq_getElem hlt⟩
          obtain ⟨b, off, rfl, hcc⟩ := HC.out.resolve_left (fun h => by rw [h] at hlt; simp at hlt)
          obtain ⟨c, ⟨rfl, _⟩, hcell⟩ := hcc i x hx
          unfold czc at hcell
          have qn : wq.cell? ⟨b, off + i * 2 + 1, none⟩ = some (.string x.n) := keep_below HPi.out.b _ _ (hcell 1 _ rfl)
          have HTK : Hid (R0 ++ t.fs.map (·.r) ++ (t.cs.take (i + 1)).map (fun c => ⟨c.n, false⟩) = (R0 ++ t.fs.map (·.r) ++ (t.cs.take i).map (fun c => ⟨c.n, false⟩)) ++ [⟨x.n, false⟩]) := by
            show _ = _
            rw [List.take_succ_eq_append_getElem hlt, List.map_append, List.append_assoc _ _ [(⟨x.n, false⟩ : Rf)]]
            rw [List.getElem?_eq_getElem hlt] at hx
            injection hx with hx
            rw [hx]
            rfl
          have HP1 := HPi
          have HLL : Hid (List.length (α := Rf) (R0 ++ t.fs.map (·.r) ++ (t.cs.take i).map (fun c => ⟨c.n, false⟩)) ≤ 1000000) := by
            have h1 := HL0.out
            show _ ≤ _
            rw [List.length_append, List.length_append, List.length_map, List.length_map, List.length_take]
            omega
          have HR1 : Hid (∀ (ops : Array Oper) (rest : List Oper) (o : Oper) (a : Act) (Q : Exit → Act → World → Prop) (s y : Operand), o.guard = none → o.op = .call { callee := .builtin .append, args := #[s, y], argTypes := #[88, 88] } → a.eval s = .slice a3 n3 c3 → a.eval y = .slice (some ⟨wq.heap.size, 0, none⟩) 1 1 → (∀ v' w', Rfp w tc v' (R0 ++ t.fs.map (·.r) ++ (t.cs.take (i + 1)).map (fun c => ⟨c.n, false⟩)) w' → wpList Tryz.prog ops Q rest (a.put o.dst v') w') → wpList Tryz.prog ops Q (o :: rest) a (wq.alloc (.cells #[.string x.n, .bool false] 40))) := fun ops rest o a Q s y h1 h2 h3 h4 h5 => append_rf (r := ⟨x.n, false⟩) h1 h2 h3 HP1.out h4 HLL.out (by rw [← HTK.out]; exact h5)
          clear hcc hcell hx HPi HC HR0 HB0
          go_wp2_with (first
            | (refine row1 infoRfs Tryz.underlying88 (by decide) (by decide) rfl rfl rfl (c := #[.string x.n, .bool false]) rfl rfl ?_)
            | (refine HR1.out _ _ _ _ _ _ _ rfl rfl rfl rfl ?_; intro v' w' hr'))
          obtain ⟨a2, c2, hv0, _⟩ := own_formG hr'.o
          subst hv0
          have HR' := hide hr'
          clear hr'
          go_wp2_with fail
          go_roundw
          case rel => exact ⟨i + 1, _, _, _, by omega, rfl, by go_num, HR'⟩
          case measure => simp [intOf]; omega
        · as_aux_lemma =>
          have g1 : ¬ (i : Int) < (t.cs.length : Int) := by omega
          have hil : i = t.cs.length := by omega
          have HP3 : Hid (Rfp w tc (.slice a3 n3 c3) (rfs t) wq) := by have h := HPi.out; rw [hil, List.take_length, ← HR0.out] at h; exact h
          have HSZ : Hid (∀ r ∈ rfs t, r.n.size ≤ 140737488351232) := fun r hr => by
            rw [HR0.out] at hr
            rcases List.mem_append.1 hr with hr | hr
            · rcases List.mem_append.1 hr with hr | hr
              · exact HB0.out r hr
              · obtain ⟨f, hf, rfl⟩ := List.mem_map.1 hr
                exact HFS.out f hf
            · obtain ⟨x, hx, rfl⟩ := List.mem_map.1 hr
              exact HCS.out x hx
          have HLN : Hid ((rfs t).length ≤ 140737488351232) := by
            have h1 := HL0.out
            show _ ≤ _
            rw [HR0.out, List.length_append, List.length_append, List.length_map, List.length_map]
            omega
          clear hil HPi HC
          go_wp2_with fail
          go_ret
          exact ⟨_, rfl, HP3.out.rsl HLN.out HSZ.out, HP3.out.b⟩
end
section
open Go.RowKit Go

end
section
open Go.RowKit Go

end
section
open Go.RowKit Go
/-- Texts as cells. -/
def sv (ks : List ByteArray) : List Value := ks.map fun s => .string s
theorem sv_len (ks : List ByteArray) : (sv ks).length = ks.length := by simp [sv]
theorem sv_app (a b : List ByteArray) : sv (a ++ b) = sv a ++ sv b := by simp [sv]
theorem sv_get {ks : List ByteArray} {j : Nat} {s : ByteArray} (h : ks[j]? = some s) : (sv ks)[j]? = some (.string s) := by simp [sv, h]
theorem sv_one (ks : List ByteArray) : ∀ u ∈ sv ks, u.oneCell' = true := by
  intro u hu
  simp only [sv, List.mem_map] at hu
  obtain ⟨_, _, rfl⟩ := hu
  rfl
theorem info9_ex : ∃ i, Tryz.prog.info? 9 = some i ∧ i.zero = some (.string ⟨#[]⟩) ∧ i.size = 1 ∧ i.bytes = 16 := by
  have h : (Tryz.prog.info? 9).map (fun i => (i.zero, i.size, i.bytes)) = some (some (.string ⟨#[]⟩), 1, 16) := by kernel_rfl
  cases hi : Tryz.prog.info? 9 with
  | none => rw [hi] at h; cases h
  | some i =>
    rw [hi] at h
    injection h with h
    injection h with h1 h2
    injection h2 with h2 h3
    exact ⟨i, rfl, h1, h2, h3⟩
set_option maxRecDepth 1000000 in
/-- 'append(l, x...)' of texts. -/
theorem append_ssl {ops : Array Oper} {rest : List Oper} {o : Oper} {a : Act} {Q : Exit → Act → World → Prop} {w : World} (hgd : o.guard = none) (s x : Operand)
    (ho : o.op = .call { callee := .builtin .append, args := #[s, x], argTypes := #[43, 43] }) (B : Nat) (v : Value) (n : Nat) (ds : List ByteArray) (hs : a.eval s = v) (hown : w.ownsRow B 9 1 v n (sv ds))
    (u : Value) (es : List ByteArray) (hx : a.eval x = u) (hu : SSl w u es) (hlen : n + es.length < 1099511627776) (hbase : B ≤ w.heap.size)
    (h : ∀ v' w', w'.ownsRow B 9 1 v' (n + es.length) (sv (ds ++ es)) → w.grownBy w' v.ownBlock → wpList Tryz.prog ops Q rest (a.put o.dst v') w') : wpList Tryz.prog ops Q (o :: rest) a w := by
  obtain ⟨i, hi, hz0, hz1, hz2⟩ := info9_ex
  obtain ⟨⟨ad, cap, rfl, hn, hc⟩, hmax, _⟩ := hu
  cases ad with
  | none =>
    have hc0 := hn.2 rfl
    have he : es = [] := List.length_eq_zero_iff.1 (by omega)
    subst hc0
    subst he
    refine wpList_append_own_none hgd s x 43 ho B 9 i 1 Tryz.underlying43 hi v n (sv ds) hs hown hx (h v w ?_ ⟨rfl, rfl, rfl, Nat.le_refl _, fun _ _ _ => rfl⟩)
    simpa using hown
  | some ad =>
    refine wpList_append_own_at w hgd s x 43 ho B 9 i (.string ⟨#[]⟩) 1 16 Tryz.underlying43 hi hz0 hz1 hz2 rfl (by decide) v n (sv ds) hs hown ad es.length cap (sv es) hx (by rw [sv_len, Nat.mul_one]) (fun j u hu => ?_) (sv_one es) (by unfold maxLen; omega) (by omega) hbase fun v' w' h1 h2 _ _ => h v' w' (by rw [sv_app]; exact h1) h2
    have hjl : j < es.length := by
      rcases Nat.lt_or_ge j es.length with h | h
      · exact h
      · rw [List.getElem?_eq_none (by rw [sv_len]; exact h)] at hu
        cases hu
    rcases hc with hc | ⟨b, off, e, hc⟩
    · rw [hc] at hjl
      simp at hjl
    · injection e with e
      subst e
      rw [sv_get (List.getElem?_eq_getElem hjl)] at hu
      injection hu with hu
      rw [addr_add, hc j _ (List.getElem?_eq_getElem hjl), hu]
/-- One text, fresh. -/
theorem one_ssl (w : World) (s : ByteArray) (hs : s.size ≤ 140737488351232) : SSl (w.alloc (.cells #[.string s] 9)) (.slice (some ⟨w.heap.size, 0, none⟩) 1 1) [s] := by
  refine ⟨⟨_, 1, rfl, ⟨by simp, fun h => by cases h⟩, .inr ⟨w.heap.size, 0, rfl, fun j t hj => ?_⟩⟩, by simp, by simpa using hs⟩
  match j, hj with
  | 0, hj =>
    simp at hj
    subst hj
    exact blk_cell (heap_alloc_new w _) rfl
  | j + 1, hj => simp at hj
def mk9 : ByteArray := ⟨#[109, 97, 114, 107]⟩
/-- Texts lent. -/
structure Lts (w : World) (base : Nat) (v : Value) (ks : List ByteArray) : Prop where
  own : ∃ g cap, v = .slice (some ⟨g, 0, none⟩) ks.length cap ∧ w.ownsRow base 9 1 (.slice (some ⟨g, 0, none⟩) (ks.length + 9) cap) (ks.length + 9) (sv (ks ++ List.replicate 9 mk9))
  len : ks.length ≤ 100000
  size : ∀ s ∈ ks, s.size ≤ 140737488351232
theorem Lts.below {w w' : World} {base : Nat} {v : Value} {ks : List ByteArray} (h : Lts w base v ks) (hb : Below w.heap.size w w') : Lts w' base v ks := by
  obtain ⟨⟨g, cap, hv, ho⟩, h1, h2⟩ := h
  exact ⟨⟨g, cap, hv, (Kp.of_below (S := fun _ => False) hb).owns ho (fun _ _ hf => hf)⟩, h1, h2⟩
set_option maxRecDepth 1000000 in
set_option maxHeartbeats 400000 in
theorem lendTexts_any (w : World) (v : Value) (ks : List ByteArray) (hsl : SSl w v ks) (hlen : ks.length ≤ 100000) :
    Calls Tryz.prog 35 #[v] w fun e w' => ∃ v', e = .returned v' ∧ Lts w' w.heap.size v' ks ∧ Below w.heap.size w w' := by
  obtain ⟨i9, hi, hz0, hz1, hz2⟩ := info9_ex
  have HSZ := hide hsl.size
  have HSL := hide hsl
  obtain ⟨⟨a, cap, rfl, hn, hc⟩, hmax, hb⟩ := hsl
  clear hn hc hmax hb
  obtain ⟨w0, hmk, hown0, hgr0⟩ := run_make_own (P := Tryz.prog) w w.heap.size 43 9 i9 (.string ⟨#[]⟩) 1 Tryz.underlying43 hi hz0 hz1 .i64 .i64 (ks.length + 9) (by rw [hz2]; omega) (by unfold maxLen; omega) (Nat.le_refl _)
  have ec : ((ks.length + 9 : Nat) : Int) = (ks.length : Int) + 9 := by omega
  rw [ec] at hmk
  clear ec hi hz0 hz1 hz2
  have hbel0 : Below w.heap.size w w0 := (Below.refl _ _).grown hgr0 (Nat.le_refl _) (fun _ h => by cases h)
  have HSL0 := hide (HSL.out.move (keep_below hbel0))
  generalize hB : w.heap.size = B at *
  have HBe := hide hB
  clear hB hgr0
  have HO0 : Hid (w0.ownsRow B 9 1 _ 0 (sv [])) := hown0
  clear hown0
  have HBL0 := hide hbel0
  clear hbel0
  go_enter Tryz.func35, Tryz.ntmps35
  go_wp2_with (at_builtin; refine append_ssl rfl _ _ rfl B _ 0 [] rfl HO0.out _ ks rfl HSL0.out ?b1 ?b2 ?_)
  case b1 => omega
  case b2 => have := HBL0.out.size; have := HBe.out; omega
  intro v1 w1 hown1 hgr1
  have hbel1 : Below B w w1 := HBL0.out.grown hgr1 (by have := HBL0.out.size; have := HBe.out; omega) (fun q hq => (HO0.out.lt q hq).1)
  clear hgr1 HO0 HBL0 HSL0 hmk
  have HO1 := hide hown1
  clear hown1
  have HBL1 := hide hbel1
  clear hbel1
  go_wp2
  go_loopw [3, 4] (fun v i wr => ∃ k : Nat, k ≤ 9 ∧ i = .int .i64 k ∧ Hid (wr.ownsRow B 9 1 v (ks.length + k) (sv (ks ++ List.replicate k mk9))) ∧ Hid (Below B w wr)) (fun _ i _ => 9 - (intOf i).toNat)
  case atStart => exact ⟨0, by omega, rfl, by simpa using HO1, HBL1⟩
  case round =>
    obtain ⟨k, hk, rfl, HO, HBL⟩ := hrel
    clear HO1 HBL1
    by_cases hlt : k < 9
    · have hlt' : (k : Int) < 9 := by omega
      have HR : Hid (ks ++ List.replicate (k + 1) mk9 = ks ++ (List.replicate k mk9 ++ [mk9])) := by show _ = _; rw [List.replicate_succ']
      go_wp2_with (at_builtin; refine append_ssl rfl _ _ rfl B _ (ks.length + k) (ks ++ List.replicate k mk9) rfl (HO.out.alloc _) _ [mk9] rfl (one_ssl _ mk9 (by decide)) ?b1 ?b2 ?_)
      case b1 => simp; omega
      case b2 => have := HBL.out.size; have := HBe.out; simp; omega
      intro v2 w2 hown2 hgr2
      have hbel2 : Below B w w2 := (HBL.out.alloc (by have := HBL.out.size; have := HBe.out; omega) _).grown hgr2 (by have := HBL.out.size; have := HBe.out; simp; omega) (fun q hq => (HO.out.lt q hq).1)
      have HO2 : Hid (w2.ownsRow B 9 1 v2 (ks.length + (k + 1)) (sv (ks ++ List.replicate (k + 1) mk9))) := by show World.ownsRow _ _ _ _ _ _ _; rw [HR.out]; exact hown2
      have HBL2 := hide hbel2
      clear hgr2 hown2 hbel2
      go_wp2
      go_roundw
      case rel => exact ⟨k + 1, by omega, by go_num, HO2, HBL2⟩
      case measure => simp [intOf]; omega
    · have hlt' : ¬ (k : Int) < 9 := by omega
      have hk70 : k = 9 := by omega
      have ho := HO.out
      rw [hk70] at ho
      rcases ho.2 with ⟨_, h0⟩ | ⟨g, cap', cur, hv, _, hg, h1, h2, h3, h4⟩
      · omega
      subst hv
      have HO2 := hide ho
      have h2' : ks.length ≤ cap' := by omega
      clear ho h3 h4 hg HO hlt cur
      subst hk70
      go_wp2
      go_ret
      exact ⟨_, rfl, ⟨⟨g, cap', rfl, HO2.out⟩, hlen, HSZ.out⟩, HBL.out⟩
end
section
open Go.RowKit Go
/-- A row of texts that lies in blocks of its own reads as these texts, whatever became of the rest. -/
theorem SSl.own {w : World} {base n : Nat} {v : Value} {ks : List ByteArray} (h : w.ownsRow base 9 1 v n (sv ks)) (hn : n = ks.length) (hm : ks.length ≤ 140737488351232) (hs : ∀ s ∈ ks, s.size ≤ 140737488351232) : SSl w v ks := by
  subst hn
  rcases id h.2 with ⟨hv, he⟩ | ⟨g, cap, cur, hv, _, _, h1, _⟩
  · subst hv
    have e : ks = [] := List.length_eq_zero_iff.1 he
    subst e
    exact ⟨⟨none, 0, rfl, ⟨by simp, fun _ => rfl⟩, .inl rfl⟩, hm, hs⟩
  · subst hv
    refine ⟨⟨_, cap, rfl, ⟨by omega, fun h => by cases h⟩, .inr ⟨g, 0, rfl, fun j s hj => ?_⟩⟩, hm, hs⟩
    rw [Nat.zero_add]
    exact (own_cell h (sv_get hj)).1
end
end Go.Proofs.YtcmfgambfgebfaaGreatDoor
