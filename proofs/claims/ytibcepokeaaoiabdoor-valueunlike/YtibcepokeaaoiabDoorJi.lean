import Derived.Test.YtibcepokeaaoiabDoorJh
import Derived.Deep.CutBlock
namespace Go.Proofs.YtibcepokeaaoiabDoor
section
open Go.RowKit Go
/-- A link somewhere in a block. -/
theorem load_lk {w : World} (g o : Nat) (l : Lk) (hc : ∀ j u, (lcs l)[j]? = some u → w.cell? ⟨g, o + j, none⟩ = some u) : (Instr.loadAt 25 (.pointer (some ⟨g, o, none⟩))).run Tryd.prog w = .ok (.agg (lcs l)) w := by
  have hl := run_loadCells_list (P := Tryd.prog) (w := w) ⟨g, o, none⟩ (lcs l).toList (fun j v hv => by rw [addr_add]; exact hc j v (by simpa using hv))
  have hi := info61
  simp only [Instr.loadAt, Instr.sureAddr, Sem.run_bind, Sem.run_pure, Result.andThen]
  cases hq : Tryd.prog.info? 25 with
  | none => simp [hq] at hi
  | some i =>
    have hs : i.size = 4 := by simpa [hq] using hi
    have hn : (lcs l).toList.length = 4 := rfl
    rw [hn] at hl
    have ha : (isAgg 25).run Tryd.prog w = .ok true w := by
      unfold isAgg
      rw [Sem.run_bind, run_underlying Tryd.underlying25 w]
      simp
    simp [loadVar, ha, sizeOf, typeInfo, hq, hs, hl]
theorem qstep_lkAt {C : World → Prop} {ops : Array Oper} {o : Oper} {a : Act} {K : Act → Prop} {p : Operand} (hgd : Region.wanted o (yielded ops a.tmps) = true) (ho : o.op = .load 25 p) (g off : Nat) (l : Lk)
    (hp : a.eval p = .pointer (some ⟨g, off, none⟩)) (hc : ∀ w, C w → ∀ j u, (lcs l)[j]? = some u → w.cell? ⟨g, off + j, none⟩ = some u)
    (h : K (a.put o.dst (.agg (lcs l)))) : if Region.wanted o (yielded ops a.tmps) = true then o.quiet Tryd.prog a C K else K (a.put o.dst undef) := by
  rw [if_pos hgd]
  refine ⟨.agg (lcs l), fun w hC => ?_, h⟩
  unfold Oper.quietAt execOp
  simp only [ho, Sem.run_bind, hp, load_lk g off l (hc w hC), Result.andThen_ok]
  exact ⟨rfl, rfl⟩
theorem wpList_lkAt {ops : Array Oper} {rest : List Oper} {o : Oper} {a : Act} {Q : Exit → Act → World → Prop} {w : World} {p : Operand} (hgd : Region.wanted o (yielded ops a.tmps) = true) (ho : o.op = .load 25 p) (g off : Nat) (l : Lk)
    (hp : a.eval p = .pointer (some ⟨g, off, none⟩)) (hc : ∀ j u, (lcs l)[j]? = some u → w.cell? ⟨g, off + j, none⟩ = some u)
    (h : wpList Tryd.prog ops Q rest (a.put o.dst (.agg (lcs l))) w) : wpList Tryd.prog ops Q (o :: rest) a w := by
  refine wpList_wanted hgd fun K hK => ?_
  unfold Oper.wp execOp
  simp only [ho, Sem.run_bind, hp, load_lk g off l hc, Result.andThen_ok]
  exact hK _ _ h
end
section
open Go.RowKit Go
theorem qstep_valAt {C : World → Prop} {ops : Array Oper} {o : Oper} {a : Act} {K : Act → Prop} {p : Operand} (hgd : Region.wanted o (yielded ops a.tmps) = true) (ho : o.op = .load 29 p) (g off : Nat) (cs : Array Value) (hn : cs.size = 13)
    (hp : a.eval p = .pointer (some ⟨g, off, none⟩)) (hc : ∀ w, C w → ∀ j u, cs[j]? = some u → w.cell? ⟨g, off + j, none⟩ = some u)
    (h : K (a.put o.dst (.agg cs))) : if Region.wanted o (yielded ops a.tmps) = true then o.quiet Tryd.prog a C K else K (a.put o.dst undef) := by
  rw [if_pos hgd]
  refine ⟨.agg cs, fun w hC => ?_, h⟩
  unfold Oper.quietAt execOp
  simp only [ho, Sem.run_bind, hp, load_val g off cs hn (hc w hC), Result.andThen_ok]
  exact ⟨rfl, rfl⟩
theorem eqlk_selfV (w : World) (a : Lk) : (Op.equalIn 10000 25 (.agg (lcs a)) (.agg (lcs a))).run Tryd.prog w = .ok true w := by
  have u3 := Tryd.underlying3
  have u9 := Tryd.underlying9
  have u33 := Tryd.underlying22
  have a3 := Tryd.isAgg3
  have a9 := Tryd.isAgg9
  have a33 := Tryd.isAgg22
  have z3 := Tryd.sizeOf3
  have z9 := Tryd.sizeOf9
  have z33 := Tryd.sizeOf22
  have hS : Tryd.prog.underlying 25 = some (.struct (Tryd.prog.fieldsOf 25)) := by kernel_rfl
  have hp : Tryd.prog.stoodInHeld 25 = false := by kernel_rfl
  unfold lcs
  rw [show (10000 : Nat) = 9999 + 1 from rfl, run_equalIn_agg w 9999 25 _ _ hS hp]
  simp only [Program.fieldsOf, Tryd.underlying25]
  go_simp
/-- Two values' blocks. -/
structure Bw (w wx : World) (c0 c1 : Array Value) : Prop where
  a : wx.heap[w.heap.size]? = some (.cells c0 29 (0, 0))
  c : wx.heap[w.heap.size + 1]? = some (.cells c1 29 (0, 0))
  b : Below w.heap.size w wx
theorem Bw.start (w : World) (c0 c1 : Array Value) : Bw w ((w.alloc (.cells c0 29)).alloc (.cells c1 29)) c0 c1 := by
  have h1 := heap_alloc_new w (.cells c0 29)
  have e1 : (w.alloc (.cells c0 29)).heap.size = w.heap.size + 1 := by simp
  have h2 := heap_alloc_new (w.alloc (.cells c0 29)) (.cells c1 29)
  rw [e1] at h2
  have b1 := below_alloc4 w (.cells c0 29)
  have b2 := below_alloc4 (w.alloc (.cells c0 29)) (.cells c1 29)
  exact ⟨blk_alloc _ h1, h2, b1.trans (b2.mono b1.size)⟩
theorem Bw.next {w wx wy : World} {c0 c1 : Array Value} (h : Bw w wx c0 c1) (hb : Below wx.heap.size wx wy) : Bw w wy c0 c1 :=
  ⟨(hb.block _ (blk_lt h.a)).trans h.a, (hb.block _ (blk_lt h.c)).trans h.c, h.b.trans (hb.mono h.b.size)⟩
theorem lk_in {w : World} {g : Nat} {t : Tv} {vy vk vi : Value} (h : w.heap[g]? = some (.cells (vcs t vy vk vi) 29 (0, 0))) {j : Nat} {u : Value} (hu : (lcs t.l)[j]? = some u) : w.cell? ⟨g, 7 + j, none⟩ = some u := by
  refine blk_cell h ?_
  match j, hu with
  | 0, hu => exact hu
  | 1, hu => exact hu
  | 2, hu => exact hu
  | 3, hu => exact hu
  | j + 4, hu => simp [lcs] at hu
theorem Tin.size {w : World} {t : Tv} {c : Array Value} (h : Tin w t c) : c.size = 13 := by
  obtain ⟨_, _, _, e, _⟩ := h.parts
  rw [e]
  rfl
end
section
open Go.RowKit Go
theorem bitsW_take (w x k : Nat) (hk : k < w) : (bitsW w x).take (w - k) = (bitsW w x).take (w - (k + 1)) ++ [x / 2 ^ k % 2] := by
  obtain ⟨n, hn⟩ : ∃ n, w - k = n + 1 := ⟨w - k - 1, by omega⟩
  have e2 : w - (k + 1) = n := by omega
  have e3 : w - 1 - n = k := by omega
  have hl : n < (bitsW w x).length := by rw [bitsW_len]; omega
  rw [hn, e2, List.take_succ_eq_append_getElem hl]
  congr 2
  simp only [bitsW, List.getElem_map, List.getElem_range]
  rw [e3]
/-- A row of numbers that stands in memory of the call's own. -/
structure Ivw (w wx : World) (v : Value) (l : List Nat) : Prop where
  o : wx.ownsRow w.heap.size 3 1 v l.length (ivs l)
  b : Below w.heap.size w wx
theorem Ivw.more {w wx wy : World} {v v' : Value} {l l' : List Nat} (h : Ivw w wx v l) (ho : wy.ownsRow w.heap.size 3 1 v' l'.length (ivs l')) (hb : Below w.heap.size wx wy) : Ivw w wy v' l' := ⟨ho, h.b.trans hb⟩
theorem half_bit (x k : Nat) : ((x : Int) / 2 ^ k).tmod 2 = ((x / 2 ^ k % 2 : Nat) : Int) := by
  have e1 : (x : Int) / 2 ^ k = ((x / 2 ^ k : Nat) : Int) := by rw [Int.natCast_ediv, Int.natCast_pow]; rfl
  rw [e1, Int.tmod_eq_emod_of_nonneg (Int.natCast_nonneg _)]
  rfl
/-- The bits of a number, one by one. -/
theorem valB_step (BS : List Nat) (q k : Nat) (h : q + k < BS.length) : valB 2 ((BS.drop q).take (k + 1)) = 2 * valB 2 ((BS.drop q).take k) + BS.getD (q + k) 0 := by
  have hl : k < (BS.drop q).length := by rw [List.length_drop]; omega
  rw [List.take_succ_eq_append_getElem hl, valB_snoc, Nat.mul_comm]
  congr 1
  rw [List.getElem_drop, List.getD_eq_getElem?_getD, List.getElem?_eq_getElem h]
  rfl
theorem valB2_lt {l : List Nat} {w : Nat} (h : ∀ x ∈ l, x < 2) (hl : l.length ≤ w) (hw : w ≤ 8) : valB 2 l < 256 := by
  have h1 := valB_lt (b := 2) (by decide) h
  have h2 : 2 ^ l.length ≤ 2 ^ 8 := Nat.pow_le_pow_right (by decide) (by omega)
  omega
/-- A base and how many bits its digits have. -/
def bw (base w : Nat) : Prop := (base = 1 ∧ w = 4) ∨ (base = 2 ∧ w = 5)
theorem bw_base {base w : Nat} (h : bw base w) : base = 1 ∨ base = 2 ∨ base = 3 := by
  rcases h with h | h
  · exact .inl h.1
  · exact .inr (.inl h.1)
theorem bw_len {base w : Nat} (h : bw base w) : (rdg base).length = 2 ^ w := by
  rcases h with ⟨rfl, rfl⟩ | ⟨rfl, rfl⟩ <;> decide
theorem bw_w {base w : Nat} (h : bw base w) : 0 < w ∧ w ≤ 8 := by
  rcases h with ⟨rfl, rfl⟩ | ⟨rfl, rfl⟩ <;> decide
/-- A text of bytes in a base. -/
def ofB (base w : Nat) (b : List Nat) : List Nat := (encW w b).map ((rdg base).getD · 0)
theorem ofB1 (b : List Nat) : ofB 1 4 b = of16 b := rfl
theorem ofB2 (b : List Nat) : ofB 2 5 b = of32 b := rfl
theorem pad_more {L r w : Nat} (hw : 0 < w) (h : (L + r) % w ≠ 0) (hr : r ≤ (w - L % w) % w) : r + 1 ≤ (w - L % w) % w := by
  have h0 : L % w < w := Nat.mod_lt _ hw
  by_cases hz : L % w = 0
  · rw [hz, Nat.sub_zero, Nat.mod_self] at hr
    have : r = 0 := by omega
    subst this
    exact absurd hz (by simpa using h)
  · rw [Nat.mod_eq_of_lt (a := w - L % w) (by omega)] at hr ⊢
    rcases Nat.lt_or_ge r (w - L % w) with h1 | h1
    · omega
    · have e : r = w - L % w := by omega
      exfalso
      apply h
      have e2 : L + r = w * (L / w + 1) := by
        have := Nat.div_add_mod L w
        rw [Nat.mul_add, Nat.mul_one]
        omega
      rw [e2, Nat.mul_mod_right]
theorem pad_done {L r w : Nat} (hw : 0 < w) (h : (L + r) % w = 0) (hr : r ≤ (w - L % w) % w) : r = (w - L % w) % w := by
  have h0 : L % w < w := Nat.mod_lt _ hw
  by_cases hz : L % w = 0
  · rw [hz, Nat.sub_zero, Nat.mod_self] at hr ⊢
    omega
  · rw [Nat.mod_eq_of_lt (a := w - L % w) (by omega)] at hr ⊢
    rcases Nat.lt_or_ge r (w - L % w) with h1 | h1
    · exfalso
      have e2 : (L + r) % w = L % w + r := by
        have := Nat.div_add_mod L w
        have e3 : L + r = w * (L / w) + (L % w + r) := by omega
        rw [e3, Nat.mul_add_mod, Nat.mod_eq_of_lt (by omega)]
      omega
    · omega
end
section
open Go.RowKit Go
/-- The bytes of a text in a base of so many bits. -/
def inB (base w : Nat) (s : List Nat) : Option (List Nat) := (looks (rdg base) s).bind fun l => if ofB base w (decW w l) = s then some (decW w l) else none
theorem inB1 (s : List Nat) : inB 1 4 s = in16 s := rfl
theorem inB2 (s : List Nat) : inB 2 5 s = in32 s := rfl
theorem bw_pow {base w : Nat} (h : bw base w) : 2 ^ w ≤ 256 := by
  rcases h with ⟨rfl, rfl⟩ | ⟨rfl, rfl⟩ <;> decide
theorem ofB_byte (base w : Nat) (b : List Nat) : ∀ x ∈ ofB base w b, x < 256 := fun x hx => by
  obtain ⟨n, _, rfl⟩ := List.mem_map.1 hx
  exact getD_lt (rdg_byte base) n
theorem nstr_eq {xs : List Nat} {S : ByteArray} (h : ∀ x ∈ xs, x < 256) : ((nstr xs).toList == S.toList) = decide (xs = sl S) := by
  by_cases e : xs = sl S
  · rw [e, nstr_sl]
    simp
  · rw [decide_eq_false e]
    refine beq_eq_false_iff_ne.2 fun h2 => e (nstr_inj h (sl_byte S) ?_)
    rw [nstr_sl]
    exact h2
end
section
open Go.RowKit Go
theorem str_bne (s t : ByteArray) : (s.toList != t.toList) = !decide (s = t) := by
  have h := nstr_eq (S := t) (sl_byte s)
  rw [nstr_sl] at h
  unfold bne
  rw [h]
  congr 1
  by_cases e : s = t
  · rw [e]; simp
  · have e2 : sl s ≠ sl t := fun h2 => e (by rw [← nstr_sl s, h2, nstr_sl])
    simp [e, e2]
set_option maxRecDepth 1000000 in
set_option maxHeartbeats 400000 in
theorem eqStrings_any {w : World} {v u : Value} {ks ls : List ByteArray} (hv : SSl w v ks) (hu : SSl w u ls) :
    Calls Tryd.prog 22 #[v, u] w fun e w' => e = .returned (.bool (decide (ks = ls))) ∧ Below w.heap.size w w' := by
  generalize hR : decide (ks = ls) = R
  have HR := hide hR
  clear hR
  obtain ⟨⟨av, cv, rfl, _, hf⟩, hkm, _⟩ := hv
  obtain ⟨⟨au, cu, rfl, _, hg⟩, hlm, _⟩ := hu
  have HF := hide hf
  have HG := hide hg
  clear hf hg
  by_cases hl : ks.length = ls.length
  · have g0 : ((ks.length : Int) != (ls.length : Int)) = false := by rw [nat_ne]; simp [hl]
    have HL := hide hl
    clear hl
    go_enter Tryd.func22, Tryd.ntmps22
    go_wp2_with fail
    go_loopw [5] (fun ii wx => ∃ i : Nat, i ≤ ks.length ∧ ii = .int .i64 (i : Nat) ∧ Hid (∀ j, j < i → ks[j]? = ls[j]?) ∧ Hid (Below w.heap.size w wx)) (fun ii _ => ks.length - (intOf ii).toNat)
    case atStart => exact ⟨0, by omega, rfl, fun j hj => absurd hj (by omega), Below.refl _ _⟩
    case round =>
      obtain ⟨i, hi, rfl, HI, HBw⟩ := hrel
      by_cases hlt : i < ks.length
      · have g1 : (i : Int) < (ks.length : Int) := by omega
        have hlt2 : i < ls.length := by rw [← HL.out]; exact hlt
        have g2 : (i : Int) < (ls.length : Int) := by omega
        obtain ⟨s, hs⟩ : ∃ s, ks[i]? = some s := ⟨ks[i], List.getElem?_eq_getElem hlt⟩
        obtain ⟨t, ht⟩ : ∃ s, ls[i]? = some s := ⟨ls[i], List.getElem?_eq_getElem hlt2⟩
        obtain ⟨b, off, rfl, hcc⟩ := HF.out.resolve_left (fun h => by rw [h] at hlt; simp at hlt)
        obtain ⟨b2, off2, rfl, hcd⟩ := HG.out.resolve_left (fun h => by rw [h] at hlt2; simp at hlt2)
        have c1 := keep_below HBw.out _ _ (hcc i s hs)
        have c2 := keep_below HBw.out _ _ (hcd i t ht)
        clear hcc hcd HF HG
        by_cases he : s = t
        · as_aux_lemma =>
          have hne : (s.toList == t.toList) = true := by rw [he]; simp
          have HI2 : Hid (∀ j, j < i + 1 → ks[j]? = ls[j]?) := fun j hj => by
            by_cases hji : j = i
            · rw [hji, hs, ht, he]
            · exact HI.out j (by omega)
          clear he hs ht HI
          go_wp2_with fail
          go_region
          go_wp2_with fail
          have HB2 : Hid (Below w.heap.size w wr.drew) := HBw.out.drew
          go_roundw
          case rel => exact ⟨i + 1, by omega, by go_num, HI2, HB2⟩
          case measure => simp [intOf]; omega
        · as_aux_lemma =>
          have hne : (s.toList == t.toList) = false := by have h := str_bne s t; simp [he] at h; exact beq_eq_false_iff_ne.2 h
          have HN : Hid (ks ≠ ls) := fun h => by
            rw [h, ht] at hs
            exact he (Option.some.inj hs).symm
          clear he hs ht HI
          go_wp2_with fail
          go_region
          go_wp2_with fail
          go_ret
          exact ⟨by rw [← HR.out, decide_eq_false HN.out]; rfl, HBw.out.drew⟩
      · as_aux_lemma =>
        have g1 : ¬ (i : Int) < (ks.length : Int) := by omega
        have HN : Hid (ks = ls) := List.ext_getElem? fun j => by
          by_cases hj : j < i
          · exact HI.out j hj
          · rw [List.getElem?_eq_none (by omega), List.getElem?_eq_none (by rw [← HL.out]; omega)]
        go_wp2_with fail
        go_ret
        exact ⟨by rw [← HR.out, decide_eq_true HN.out]; rfl, HBw.out⟩
  · as_aux_lemma =>
    have g0 : ((ks.length : Int) != (ls.length : Int)) = true := by rw [nat_ne]; simp [hl]
    have HN : Hid (ks ≠ ls) := fun h => hl (by rw [h])
    clear hl HF HG
    go_enter Tryd.func22, Tryd.ntmps22
    go_wp2_with fail
    go_ret
    exact ⟨by rw [← HR.out, decide_eq_false HN.out]; rfl, Below.refl _ _⟩
end
section
open Go.RowKit Go
theorem r_yes {R : Bool} {p : Prop} (h : R = true ↔ p) (hp : p) : R = true := h.2 hp
theorem r_no {R : Bool} {p : Prop} (h : R = true ↔ p) (hp : ¬ p) : R = false := by
  cases R with
  | false => rfl
  | true => exact absurd (h.1 rfl) hp
def EqsV (N : Nat) : Prop := ∀ t : Tv, SizeOf.sizeOf t < N → ∀ (u : Tv) (r : Bool), (r = true ↔ t = u) → ∀ (w : World) (c cs : Array Value), Tin w t c → Tin w u cs → Calls Tryd.prog 16 #[.agg c, .agg cs] w fun e w' => e = .returned (.bool r) ∧ Below w.heap.size w w'
set_option maxRecDepth 1000000 in
set_option maxHeartbeats 1000000 in
theorem eqValues_any (N : Nat) (ih : EqsV N) (is ls : List Tv) (hN : ∀ u ∈ is, SizeOf.sizeOf u < N) (w : World) (v v2 : Value) (R : Bool) (hR : R = true ↔ is = ls) (hv : VSl w v is) (hv2 : VSl w v2 ls) :
    Calls Tryd.prog 36 #[v, v2] w fun e w' => e = .returned (.bool R) ∧ Below w.heap.size w w' := by
  have HR := hide hR
  clear hR
  have HIH := hide ih
  have HNN := hide hN
  obtain ⟨⟨a, ca, rfl, _, hf⟩, hm1⟩ := hv
  obtain ⟨⟨a2, ca2, rfl, _, hg⟩, hm2⟩ := hv2
  have HF := hide hf
  have HG := hide hg
  clear ih hN hf hg
  by_cases hl : is.length = ls.length
  · have g0 : ((is.length : Int) != (ls.length : Int)) = false := by rw [nat_ne]; simp [hl]
    have HL := hide hl
    clear hl
    go_enter Tryd.func36, Tryd.ntmps36
    go_wp2_with fail
    go_loopw [5] (fun ii wx => ∃ i : Nat, i ≤ is.length ∧ ii = .int .i64 (i : Nat) ∧ Hid (∀ j, j < i → is[j]? = ls[j]?) ∧ Hid (Below w.heap.size w wx)) (fun ii _ => is.length - (intOf ii).toNat)
    case atStart => exact ⟨0, by omega, rfl, fun j hj => absurd hj (by omega), Below.refl _ _⟩
    case round =>
      obtain ⟨i, hi, rfl, HI, HBw⟩ := hrel
      by_cases hlt : i < is.length
      · have g1 : (i : Int) < (is.length : Int) := by omega
        have hlt2 : i < ls.length := by rw [← HL.out]; exact hlt
        have g2 : (i : Int) < (ls.length : Int) := by omega
        obtain ⟨u, hu⟩ : ∃ u, is[i]? = some u := ⟨is[i], List.getElem?_eq_getElem hlt⟩
        obtain ⟨u2, hu2⟩ : ∃ u, ls[i]? = some u := ⟨ls[i], List.getElem?_eq_getElem hlt2⟩
        obtain ⟨b, off, rfl, hcells⟩ := HF.out.resolve_left (fun h => by rw [h] at hlt; simp at hlt)
        obtain ⟨b2, off2, rfl, hcells2⟩ := HG.out.resolve_left (fun h => by rw [h] at hlt2; simp at hlt2)
        obtain ⟨c, hc, hcc⟩ := hcells i u hu
        obtain ⟨c2, hc2, hcc2⟩ := hcells2 i u2 hu2
        have HSc := hide hc.size
        have HSu := hide hc2.size
        have HQ1 : Hid (∀ wx, (∃ t : Ext wr, wx = t.w') → ∀ j x, c[j]? = some x → wx.cell? ⟨b, off + i * 13 + j, none⟩ = some x) := by
          rintro _ ⟨t, rfl⟩ j x hx
          exact keep_below t.h _ _ (keep_below HBw.out _ _ (hcc j x hx))
        have HQ2 : Hid (∀ wx, (∃ t : Ext wr, wx = t.w') → ∀ j x, c2[j]? = some x → wx.cell? ⟨b2, off2 + i * 13 + j, none⟩ = some x) := by
          rintro _ ⟨t, rfl⟩ j x hx
          exact keep_below t.h _ _ (keep_below HBw.out _ _ (hcc2 j x hx))
        have HC0 : Hid (∀ r : Bool, (r = true ↔ u = u2) → ∀ t : Ext wr, Calls Tryd.prog 16 #[.agg c, .agg c2] t.w' fun e w'' => e = .returned (.bool r) ∧ ∃ t' : Ext wr, w'' = t'.w') := fun r hr t => Calls.ext_below (HIH.out u (HNN.out u (List.mem_of_getElem? hu)) u2 r hr t.w' c c2 ((hc.move (keep_below HBw.out)).move (keep_below t.h)) ((hc2.move (keep_below HBw.out)).move (keep_below t.h)))
        clear hcells hc hcc hcells2 hc2 hcc2 HF HG
        by_cases he : u = u2
        · as_aux_lemma =>
          have HC1 : Hid (∀ t : Ext wr, Calls Tryd.prog 16 #[.agg c, .agg c2] t.w' fun e w'' => e = .returned (.bool true) ∧ ∃ t' : Ext wr, w'' = t'.w') := HC0.out true (by simp [he])
          have HI2 : Hid (∀ j, j < i + 1 → is[j]? = ls[j]?) := fun j hj => by
            by_cases hji : j = i
            · rw [hji, hu, hu2, he]
            · exact HI.out j (by omega)
          clear he hu hu2 HI HC0
          go_wp2_with fail
          refine region_ext (by kernel_rfl) (by kernel_rfl) ?_
          repeat (
            refine wpQuiet_step (fun K hK => ?_)
            first
              | (refine qstep_valAt rfl rfl b (off + i * 13) c HSc.out rfl HQ1.out (hK _ ?_); clear hK K)
              | (refine qstep_valAt rfl rfl b2 (off2 + i * 13) c2 HSu.out rfl HQ2.out (hK _ ?_); clear hK K)
              | (go_simp
                 first
                   | (refine hK _ ?_; clear hK K)
                   | (apply Exists.intro
                      refine ⟨fun _ => ?_, hK _ ?_⟩
                      (go_at_call 16; exact HC1.out _)
                      clear hK K)))
          refine wpQuiet_nil ?_
          rintro _ ⟨tq, rfl⟩
          have HB2 : Hid (Below w.heap.size w tq.w') := HBw.out.trans (tq.h.mono HBw.out.size)
          go_wp2_with fail
          go_roundw
          case rel => exact ⟨i + 1, by omega, by go_num, HI2, HB2⟩
          case measure => simp [intOf]; omega
        · as_aux_lemma =>
          have HC1 : Hid (∀ t : Ext wr, Calls Tryd.prog 16 #[.agg c, .agg c2] t.w' fun e w'' => e = .returned (.bool false) ∧ ∃ t' : Ext wr, w'' = t'.w') := HC0.out false (by simp [he])
          have HN : Hid (is ≠ ls) := fun h => by
            rw [h, hu2] at hu
            exact he (Option.some.inj hu).symm
          clear he hu hu2 HI HC0
          go_wp2_with fail
          refine region_ext (by kernel_rfl) (by kernel_rfl) ?_
          repeat (
            refine wpQuiet_step (fun K hK => ?_)
            first
              | (refine qstep_valAt rfl rfl b (off + i * 13) c HSc.out rfl HQ1.out (hK _ ?_); clear hK K)
              | (refine qstep_valAt rfl rfl b2 (off2 + i * 13) c2 HSu.out rfl HQ2.out (hK _ ?_); clear hK K)
              | (go_simp
                 first
                   | (refine hK _ ?_; clear hK K)
                   | (apply Exists.intro
                      refine ⟨fun _ => ?_, hK _ ?_⟩
                      (go_at_call 16; exact HC1.out _)
                      clear hK K)))
          refine wpQuiet_nil ?_
          rintro _ ⟨tq, rfl⟩
          have HB2 : Hid (Below w.heap.size w tq.w') := HBw.out.trans (tq.h.mono HBw.out.size)
          go_wp2_with fail
          go_ret
          exact ⟨by rw [r_no HR.out HN.out]; rfl, HB2.out⟩
      · as_aux_lemma =>
        have g1 : ¬ (i : Int) < (is.length : Int) := by omega
        have HN : Hid (is = ls) := List.ext_getElem? fun j => by
          by_cases hj : j < i
          · exact HI.out j hj
          · rw [List.getElem?_eq_none (by omega), List.getElem?_eq_none (by rw [← HL.out]; omega)]
        go_wp2_with fail
        go_ret
        exact ⟨by rw [r_yes HR.out HN.out]; rfl, HBw.out⟩
  · as_aux_lemma =>
    have g0 : ((is.length : Int) != (ls.length : Int)) = true := by rw [nat_ne]; simp [hl]
    have HN : Hid (is ≠ ls) := fun h => hl (by rw [h])
    clear hl HF HG
    go_enter Tryd.func36, Tryd.ntmps36
    go_wp2_with fail
    go_ret
    exact ⟨by rw [r_no HR.out HN.out]; rfl, Below.refl _ _⟩
end
section
open Go.RowKit Go
theorem Tv.same {t u : Tv} (h0 : t.k = u.k) (h1 : t.f = u.f) (h2 : t.g = u.g) (h3 : t.n = u.n) (h4 : t.b = u.b) (h5 : t.s = u.s) (h6 : t.l = u.l) (h7 : t.y = u.y) (h8 : t.ks = u.ks) (h9 : t.is = u.is) : t = u := by
  obtain ⟨k, f, g, n, b, s, y, l, ks, is⟩ := t
  obtain ⟨k2, f2, g2, n2, b2, s2, y2, l2, ks2, is2⟩ := u
  simp only [Tv.k, Tv.f, Tv.g, Tv.n, Tv.b, Tv.s, Tv.y, Tv.l, Tv.ks, Tv.is] at h0 h1 h2 h3 h4 h5 h6 h7 h8 h9
  subst h0 h1 h2 h3 h4 h5 h6 h7 h8 h9
  rfl
theorem str_beq_no {s t : ByteArray} (he : s ≠ t) : (s.toList == t.toList) = false := by
  have h := str_bne s t
  simp [he] at h
  exact beq_eq_false_iff_ne.2 h
set_option maxRecDepth 1000000 in
set_option maxHeartbeats 2000000 in
theorem eqValue_step (N : Nat) (ih : EqsV N) (t u : Tv) (hN : SizeOf.sizeOf t = N) (R : Bool) (hR : R = true ↔ t = u) (w : World) (c cs : Array Value) (ht : Tin w t c) (hu : Tin w u cs) : Calls Tryd.prog 16 #[.agg c, .agg cs] w fun e w' => e = .returned (.bool R) ∧ Below w.heap.size w w' := by
  have HR := hide hR
  clear hR
  have HIH := hide ih
  have HNN : Hid (∀ u ∈ t.is, SizeOf.sizeOf u < N) := fun u hu => by rw [← hN]; exact Tv.is_lt hu
  clear ih hN
  obtain ⟨vy, vk, vi, rfl, hy, hk, hv, hb⟩ := ht.parts
  obtain ⟨vy2, vk2, vi2, rfl, hy2, hk2, hv2, hb2⟩ := hu.parts
  have HY := hide hy
  have HK := hide hk
  have HV := hide hv
  have HY2 := hide hy2
  have HK2 := hide hk2
  have HV2 := hide hv2
  have HD1 := hide hb.l.d
  have HD2 := hide hb2.l.d
  obtain ⟨⟨ay, cy, rfl, _, _⟩, _, _⟩ := hy
  obtain ⟨⟨ak, ck, rfl, _, _⟩, _, _⟩ := hk
  obtain ⟨⟨ai, ci, rfl, _, _⟩, _⟩ := hv
  obtain ⟨⟨ay2, cy2, rfl, _, _⟩, _, _⟩ := hy2
  obtain ⟨⟨ak2, ck2, rfl, _, _⟩, _, _⟩ := hk2
  obtain ⟨⟨ai2, ci2, rfl, _, _⟩, _⟩ := hv2
  clear ht hb hu hb2
  unfold vcs
  have HW0 : Hid (Bw w ((w.alloc (.cells #[.int .i64 t.k, .bool t.f, .bool t.g, .int .u64 (t.n : Nat), .int .u64 (t.b : Nat), .string t.s, .slice ay t.y.length cy, .int .i64 t.l.v, .int .u64 (t.l.c : Nat), .int .u64 (t.l.h : Nat), .string (nstr t.l.d), .slice ak t.ks.length ck, .slice ai t.is.length ci] 29)).alloc (.cells #[.int .i64 u.k, .bool u.f, .bool u.g, .int .u64 (u.n : Nat), .int .u64 (u.b : Nat), .string u.s, .slice ay2 u.y.length cy2, .int .i64 u.l.v, .int .u64 (u.l.c : Nat), .int .u64 (u.l.h : Nat), .string (nstr u.l.d), .slice ak2 u.ks.length ck2, .slice ai2 u.is.length ci2] 29)) (vcs t (.slice ay t.y.length cy) (.slice ak t.ks.length ck) (.slice ai t.is.length ci)) (vcs u (.slice ay2 u.y.length cy2) (.slice ak2 u.ks.length ck2) (.slice ai2 u.is.length ci2))) := Bw.start w _ _
  have HA := hide (fun j x (h : (lcs t.l)[j]? = some x) => lk_in HW0.out.a h)
  have HBb := hide (fun j x (h : (lcs u.l)[j]? = some x) => lk_in HW0.out.c h)
  by_cases h0 : t.k = u.k
  case neg => as_aux_lemma =>
    have HN : Hid (R = false) := r_no HR.out (fun h => h0 (by rw [h]))
    have k0 : (t.k == u.k) = false := beq_eq_false_iff_ne.2 h0
    clear h0
    go_enter Tryd.func16, Tryd.ntmps16
    go_wp2_with fail
    go_ret
    exact ⟨by rw [HN.out]; rfl, HW0.out.b⟩
  have k0 : (t.k == u.k) = true := beq_iff_eq.2 h0
  have H0 := hide h0
  clear h0
  by_cases h1 : t.f = u.f
  case neg => as_aux_lemma =>
    have HN : Hid (R = false) := r_no HR.out (fun h => h1 (by rw [h]))
    have k1 : (t.f == u.f) = false := beq_eq_false_iff_ne.2 h1
    clear h1
    go_enter Tryd.func16, Tryd.ntmps16
    go_wp2_with fail
    go_ret
    exact ⟨by rw [HN.out]; rfl, HW0.out.b⟩
  have k1 : (t.f == u.f) = true := beq_iff_eq.2 h1
  have H1 := hide h1
  clear h1
  by_cases h2 : t.g = u.g
  case neg => as_aux_lemma =>
    have HN : Hid (R = false) := r_no HR.out (fun h => h2 (by rw [h]))
    have k2 : (t.g == u.g) = false := beq_eq_false_iff_ne.2 h2
    clear h2
    go_enter Tryd.func16, Tryd.ntmps16
    go_wp2_with fail
    go_ret
    exact ⟨by rw [HN.out]; rfl, HW0.out.b⟩
  have k2 : (t.g == u.g) = true := beq_iff_eq.2 h2
  have H2 := hide h2
  clear h2
  by_cases h3 : t.n = u.n
  case neg => as_aux_lemma =>
    have HN : Hid (R = false) := r_no HR.out (fun h => h3 (by rw [h]))
    have k3 : ((t.n : Int) == (u.n : Int)) = false := beq_eq_false_iff_ne.2 (by omega)
    clear h3
    go_enter Tryd.func16, Tryd.ntmps16
    go_wp2_with fail
    go_ret
    exact ⟨by rw [HN.out]; rfl, HW0.out.b⟩
  have k3 : ((t.n : Int) == (u.n : Int)) = true := beq_iff_eq.2 (by omega)
  have H3 := hide h3
  clear h3
  by_cases h4 : t.b = u.b
  case neg => as_aux_lemma =>
    have HN : Hid (R = false) := r_no HR.out (fun h => h4 (by rw [h]))
    have k4 : ((t.b : Int) == (u.b : Int)) = false := beq_eq_false_iff_ne.2 (by omega)
    clear h4
    go_enter Tryd.func16, Tryd.ntmps16
    go_wp2_with fail
    go_ret
    exact ⟨by rw [HN.out]; rfl, HW0.out.b⟩
  have k4 : ((t.b : Int) == (u.b : Int)) = true := beq_iff_eq.2 (by omega)
  have H4 := hide h4
  clear h4
  by_cases h5 : t.s = u.s
  case neg => as_aux_lemma =>
    have HN : Hid (R = false) := r_no HR.out (fun h => h5 (by rw [h]))
    have k5 : (t.s.toList == u.s.toList) = false := str_beq_no h5
    clear h5
    go_enter Tryd.func16, Tryd.ntmps16
    go_wp2_with fail
    go_ret
    exact ⟨by rw [HN.out]; rfl, HW0.out.b⟩
  have k5 : (t.s.toList == u.s.toList) = true := by rw [h5]; exact beq_self_eq_true _
  have H5 := hide h5
  clear h5
  by_cases h6 : t.l = u.l
  case neg => as_aux_lemma =>
    have HN : Hid (R = false) := r_no HR.out (fun h => h6 (by rw [h]))
    have HEQ : Hid (∀ wx : World, (Op.equalIn 10000 25 (.agg (lcs t.l)) (.agg (lcs u.l))).run Tryd.prog wx = .ok false wx) := fun wx => by have h := eqlk wx HD1.out HD2.out; rw [decide_eq_false h6] at h; exact h
    clear h6
    go_enter Tryd.func16, Tryd.ntmps16
    go_wp2_with (first
      | (refine wpList_lkAt rfl rfl w.heap.size 7 t.l rfl HA.out ?_)
      | (refine wpList_lkAt rfl rfl (w.heap.size + 1) 7 u.l rfl HBb.out ?_)
      | (refine wpList_eqlk rfl rfl _ _ false rfl rfl (HEQ.out _) ?_))
    go_ret
    exact ⟨by rw [HN.out]; rfl, HW0.out.b⟩
  have HEQ : Hid (∀ wx : World, (Op.equalIn 10000 25 (.agg (lcs t.l)) (.agg (lcs u.l))).run Tryd.prog wx = .ok true wx) := fun wx => by have h := eqlk wx HD1.out HD2.out; rw [decide_eq_true h6] at h; exact h
  have H6 := hide h6
  clear h6
  go_enter Tryd.func16, Tryd.ntmps16
  go_wp2_with (first
    | (refine wpList_lkAt rfl rfl w.heap.size 7 t.l rfl HA.out ?_)
    | (refine wpList_lkAt rfl rfl (w.heap.size + 1) 7 u.l rfl HBb.out ?_)
    | (refine wpList_eqlk rfl rfl _ _ true rfl rfl (HEQ.out _) ?_))
  generalize (w.alloc (.cells #[.int .i64 t.k, .bool t.f, .bool t.g, .int .u64 (t.n : Nat), .int .u64 (t.b : Nat), .string t.s, .slice ay t.y.length cy, .int .i64 t.l.v, .int .u64 (t.l.c : Nat), .int .u64 (t.l.h : Nat), .string (nstr t.l.d), .slice ak t.ks.length ck, .slice ai t.is.length ci] 29)).alloc (.cells #[.int .i64 u.k, .bool u.f, .bool u.g, .int .u64 (u.n : Nat), .int .u64 (u.b : Nat), .string u.s, .slice ay2 u.y.length cy2, .int .i64 u.l.v, .int .u64 (u.l.c : Nat), .int .u64 (u.l.h : Nat), .string (nstr u.l.d), .slice ak2 u.ks.length ck2, .slice ai2 u.is.length ci2] 29) = w2 at *
  refine (eq_any w2 _ _ t.y u.y (HY.out.move (keep_below HW0.out.b)) (HY2.out.move (keep_below HW0.out.b))).mono ?_
  rintro e w3 ⟨rfl, hk3⟩
  have HW3 := hide (HW0.out.next (hk3.below (Nat.le_refl _) (fun _ h => h.elim)))
  clear hk3 HW0 HA HBb HEQ
  by_cases h7 : t.y = u.y
  case neg => as_aux_lemma =>
    have HN : Hid (R = false) := r_no HR.out (fun h => h7 (by rw [h]))
    rw [decide_eq_false h7]
    clear h7
    go_wp2_with fail
    go_ret
    exact ⟨by rw [HN.out]; rfl, HW3.out.b⟩
  rw [decide_eq_true h7]
  have H7 := hide h7
  clear h7
  have a11 := blk_cell (j := 11) HW3.out.a rfl
  have b11 := blk_cell (j := 11) HW3.out.c rfl
  go_wp2_with fail
  refine (eqStrings_any (HK.out.move (keep_below HW3.out.b)) (HK2.out.move (keep_below HW3.out.b))).mono ?_
  rintro e w4 ⟨rfl, hb4⟩
  have HW4 := hide (HW3.out.next hb4)
  clear hb4 HW3 a11 b11
  by_cases h8 : t.ks = u.ks
  case neg => as_aux_lemma =>
    have HN : Hid (R = false) := r_no HR.out (fun h => h8 (by rw [h]))
    rw [decide_eq_false h8]
    clear h8
    go_wp2_with fail
    go_ret
    exact ⟨by rw [HN.out]; rfl, HW4.out.b⟩
  rw [decide_eq_true h8]
  have H8 := hide h8
  clear h8
  have a12 := blk_cell (j := 12) HW4.out.a rfl
  have b12 := blk_cell (j := 12) HW4.out.c rfl
  have HRI : Hid (R = true ↔ t.is = u.is) := ⟨fun h => by rw [HR.out.1 h], fun h => HR.out.2 (Tv.same H0.out H1.out H2.out H3.out H4.out H5.out H6.out H7.out H8.out h)⟩
  go_wp2_with fail
  refine (eqValues_any N HIH.out t.is u.is HNN.out w4 _ _ R HRI.out (HV.out.move (keep_below HW4.out.b)) (HV2.out.move (keep_below HW4.out.b))).mono ?_
  rintro e w5 ⟨rfl, hb5⟩
  have HB5 : Hid (Below w.heap.size w w5) := HW4.out.b.trans (hb5.mono HW4.out.b.size)
  clear hb5 a12 b12
  go_wp2_with fail
  go_ret
  exact ⟨rfl, HB5.out⟩
theorem eqValue_any (t u : Tv) (R : Bool) (hR : R = true ↔ t = u) (w : World) (c cs : Array Value) (ht : Tin w t c) (hu : Tin w u cs) : Calls Tryd.prog 16 #[.agg c, .agg cs] w fun e w' => e = .returned (.bool R) ∧ Below w.heap.size w w' := by
  have h : ∀ N, EqsV N := by
    intro N
    induction N with
    | zero => exact fun t h => absurd h (by omega)
    | succ N ih =>
      intro t htN u r hr w c cs ht hu
      exact eqValue_step (SizeOf.sizeOf t) (fun v hv => ih v (by omega)) t u rfl r hr w c cs ht hu
  exact h _ t (Nat.lt_succ_self _) u R hR w c cs ht hu
end
section
open Go.RowKit Go
theorem bfr_adj {ks : List ByteArray} {n : Nat} {ps : List Nat} (h : Srp ks n ps) (hne : ∀ (i p q : Nat), ps[i]? = some p → ps[i + 1]? = some q → ks.getD p ⟨#[]⟩ ≠ ks.getD q ⟨#[]⟩) : ∀ (d i p q : Nat), ps[i]? = some p → ps[i + d + 1]? = some q → bfr (sl (ks.getD p ⟨#[]⟩)) (sl (ks.getD q ⟨#[]⟩)) = true := by
  have key : ∀ (i p q : Nat), ps[i]? = some p → ps[i + 1]? = some q → bfr (sl (ks.getD p ⟨#[]⟩)) (sl (ks.getD q ⟨#[]⟩)) = true := fun i p q hp hq => by
    rcases Bool.eq_false_or_eq_true (bfr (sl (ks.getD p ⟨#[]⟩)) (sl (ks.getD q ⟨#[]⟩))) with e | e
    · exact e
    · exact absurd (sl_inj (bfr_tot e (h.s i (i + 1) p q (by omega) hp hq))) (hne i p q hp hq)
  intro d
  induction d with
  | zero => exact key
  | succ d ih =>
    intro i p q hp hq
    have hlt := (List.getElem?_eq_some_iff.1 hq).1
    have hm : ps[i + d + 1]? = some (ps[i + d + 1]'(by omega)) := List.getElem?_eq_getElem (by omega)
    exact bfr_tr _ _ _ (ih i p _ hp hm) (key (i + d + 1) _ q hm hq)
/-- No two that stand side by side are the same: no key stands twice. -/
theorem nodup_adj {ks : List ByteArray} {ps : List Nat} (h : Srp ks ks.length ps) (hne : ∀ (i p q : Nat), ps[i]? = some p → ps[i + 1]? = some q → ks.getD p ⟨#[]⟩ ≠ ks.getD q ⟨#[]⟩) : ks.Nodup := by
  have hadj := bfr_adj h hne
  have hinj : ∀ i j, i < ps.length → j < ps.length → i < j → ks.getD (ps.getD i 0) ⟨#[]⟩ ≠ ks.getD (ps.getD j 0) ⟨#[]⟩ := fun i j hi hj hij e => by
    have h1 : ps[i]? = some (ps.getD i 0) := by simp [List.getD, List.getElem?_eq_getElem hi]
    have h2 : ps[i + (j - i - 1) + 1]? = some (ps.getD j 0) := by
      rw [show i + (j - i - 1) + 1 = j by omega]
      simp [List.getD, List.getElem?_eq_getElem hj]
    have hb := hadj (j - i - 1) i _ _ h1 h2
    rw [e, bfr_self] at hb
    cases hb
  have hmem : ∀ p, p < ks.length → ∃ i, i < ps.length ∧ ps.getD i 0 = p := fun p hp => by
    have hm : p ∈ ps := h.p.mem_iff.2 (by simpa using hp)
    obtain ⟨i, hi, e⟩ := List.getElem_of_mem hm
    exact ⟨i, hi, by simp [List.getD, List.getElem?_eq_getElem hi, e]⟩
  rw [List.Nodup, List.pairwise_iff_getElem]
  intro a b ha hb hab e
  obtain ⟨i, hi, ei⟩ := hmem a ha
  obtain ⟨j, hj, ej⟩ := hmem b hb
  have e1 : ks.getD (ps.getD i 0) ⟨#[]⟩ = ks.getD (ps.getD j 0) ⟨#[]⟩ := by
    rw [ei, ej]
    simp [List.getD, List.getElem?_eq_getElem ha, List.getElem?_eq_getElem hb, e]
  rcases Nat.lt_trichotomy i j with hij | hij | hij
  · exact hinj i j hi hj hij e1
  · subst hij
    omega
  · exact hinj j i hj hi hij e1.symm
theorem dup_adj {ks : List ByteArray} {ps : List Nat} (h : Srp ks ks.length ps) {i p q : Nat} (hp : ps[i]? = some p) (hq : ps[i + 1]? = some q) (e : ks.getD p ⟨#[]⟩ = ks.getD q ⟨#[]⟩) : ¬ ks.Nodup := fun hn => by
  have l1 := h.lt p (List.mem_of_getElem? hp)
  have l2 := h.lt q (List.mem_of_getElem? hq)
  have e2 := nodup_at hn l1 l2 e
  have hnd : ps.Nodup := h.p.nodup_iff.2 List.nodup_range
  have hi := (List.getElem?_eq_some_iff.1 hp).1
  have hj := (List.getElem?_eq_some_iff.1 hq).1
  have hx := List.pairwise_iff_getElem.1 hnd i (i + 1) hi hj (by omega)
  rw [List.getElem?_eq_getElem hi] at hp
  rw [List.getElem?_eq_getElem hj] at hq
  injection hp with hp
  injection hq with hq
  exact hx (by rw [hp, hq, e2])
set_option maxRecDepth 1000000 in
set_option maxHeartbeats 1000000 in
theorem twice_any (t : Tv) (R : Bool) (hR : R = true ↔ ¬ t.ks.Nodup) (hl : t.ks.length = t.is.length) (w : World) (cs : Array Value) (ht : Tin w t cs) (hn : t.ks.length ≤ 100000) : Calls Tryd.prog 50 #[.agg cs] w fun e w' => e = .returned (.bool R) ∧ Below w.heap.size w w' := by
  have HR := hide hR
  have HTN := hide ht
  have HSZ := hide ht.size13
  obtain ⟨vy, vk, vi, rfl, hy, hk, hv, hb⟩ := ht.parts
  obtain ⟨⟨ak, ck, rfl, _, hkf⟩, hkm, _⟩ := hk
  have HKF := hide hkf
  have HMN : Hid (min t.ks.length t.is.length = t.ks.length) := by show _ = _; omega
  have HCK : Hid ((vcs t vy (.slice ak t.ks.length ck) vi)[11]? = some (.slice ak t.ks.length ck)) := rfl
  generalize vcs t vy (.slice ak t.ks.length ck) vi = cs at *
  clear hR ht hy hkf hv hb hl
  have HQ0 := hide (box_mk w cs)
  have HCB : Hid (∀ j u, cs[j]? = some u → (w.alloc (.cells cs 29)).cell? ⟨w.heap.size, 0 + j, none⟩ = some u) := fun j u hu => by rw [Nat.zero_add]; exact blk_cell HQ0.out.2 hu
  go_enter Tryd.func50, Tryd.ntmps50
  go_wp2_with (refine wpList_valAt rfl rfl w.heap.size 0 cs rfl HSZ.out HCB.out ?_)
  refine (order6_any t _ cs (HTN.out.move (keep_below HQ0.out.1)) (by omega)).mono ?_
  rintro e w2 ⟨v, ps, rfl, hpo, hsp, ho, hb2⟩
  clear hpo
  rw [HMN.out] at hsp
  have HSP := hide hsp
  have hpl : ps.length ≤ 100000 := by have := hsp.len; omega
  have hi2 := ISl.own ho rfl (by omega)
  obtain ⟨⟨pa, pc, rfl, _, hpf⟩, _⟩ := hi2
  have HPF := hide hpf
  have HW2 : Hid (Below w.heap.size w w2 ∧ w2.heap[w.heap.size]? = some (.cells cs 29 (0, 0))) := ⟨HQ0.out.1.trans (hb2.mono HQ0.out.1.size), (hb2.block _ (blk_lt HQ0.out.2)).trans HQ0.out.2⟩
  clear hsp ho hb2 hpf HQ0 HCB
  go_wp2_with fail
  go_loopw [9] (fun ii wx => ∃ i : Nat, i ≤ ps.length ∧ ii = .int .i64 (i : Nat) ∧ Hid (∀ (j p q : Nat), j + 1 < i → ps[j]? = some p → ps[j + 1]? = some q → t.ks.getD p ⟨#[]⟩ ≠ t.ks.getD q ⟨#[]⟩) ∧ Hid (Below w2.heap.size w2 wx)) (fun ii _ => ps.length - (intOf ii).toNat)
  case atStart => exact ⟨0, by omega, rfl, fun j p q hj => absurd hj (by omega), Below.refl _ _⟩
  case round =>
    obtain ⟨i, hi, rfl, HI, HBw⟩ := hrel
    by_cases hlt : i < ps.length
    · have g1 : (i : Int) < (ps.length : Int) := by omega
      rcases Nat.eq_zero_or_pos i with h0 | h0
      · as_aux_lemma =>
        subst h0
        go_wp2_with fail
        go_quiet (fail)
        go_wp2_with fail
        have HB2 : Hid (Below w2.heap.size w2 (wr.drewN nq)) := HBw.out.trans ((((Kp.refl (fun _ => False) wr).drewN _).below (Nat.le_refl _) (fun _ h => h.elim)).mono HBw.out.size)
        go_roundw
        case rel => exact ⟨1, by omega, by go_num, fun j p q hj => absurd hj (by omega), HB2⟩
        case measure => simp [intOf]; omega
      · obtain ⟨k, rfl⟩ : ∃ k, i = k + 1 := ⟨i - 1, by omega⟩
        have hk1 : k < ps.length := by omega
        obtain ⟨p, hp⟩ : ∃ p, ps[k]? = some p := ⟨ps[k], List.getElem?_eq_getElem hk1⟩
        obtain ⟨q, hq⟩ : ∃ p, ps[k + 1]? = some p := ⟨ps[k + 1], List.getElem?_eq_getElem hlt⟩
        have l1 := HSP.out.lt p (List.mem_of_getElem? hp)
        have l2 := HSP.out.lt q (List.mem_of_getElem? hq)
        obtain ⟨b1, off1, rfl, hc1⟩ := HPF.out.resolve_left (fun h => by rw [h] at hlt; simp at hlt)
        obtain ⟨b2, off2, rfl, hc2⟩ := HKF.out.resolve_left (fun h => by rw [h] at l1; simp at l1)
        have hkw : ∀ a x, w.cell? a = some x → wr.cell? a = some x := fun a x h => keep_below HBw.out _ _ (keep_below HW2.out.1 _ _ h)
        have c1 : wr.cell? ⟨b1, off1 + k, none⟩ = some (.int .i64 (p : Nat)) := keep_below HBw.out _ _ (hc1 k p hp)
        have c2 : wr.cell? ⟨b1, off1 + (k + 1), none⟩ = some (.int .i64 (q : Nat)) := keep_below HBw.out _ _ (hc1 (k + 1) q hq)
        have s1 : wr.cell? ⟨b2, off2 + p, none⟩ = some (.string (t.ks.getD p ⟨#[]⟩)) := hkw _ _ (hc2 p _ (by simp [List.getD, List.getElem?_eq_getElem l1]))
        have s2 : wr.cell? ⟨b2, off2 + q, none⟩ = some (.string (t.ks.getD q ⟨#[]⟩)) := hkw _ _ (hc2 q _ (by simp [List.getD, List.getElem?_eq_getElem l2]))
        have x1 : wr.cell? ⟨w.heap.size, 11, none⟩ = some (.slice (some ⟨b2, off2, none⟩) t.ks.length ck) := keep_below HBw.out _ _ (blk_cell HW2.out.2 HCK.out)
        have g2 : (0 : Int) < ((k : Int) + 1) := by omega
        have g3 : (k : Int) < (ps.length : Int) := by omega
        have g4 : (p : Int) < (t.ks.length : Int) := by omega
        have g5 : (q : Int) < (t.ks.length : Int) := by omega
        clear hc1 hc2 hkw
        by_cases he : t.ks.getD p ⟨#[]⟩ = t.ks.getD q ⟨#[]⟩
        · as_aux_lemma =>
          have HT : Hid (R = true) := HR.out.2 (dup_adj HSP.out hp hq he)
          have hne : ((t.ks.getD p ⟨#[]⟩).toList == (t.ks.getD q ⟨#[]⟩).toList) = true := by rw [he]; simp
          clear hp hq he HI
          generalize t.ks.getD p ⟨#[]⟩ = k1 at *
          generalize t.ks.getD q ⟨#[]⟩ = k2 at *
          go_wp2_with fail
          go_quiet (fail)
          go_wp2_with fail
          go_ret
          exact ⟨by rw [HT.out]; rfl, HW2.out.1.trans ((HBw.out.trans ((((Kp.refl (fun _ => False) wr).drewN _).below (Nat.le_refl _) (fun _ h => h.elim)).mono HBw.out.size)).mono HW2.out.1.size)⟩
        · as_aux_lemma =>
          have hne : ((t.ks.getD p ⟨#[]⟩).toList == (t.ks.getD q ⟨#[]⟩).toList) = false := str_beq_no he
          have HI2 : Hid (∀ (j p q : Nat), j + 1 < k + 1 + 1 → ps[j]? = some p → ps[j + 1]? = some q → t.ks.getD p ⟨#[]⟩ ≠ t.ks.getD q ⟨#[]⟩) := fun j p' q' hj h1 h2 => by
            by_cases hjk : j = k
            · subst hjk
              rw [hp] at h1
              rw [hq] at h2
              injection h1 with h1
              injection h2 with h2
              subst h1 h2
              exact he
            · exact HI.out j p' q' (by omega) h1 h2
          clear hp hq he HI
          generalize t.ks.getD p ⟨#[]⟩ = k1 at *
          generalize t.ks.getD q ⟨#[]⟩ = k2 at *
          go_wp2_with fail
          go_quiet (fail)
          go_wp2_with fail
          have HB2 : Hid (Below w2.heap.size w2 (wr.drewN nq)) := HBw.out.trans ((((Kp.refl (fun _ => False) wr).drewN _).below (Nat.le_refl _) (fun _ h => h.elim)).mono HBw.out.size)
          go_roundw
          case rel => exact ⟨k + 1 + 1, by omega, by go_num, HI2, HB2⟩
          case measure => simp [intOf]; omega
    · as_aux_lemma =>
      have g1 : ¬ (i : Int) < (ps.length : Int) := by omega
      have HT : Hid (R = false) := r_no HR.out (fun h => h (nodup_adj HSP.out (fun j p q h1 h2 => HI.out j p q (by have := (List.getElem?_eq_some_iff.1 h2).1; omega) h1 h2)))
      go_wp2_with fail
      go_ret
      exact ⟨by rw [HT.out]; rfl, HW2.out.1.trans (HBw.out.mono HW2.out.1.size)⟩
end
section
open Go.RowKit Go
/-- A value whose kind's own fields are made zero. -/
def Tv.zr (t : Tv) : Tv :=
  if t.k = 2 then .mk t.k false t.g t.n t.b t.s t.y t.l t.ks t.is
  else if t.k = 3 then .mk t.k t.f false 0 t.b t.s t.y t.l t.ks t.is
  else if t.k = 4 then .mk t.k t.f t.g t.n 0 t.s t.y t.l t.ks t.is
  else if t.k = 5 then .mk t.k t.f t.g t.n t.b ⟨#[]⟩ t.y t.l t.ks t.is
  else if t.k = 6 then .mk t.k t.f t.g t.n t.b t.s [] t.l t.ks t.is
  else if t.k = 7 then .mk t.k t.f t.g t.n t.b t.s t.y ⟨0, 0, 0, []⟩ t.ks t.is
  else if t.k = 8 then .mk t.k t.f t.g t.n t.b t.s t.y t.l t.ks []
  else if t.k = 9 then .mk t.k t.f t.g t.n t.b t.s t.y t.l [] []
  else t
/-- All fields but the kind are zero. -/
def Tv.cl (t : Tv) : Bool := !t.f && (!t.g && (decide (t.n = 0) && (decide (t.b = 0) && (decide (t.s = ⟨#[]⟩) && (decide (t.l = ⟨0, 0, 0, []⟩) && (decide (t.y = []) && (decide (t.ks = []) && t.is.isEmpty)))))))
def tidyf (t : Tv) : Bool := decide (1 ≤ t.k ∧ t.k ≤ 9) && t.zr.cl
/-- What tidy has in hand. -/
def Tdy (w wx : World) (t : Tv) : Prop := Below w.heap.size w wx ∧ ∃ ay cy ak ck ai ci, wx.heap[w.heap.size]? = some (.cells (vcs t (.slice ay t.y.length cy) (.slice ak t.ks.length ck) (.slice ai t.is.length ci)) 29 (0, 0))
theorem toList_nil : ({ data := #[] } : ByteArray).toList = [] := by first | simp | rfl | kernel_rfl | (go_simp)
theorem box_mk0 (w : World) (c : Array Value) : Below w.heap.size w (w.alloc (.cells c 29)) ∧ (w.alloc (.cells c 29)).heap[w.heap.size]? = some (.cells c 29 (0, 0)) := ⟨below_alloc4 w _, heap_alloc_new w _⟩
set_option maxRecDepth 1000000 in
set_option maxHeartbeats 2000000 in
theorem tidy_any (t : Tv) (w : World) (cs : Array Value) (ht : Tin w t cs) : Calls Tryd.prog 44 #[.agg cs] w fun e w' => e = .returned (.bool (tidyf t)) ∧ Below w.heap.size w w' := by
  obtain ⟨vy, vk, vi, rfl, hy, hk, hv, hb⟩ := ht.parts
  have HD := hide hb.l.d
  have HLD := hide hb.d
  obtain ⟨⟨ay, cy, rfl, _, _⟩, _⟩ := hy
  obtain ⟨⟨ak, ck, rfl, _, _⟩, _, _⟩ := hk
  obtain ⟨⟨ai, ci, rfl, _, _⟩, _⟩ := hv
  clear ht hb
  have HQ0 := hide (box_mk0 w (vcs t (.slice ay t.y.length cy) (.slice ak t.ks.length ck) (.slice ai t.is.length ci)))
  have q0 : (w.alloc (.cells (vcs t (.slice ay t.y.length cy) (.slice ak t.ks.length ck) (.slice ai t.is.length ci)) 29)).cell? ⟨w.heap.size, 0, none⟩ = some (.int .i64 t.k) := blk_cell HQ0.out.2 rfl
  generalize hcs : vcs t (.slice ay t.y.length cy) (.slice ak t.ks.length ck) (.slice ai t.is.length ci) = cs at *
  have HCS := hide hcs
  clear hcs
  go_enter Tryd.func44, Tryd.ntmps44
  go_upto_block 0 with fail
  go_cut [] (fun wx => Hid (Tdy w wx t.zr ∧ 1 ≤ t.k ∧ t.k ≤ 9))
  case first =>
    by_cases h1 : t.k = 1
    · as_aux_lemma =>
      have HZ : Hid (t.zr = t) := by show _ = _; unfold Tv.zr; simp [h1]
      have HKK : Hid (1 ≤ t.k ∧ t.k ≤ 9) := ⟨by omega, by omega⟩
      have g1 : (t.k == 1) = true := beq_iff_eq.2 h1
      clear h1
      have HTD : Hid (Tdy w (w.alloc (.cells (cs) 29)) t.zr) := by
        have h := HCS.out
        subst h
        refine ⟨below_alloc4 w _, ay, cy, ak, ck, ai, ci, ?_⟩
        rw [HZ.out]
        exact heap_alloc_new w _
      go_wp2_with fail
      go_meet
      case rel => exact ⟨HTD.out, HKK.out⟩
    by_cases h2 : t.k = 2
    · as_aux_lemma =>
      have HZ : Hid (t.zr = .mk t.k false t.g t.n t.b t.s t.y t.l t.ks t.is) := by show _ = _; unfold Tv.zr; simp [h2]
      have HKK : Hid (1 ≤ t.k ∧ t.k ≤ 9) := ⟨by omega, by omega⟩
      have g1 : (t.k == 1) = false := beq_eq_false_iff_ne.2 h1
      have g2 : (t.k == 2) = true := beq_iff_eq.2 h2
      clear h1 h2
      have c1 : (w.alloc (.cells (cs) 29)).cell? ⟨w.heap.size, 1, none⟩ = some (.bool t.f) := by have h := HCS.out; subst h; exact blk_cell (heap_alloc_new w _) rfl
      have HTD : Hid (Tdy w (w.alloc (.cells (cs.setIfInBounds 1 (.bool false)) 29)) t.zr) := by
        have h := HCS.out
        subst h
        refine ⟨below_alloc4 w _, ay, cy, ak, ck, ai, ci, ?_⟩
        rw [HZ.out]
        exact heap_alloc_new w _
      go_wp2_with fail
      go_meet
      case rel => exact ⟨HTD.out, HKK.out⟩
    by_cases h3 : t.k = 3
    · as_aux_lemma =>
      have HZ : Hid (t.zr = .mk t.k t.f false 0 t.b t.s t.y t.l t.ks t.is) := by show _ = _; unfold Tv.zr; simp [h3]
      have HKK : Hid (1 ≤ t.k ∧ t.k ≤ 9) := ⟨by omega, by omega⟩
      have g1 : (t.k == 1) = false := beq_eq_false_iff_ne.2 h1
      have g2 : (t.k == 2) = false := beq_eq_false_iff_ne.2 h2
      have g3 : (t.k == 3) = true := beq_iff_eq.2 h3
      clear h1 h2 h3
      have c2 : (w.alloc (.cells (cs) 29)).cell? ⟨w.heap.size, 2, none⟩ = some (.bool t.g) := by have h := HCS.out; subst h; exact blk_cell (heap_alloc_new w _) rfl
      have c3 : (w.alloc (.cells (cs.setIfInBounds 2 (.bool false)) 29)).cell? ⟨w.heap.size, 3, none⟩ = some (.int .u64 (t.n : Nat)) := by have h := HCS.out; subst h; exact blk_cell (heap_alloc_new w _) rfl
      have HTD : Hid (Tdy w (w.alloc (.cells ((cs.setIfInBounds 2 (.bool false)).setIfInBounds 3 (.int .u64 0)) 29)) t.zr) := by
        have h := HCS.out
        subst h
        refine ⟨below_alloc4 w _, ay, cy, ak, ck, ai, ci, ?_⟩
        rw [HZ.out]
        exact heap_alloc_new w _
      go_wp2_with fail
      go_meet
      case rel => exact ⟨HTD.out, HKK.out⟩
    by_cases h4 : t.k = 4
    · as_aux_lemma =>
      have HZ : Hid (t.zr = .mk t.k t.f t.g t.n 0 t.s t.y t.l t.ks t.is) := by show _ = _; unfold Tv.zr; simp [h4]
      have HKK : Hid (1 ≤ t.k ∧ t.k ≤ 9) := ⟨by omega, by omega⟩
      have g1 : (t.k == 1) = false := beq_eq_false_iff_ne.2 h1
      have g2 : (t.k == 2) = false := beq_eq_false_iff_ne.2 h2
      have g3 : (t.k == 3) = false := beq_eq_false_iff_ne.2 h3
      have g4 : (t.k == 4) = true := beq_iff_eq.2 h4
      clear h1 h2 h3 h4
      have c4 : (w.alloc (.cells (cs) 29)).cell? ⟨w.heap.size, 4, none⟩ = some (.int .u64 (t.b : Nat)) := by have h := HCS.out; subst h; exact blk_cell (heap_alloc_new w _) rfl
      have HTD : Hid (Tdy w (w.alloc (.cells (cs.setIfInBounds 4 (.int .u64 0)) 29)) t.zr) := by
        have h := HCS.out
        subst h
        refine ⟨below_alloc4 w _, ay, cy, ak, ck, ai, ci, ?_⟩
        rw [HZ.out]
        exact heap_alloc_new w _
      go_wp2_with fail
      go_meet
      case rel => exact ⟨HTD.out, HKK.out⟩
    by_cases h5 : t.k = 5
    · as_aux_lemma =>
      have HZ : Hid (t.zr = .mk t.k t.f t.g t.n t.b ⟨#[]⟩ t.y t.l t.ks t.is) := by show _ = _; unfold Tv.zr; simp [h5]
      have HKK : Hid (1 ≤ t.k ∧ t.k ≤ 9) := ⟨by omega, by omega⟩
      have g1 : (t.k == 1) = false := beq_eq_false_iff_ne.2 h1
      have g2 : (t.k == 2) = false := beq_eq_false_iff_ne.2 h2
      have g3 : (t.k == 3) = false := beq_eq_false_iff_ne.2 h3
      have g4 : (t.k == 4) = false := beq_eq_false_iff_ne.2 h4
      have g5 : (t.k == 5) = true := beq_iff_eq.2 h5
      clear h1 h2 h3 h4 h5
      have c5 : (w.alloc (.cells (cs) 29)).cell? ⟨w.heap.size, 5, none⟩ = some (.string t.s) := by have h := HCS.out; subst h; exact blk_cell (heap_alloc_new w _) rfl
      have HTD : Hid (Tdy w (w.alloc (.cells (cs.setIfInBounds 5 (.string ⟨#[]⟩)) 29)) t.zr) := by
        have h := HCS.out
        subst h
        refine ⟨below_alloc4 w _, ay, cy, ak, ck, ai, ci, ?_⟩
        rw [HZ.out]
        exact heap_alloc_new w _
      go_wp2_with fail
      go_meet
      case rel => exact ⟨HTD.out, HKK.out⟩
    by_cases h6 : t.k = 6
    · as_aux_lemma =>
      have HZ : Hid (t.zr = .mk t.k t.f t.g t.n t.b t.s [] t.l t.ks t.is) := by show _ = _; unfold Tv.zr; simp [h6]
      have HKK : Hid (1 ≤ t.k ∧ t.k ≤ 9) := ⟨by omega, by omega⟩
      have g1 : (t.k == 1) = false := beq_eq_false_iff_ne.2 h1
      have g2 : (t.k == 2) = false := beq_eq_false_iff_ne.2 h2
      have g3 : (t.k == 3) = false := beq_eq_false_iff_ne.2 h3
      have g4 : (t.k == 4) = false := beq_eq_false_iff_ne.2 h4
      have g5 : (t.k == 5) = false := beq_eq_false_iff_ne.2 h5
      have g6 : (t.k == 6) = true := beq_iff_eq.2 h6
      clear h1 h2 h3 h4 h5 h6
      have c6 : (w.alloc (.cells (cs) 29)).cell? ⟨w.heap.size, 6, none⟩ = some (.slice ay t.y.length cy) := by have h := HCS.out; subst h; exact blk_cell (heap_alloc_new w _) rfl
      have HTD : Hid (Tdy w (w.alloc (.cells (cs.setIfInBounds 6 (.slice none 0 0)) 29)) t.zr) := by
        have h := HCS.out
        subst h
        refine ⟨below_alloc4 w _, none, 0, ak, ck, ai, ci, ?_⟩
        rw [HZ.out]
        exact heap_alloc_new w _
      go_wp2_with fail
      go_meet
      case rel => exact ⟨HTD.out, HKK.out⟩
    by_cases h7 : t.k = 7
    · as_aux_lemma =>
      have HZ : Hid (t.zr = .mk t.k t.f t.g t.n t.b t.s t.y ⟨0, 0, 0, []⟩ t.ks t.is) := by show _ = _; unfold Tv.zr; simp [h7]
      have HKK : Hid (1 ≤ t.k ∧ t.k ≤ 9) := ⟨by omega, by omega⟩
      have g1 : (t.k == 1) = false := beq_eq_false_iff_ne.2 h1
      have g2 : (t.k == 2) = false := beq_eq_false_iff_ne.2 h2
      have g3 : (t.k == 3) = false := beq_eq_false_iff_ne.2 h3
      have g4 : (t.k == 4) = false := beq_eq_false_iff_ne.2 h4
      have g5 : (t.k == 5) = false := beq_eq_false_iff_ne.2 h5
      have g6 : (t.k == 6) = false := beq_eq_false_iff_ne.2 h6
      have g7 : (t.k == 7) = true := beq_iff_eq.2 h7
      clear h1 h2 h3 h4 h5 h6 h7
      have c7 : (w.alloc (.cells (cs) 29)).cell? ⟨w.heap.size, 7, none⟩ = some (.int .i64 t.l.v) := by have h := HCS.out; subst h; exact blk_cell (heap_alloc_new w _) rfl
      have c8 : (w.alloc (.cells (cs.setIfInBounds 7 (.int .i64 0)) 29)).cell? ⟨w.heap.size, 8, none⟩ = some (.int .u64 (t.l.c : Nat)) := by have h := HCS.out; subst h; exact blk_cell (heap_alloc_new w _) rfl
      have c9 : (w.alloc (.cells ((cs.setIfInBounds 7 (.int .i64 0)).setIfInBounds 8 (.int .u64 0)) 29)).cell? ⟨w.heap.size, 9, none⟩ = some (.int .u64 (t.l.h : Nat)) := by have h := HCS.out; subst h; exact blk_cell (heap_alloc_new w _) rfl
      have c10 : (w.alloc (.cells (((cs.setIfInBounds 7 (.int .i64 0)).setIfInBounds 8 (.int .u64 0)).setIfInBounds 9 (.int .u64 0)) 29)).cell? ⟨w.heap.size, 10, none⟩ = some (.string (nstr t.l.d)) := by have h := HCS.out; subst h; exact blk_cell (heap_alloc_new w _) rfl
      have HTD : Hid (Tdy w (w.alloc (.cells ((((cs.setIfInBounds 7 (.int .i64 0)).setIfInBounds 8 (.int .u64 0)).setIfInBounds 9 (.int .u64 0)).setIfInBounds 10 (.string ⟨#[]⟩)) 29)) t.zr) := by
        have h := HCS.out
        subst h
        refine ⟨below_alloc4 w _, ay, cy, ak, ck, ai, ci, ?_⟩
        rw [HZ.out]
        exact heap_alloc_new w _
      go_wp2_with fail
      go_meet
      case rel => exact ⟨HTD.out, HKK.out⟩
    by_cases h8 : t.k = 8
    · as_aux_lemma =>
      have HZ : Hid (t.zr = .mk t.k t.f t.g t.n t.b t.s t.y t.l t.ks []) := by show _ = _; unfold Tv.zr; simp [h8]
      have HKK : Hid (1 ≤ t.k ∧ t.k ≤ 9) := ⟨by omega, by omega⟩
      have g1 : (t.k == 1) = false := beq_eq_false_iff_ne.2 h1
      have g2 : (t.k == 2) = false := beq_eq_false_iff_ne.2 h2
      have g3 : (t.k == 3) = false := beq_eq_false_iff_ne.2 h3
      have g4 : (t.k == 4) = false := beq_eq_false_iff_ne.2 h4
      have g5 : (t.k == 5) = false := beq_eq_false_iff_ne.2 h5
      have g6 : (t.k == 6) = false := beq_eq_false_iff_ne.2 h6
      have g7 : (t.k == 7) = false := beq_eq_false_iff_ne.2 h7
      have g8 : (t.k == 8) = true := beq_iff_eq.2 h8
      clear h1 h2 h3 h4 h5 h6 h7 h8
      have c12 : (w.alloc (.cells (cs) 29)).cell? ⟨w.heap.size, 12, none⟩ = some (.slice ai t.is.length ci) := by have h := HCS.out; subst h; exact blk_cell (heap_alloc_new w _) rfl
      have HTD : Hid (Tdy w (w.alloc (.cells (cs.setIfInBounds 12 (.slice none 0 0)) 29)) t.zr) := by
        have h := HCS.out
        subst h
        refine ⟨below_alloc4 w _, ay, cy, ak, ck, none, 0, ?_⟩
        rw [HZ.out]
        exact heap_alloc_new w _
      go_wp2_with fail
      go_meet
      case rel => exact ⟨HTD.out, HKK.out⟩
    by_cases h9 : t.k = 9
    · as_aux_lemma =>
      have HZ : Hid (t.zr = .mk t.k t.f t.g t.n t.b t.s t.y t.l [] []) := by show _ = _; unfold Tv.zr; simp [h9]
      have HKK : Hid (1 ≤ t.k ∧ t.k ≤ 9) := ⟨by omega, by omega⟩
      have g1 : (t.k == 1) = false := beq_eq_false_iff_ne.2 h1
      have g2 : (t.k == 2) = false := beq_eq_false_iff_ne.2 h2
      have g3 : (t.k == 3) = false := beq_eq_false_iff_ne.2 h3
      have g4 : (t.k == 4) = false := beq_eq_false_iff_ne.2 h4
      have g5 : (t.k == 5) = false := beq_eq_false_iff_ne.2 h5
      have g6 : (t.k == 6) = false := beq_eq_false_iff_ne.2 h6
      have g7 : (t.k == 7) = false := beq_eq_false_iff_ne.2 h7
      have g8 : (t.k == 8) = false := beq_eq_false_iff_ne.2 h8
      have g9 : (t.k == 9) = true := beq_iff_eq.2 h9
      clear h1 h2 h3 h4 h5 h6 h7 h8 h9
      have c11 : (w.alloc (.cells (cs) 29)).cell? ⟨w.heap.size, 11, none⟩ = some (.slice ak t.ks.length ck) := by have h := HCS.out; subst h; exact blk_cell (heap_alloc_new w _) rfl
      have c12 : (w.alloc (.cells (cs.setIfInBounds 11 (.slice none 0 0)) 29)).cell? ⟨w.heap.size, 12, none⟩ = some (.slice ai t.is.length ci) := by have h := HCS.out; subst h; exact blk_cell (heap_alloc_new w _) rfl
      have HTD : Hid (Tdy w (w.alloc (.cells ((cs.setIfInBounds 11 (.slice none 0 0)).setIfInBounds 12 (.slice none 0 0)) 29)) t.zr) := by
        have h := HCS.out
        subst h
        refine ⟨below_alloc4 w _, ay, cy, none, 0, none, 0, ?_⟩
        rw [HZ.out]
        exact heap_alloc_new w _
      go_wp2_with fail
      go_meet
      case rel => exact ⟨HTD.out, HKK.out⟩
    · as_aux_lemma =>
      have HT : Hid (tidyf t = false) := by show _ = _; unfold tidyf; rw [decide_eq_false (by omega), Bool.false_and]
      have g1 : (t.k == 1) = false := beq_eq_false_iff_ne.2 h1
      have g2 : (t.k == 2) = false := beq_eq_false_iff_ne.2 h2
      have g3 : (t.k == 3) = false := beq_eq_false_iff_ne.2 h3
      have g4 : (t.k == 4) = false := beq_eq_false_iff_ne.2 h4
      have g5 : (t.k == 5) = false := beq_eq_false_iff_ne.2 h5
      have g6 : (t.k == 6) = false := beq_eq_false_iff_ne.2 h6
      have g7 : (t.k == 7) = false := beq_eq_false_iff_ne.2 h7
      have g8 : (t.k == 8) = false := beq_eq_false_iff_ne.2 h8
      have g9 : (t.k == 9) = false := beq_eq_false_iff_ne.2 h9
      clear h1 h2 h3 h4 h5 h6 h7 h8 h9
      go_wp2_with fail
      go_ret
      exact ⟨by rw [HT.out]; rfl, HQ0.out.1⟩
  case rest =>
    have HKK := hide hcut.out.2
    have HTF : Hid (tidyf t = t.zr.cl) := by show _ = _; unfold tidyf; rw [decide_eq_true HKK.out, Bool.true_and]
    have HLZ : Hid (∀ x ∈ t.zr.l.d, x < 256) := by
      show ∀ x ∈ t.zr.l.d, x < 256
      unfold Tv.zr
      repeat' split
      all_goals first | exact HD.out | (intro x hx; simp [Tv.l] at hx)
    obtain ⟨hb, ay', cy', ak', ck', ai', ci', hblk⟩ := hcut.out.1
    have hyl : t.zr.y.length ≤ 9223372036854775807 := by
      unfold Tv.zr
      repeat' split
      all_goals first | assumption | (simp [Tv.y]; done) | (simp [Tv.y]; omega)
    have hkl : t.zr.ks.length ≤ 140737488351232 := by
      unfold Tv.zr
      repeat' split
      all_goals first | assumption | (simp [Tv.ks]; done) | (simp [Tv.ks]; omega)
    have hil : t.zr.is.length ≤ 140737488351232 := by
      unfold Tv.zr
      repeat' split
      all_goals first | assumption | (simp [Tv.is]; done) | (simp [Tv.is]; omega)
    clear hcut HKK
    generalize t.zr = z at *
    have HCL : Hid (tidyf t = (!z.f && (!z.g && (decide (z.n = 0) && (decide (z.b = 0) && (decide (z.s = ⟨#[]⟩) && (decide (z.l = ⟨0, 0, 0, []⟩) && (decide (z.y = []) && (decide (z.ks = []) && z.is.isEmpty))))))))) := HTF.out
    clear HTF
    have HBW := hide hb
    have HA := hide (fun j x (h : (lcs z.l)[j]? = some x) => lk_in hblk h)
    have a1 : wc.cell? ⟨w.heap.size, 1, none⟩ = some (.bool z.f) := blk_cell hblk rfl
    have a2 : wc.cell? ⟨w.heap.size, 2, none⟩ = some (.bool z.g) := blk_cell hblk rfl
    have a3 : wc.cell? ⟨w.heap.size, 3, none⟩ = some (.int .u64 (z.n : Nat)) := blk_cell hblk rfl
    have a4 : wc.cell? ⟨w.heap.size, 4, none⟩ = some (.int .u64 (z.b : Nat)) := blk_cell hblk rfl
    have a5 : wc.cell? ⟨w.heap.size, 5, none⟩ = some (.string z.s) := blk_cell hblk rfl
    have a6 : wc.cell? ⟨w.heap.size, 6, none⟩ = some (.slice ay' z.y.length cy') := blk_cell hblk rfl
    have a11 : wc.cell? ⟨w.heap.size, 11, none⟩ = some (.slice ak' z.ks.length ck') := blk_cell hblk rfl
    have a12 : wc.cell? ⟨w.heap.size, 12, none⟩ = some (.slice ai' z.is.length ci') := blk_cell hblk rfl
    clear hb hblk HQ0 q0
    by_cases h0 : z.f = false
    case neg => as_aux_lemma =>
      have HN : Hid (tidyf t = false) := by show _ = _; rw [HCL.out]; simp [h0]
      have k0 : z.f = true := by simpa using h0
      clear h0
      go_wp2_with fail
      go_ret
      exact ⟨by rw [HN.out]; rfl, HBW.out⟩
    have k0 : z.f = false := h0
    have H0 := hide h0
    clear h0
    by_cases h1 : z.g = false
    case neg => as_aux_lemma =>
      have HN : Hid (tidyf t = false) := by show _ = _; rw [HCL.out]; simp [h1]
      have k1 : z.g = true := by simpa using h1
      clear h1
      go_wp2_with fail
      go_ret
      exact ⟨by rw [HN.out]; rfl, HBW.out⟩
    have k1 : z.g = false := h1
    have H1 := hide h1
    clear h1
    by_cases h2 : z.n = 0
    case neg => as_aux_lemma =>
      have HN : Hid (tidyf t = false) := by show _ = _; rw [HCL.out]; simp [h2]
      have k2 : ((z.n : Int) == 0) = false := beq_eq_false_iff_ne.2 (by omega)
      clear h2
      go_wp2_with fail
      go_ret
      exact ⟨by rw [HN.out]; rfl, HBW.out⟩
    have k2 : ((z.n : Int) == 0) = true := beq_iff_eq.2 (by omega)
    have H2 := hide h2
    clear h2
    by_cases h3 : z.b = 0
    case neg => as_aux_lemma =>
      have HN : Hid (tidyf t = false) := by show _ = _; rw [HCL.out]; simp [h3]
      have k3 : ((z.b : Int) == 0) = false := beq_eq_false_iff_ne.2 (by omega)
      clear h3
      go_wp2_with fail
      go_ret
      exact ⟨by rw [HN.out]; rfl, HBW.out⟩
    have k3 : ((z.b : Int) == 0) = true := beq_iff_eq.2 (by omega)
    have H3 := hide h3
    clear h3
    by_cases h4 : z.s = ⟨#[]⟩
    case neg => as_aux_lemma =>
      have HN : Hid (tidyf t = false) := by show _ = _; rw [HCL.out]; simp [h4]
      have k4 : ¬ z.s.toList = [] := fun e => by have h := str_beq_no h4; rw [e, toList_nil] at h; exact absurd h (by simp)
      clear h4
      go_wp2_with fail
      go_ret
      exact ⟨by rw [HN.out]; rfl, HBW.out⟩
    have k4 : z.s.toList = [] := by rw [h4]; exact toList_nil
    have H4 := hide h4
    clear h4
    by_cases h5 : z.l = ⟨0, 0, 0, []⟩
    case neg => as_aux_lemma =>
      have HN : Hid (tidyf t = false) := by show _ = _; rw [HCL.out]; simp [h5]
      have HEQ : Hid (∀ wx : World, (Op.equalIn 10000 25 (.agg (lcs z.l)) (.agg (lcs ⟨0, 0, 0, []⟩))).run Tryd.prog wx = .ok false wx) := fun wx => by have h := eqlk wx HLZ.out (b := ⟨0, 0, 0, []⟩) (by simp); rw [decide_eq_false h5] at h; exact h
      clear h5
      go_wp2_with (first
        | (refine wpList_lkAt rfl rfl w.heap.size 7 z.l rfl HA.out ?_)
        | (refine wpList_eqlk rfl rfl (lcs z.l) (lcs ⟨0, 0, 0, []⟩) false rfl rfl (HEQ.out _) ?_))
      go_ret
      exact ⟨by rw [HN.out]; rfl, HBW.out⟩
    have HEQ : Hid (∀ wx : World, (Op.equalIn 10000 25 (.agg (lcs z.l)) (.agg (lcs ⟨0, 0, 0, []⟩))).run Tryd.prog wx = .ok true wx) := fun wx => by have h := eqlk wx HLZ.out (b := ⟨0, 0, 0, []⟩) (by simp); rw [decide_eq_true h5] at h; exact h
    have H5 := hide h5
    clear h5
    by_cases h6 : z.y = []
    case neg => as_aux_lemma =>
      have HN : Hid (tidyf t = false) := by show _ = _; rw [HCL.out]; simp [h6]
      have k6 : ((z.y.length : Int) == 0) = false := beq_eq_false_iff_ne.2 (fun e => h6 (List.length_eq_zero_iff.1 (by omega)))
      clear h6
      go_wp2_with (first
        | (refine wpList_lkAt rfl rfl w.heap.size 7 z.l rfl HA.out ?_)
        | (refine wpList_eqlk rfl rfl (lcs z.l) (lcs ⟨0, 0, 0, []⟩) true rfl rfl (HEQ.out _) ?_))
      go_ret
      exact ⟨by rw [HN.out]; rfl, HBW.out⟩
    have k6 : ((z.y.length : Int) == 0) = true := by rw [h6]; rfl
    have H6 := hide h6
    clear h6
    by_cases h7 : z.ks = []
    case neg => as_aux_lemma =>
      have HN : Hid (tidyf t = false) := by show _ = _; rw [HCL.out]; simp [h7]
      have k7 : ((z.ks.length : Int) == 0) = false := beq_eq_false_iff_ne.2 (fun e => h7 (List.length_eq_zero_iff.1 (by omega)))
      clear h7
      go_wp2_with (first
        | (refine wpList_lkAt rfl rfl w.heap.size 7 z.l rfl HA.out ?_)
        | (refine wpList_eqlk rfl rfl (lcs z.l) (lcs ⟨0, 0, 0, []⟩) true rfl rfl (HEQ.out _) ?_))
      go_ret
      exact ⟨by rw [HN.out]; rfl, HBW.out⟩
    have k7 : ((z.ks.length : Int) == 0) = true := by rw [h7]; rfl
    have H7 := hide h7
    clear h7
    by_cases h8 : z.is = []
    case neg => as_aux_lemma =>
      have HN : Hid (tidyf t = false) := by show _ = _; rw [HCL.out]; simp [h8]
      have k8 : ((z.is.length : Int) == 0) = false := beq_eq_false_iff_ne.2 (fun e => h8 (List.length_eq_zero_iff.1 (by omega)))
      clear h8
      go_wp2_with (first
        | (refine wpList_lkAt rfl rfl w.heap.size 7 z.l rfl HA.out ?_)
        | (refine wpList_eqlk rfl rfl (lcs z.l) (lcs ⟨0, 0, 0, []⟩) true rfl rfl (HEQ.out _) ?_))
      go_ret
      exact ⟨by rw [HN.out]; rfl, HBW.out⟩
    have k8 : ((z.is.length : Int) == 0) = true := by rw [h8]; rfl
    have H8 := hide h8
    clear h8
    have HN : Hid (tidyf t = true) := by show _ = _; rw [HCL.out, H0.out, H1.out, H2.out, H3.out, H4.out, H5.out, H6.out, H7.out, H8.out]; simp
    go_wp2_with (first
        | (refine wpList_lkAt rfl rfl w.heap.size 7 z.l rfl HA.out ?_)
        | (refine wpList_eqlk rfl rfl (lcs z.l) (lcs ⟨0, 0, 0, []⟩) true rfl rfl (HEQ.out _) ?_))
    go_ret
    exact ⟨by rw [HN.out]; rfl, HBW.out⟩
end
section
open Go.RowKit Go
/-- The error of a value by itself, so many lists and maps about it. -/
def onef (t : Tv) (a : Nat) : Nat :=
  if (t.k = 8 ∨ t.k = 9) ∧ 1024 ≤ a then 60
  else if tidyf t = false then 61
  else if finb t.b = false then 62
  else if (badb t.s || t.ks.any badb) = true then 63
  else if t.k = 7 ∧ ¬ lok t.l then 64
  else if t.k = 9 ∧ ¬ (t.ks.length = t.is.length ∧ t.ks.Nodup) then 65
  else 0
/-- What alone has in hand. -/
def Aln (w wx : World) (cs : Array Value) : Prop := Below w.heap.size w wx ∧ wx.heap[w.heap.size]? = some (.cells cs 29 (0, 0))
theorem Aln.next {w wx wy : World} {cs : Array Value} (h : Aln w wx cs) (hb : Below wx.heap.size wx wy) : Aln w wy cs := ⟨h.1.trans (hb.mono h.1.size), (hb.block _ (blk_lt h.2)).trans h.2⟩
theorem Aln.va {w wx : World} {cs : Array Value} (h : Aln w wx cs) : ∀ j u, cs[j]? = some u → wx.cell? ⟨w.heap.size, 0 + j, none⟩ = some u := fun j u hu => by rw [Nat.zero_add]; exact blk_cell h.2 hu
theorem Aln.lk {w wx : World} {t : Tv} {vy vk vi : Value} (h : Aln w wx (vcs t vy vk vi)) : ∀ j x, (lcs t.l)[j]? = some x → wx.cell? ⟨w.heap.size, 7 + j, none⟩ = some x := fun _ _ hx => lk_in h.2 hx
set_option maxRecDepth 1000000 in
set_option maxHeartbeats 2000000 in
theorem alone_7 (t : Tv) (hk7 : t.k = 7) (a : Nat) (w : World) (cs : Array Value) (ht : Tin w t cs) (hm : tmuch t ≤ 100000) (hT : Tabs w) : Calls Tryd.prog 40 #[.agg cs, .int .i64 (a : Nat)] w fun e w' => e = .returned (.int .i64 (onef t a : Nat)) ∧ Below w.heap.size w w' := by
  have HTN := hide ht
  have HT := hide hT
  have HSZ := hide ht.size13
  have hme := tmuch_eq t
  have HKL : Hid (t.ks.length ≤ 100000) := by show _ ≤ _; omega
  have HOE : Hid (onef t a = if (t.k = 8 ∨ t.k = 9) ∧ 1024 ≤ a then 60 else if tidyf t = false then 61 else if finb t.b = false then 62 else if (badb t.s || t.ks.any badb) = true then 63 else if t.k = 7 ∧ ¬ lok t.l then 64 else if t.k = 9 ∧ ¬ (t.ks.length = t.is.length ∧ t.ks.Nodup) then 65 else 0) := rfl
  generalize onef t a = E at *
  obtain ⟨vy, vk, vi, rfl, hy, hk, hv, hb⟩ := ht.parts
  have HKS := hide hk
  have HBD := hide hb
  obtain ⟨⟨ay, cy, rfl, _, _⟩, _⟩ := hy
  obtain ⟨⟨ak, ck, rfl, _, _⟩, _, _⟩ := hk
  obtain ⟨⟨ai, ci, rfl, _, _⟩, _⟩ := hv
  clear ht hT hb hm hme
  have HQ0 : Hid (Aln w (w.alloc (.cells (vcs t (.slice ay t.y.length cy) (.slice ak t.ks.length ck) (.slice ai t.is.length ci)) 29)) (vcs t (.slice ay t.y.length cy) (.slice ak t.ks.length ck) (.slice ai t.is.length ci))) := box_mk0 w _
  have HLK : Hid (∀ wx, Aln w wx (vcs t (.slice ay t.y.length cy) (.slice ak t.ks.length ck) (.slice ai t.is.length ci)) → ∀ j x, (lcs t.l)[j]? = some x → wx.cell? ⟨w.heap.size, 7 + j, none⟩ = some x) := fun wx h => h.lk
  have HC0 : Hid ((vcs t (.slice ay t.y.length cy) (.slice ak t.ks.length ck) (.slice ai t.is.length ci))[0]? = some (.int .i64 t.k)) := rfl
  have HC4 : Hid ((vcs t (.slice ay t.y.length cy) (.slice ak t.ks.length ck) (.slice ai t.is.length ci))[4]? = some (.int .u64 (t.b : Nat))) := rfl
  have HC5 : Hid ((vcs t (.slice ay t.y.length cy) (.slice ak t.ks.length ck) (.slice ai t.is.length ci))[5]? = some (.string t.s)) := rfl
  have HC11 : Hid ((vcs t (.slice ay t.y.length cy) (.slice ak t.ks.length ck) (.slice ai t.is.length ci))[11]? = some (.slice ak t.ks.length ck)) := rfl
  have HC12 : Hid ((vcs t (.slice ay t.y.length cy) (.slice ak t.ks.length ck) (.slice ai t.is.length ci))[12]? = some (.slice ai t.is.length ci)) := rfl
  generalize vcs t (.slice ay t.y.length cy) (.slice ak t.ks.length ck) (.slice ai t.is.length ci) = cs at *
  have hnest : ¬ (t.k = 8 ∨ t.k = 9) := by omega
  have g7 : (t.k == 7) = true := beq_iff_eq.2 hk7
  have g9 : (t.k == 9) = false := beq_eq_false_iff_ne.2 (by omega)
  have HV0 := hide HQ0.out.va
  go_enter Tryd.func40, Tryd.ntmps40
  go_wp2_with (refine wpList_valAt rfl rfl w.heap.size 0 cs rfl HSZ.out HV0.out ?_)
  refine (nests_any t _ cs (HTN.out.move (keep_below HQ0.out.1))).mono ?_
  rintro e w1 ⟨rfl, hb1⟩
  have HQ1 := hide (HQ0.out.next hb1)
  have HV1 := hide HQ1.out.va
  clear hb1 HQ0 HV0
  rw [decide_eq_false hnest]
  rw [if_neg (fun h => hnest h.1)] at HOE
  go_wp2_with (refine wpList_valAt rfl rfl w.heap.size 0 cs rfl HSZ.out HV1.out ?_)
  refine (tidy_any t _ cs (HTN.out.move (keep_below HQ1.out.1))).mono ?_
  rintro e w2 ⟨rfl, hb2⟩
  have HQ2 := hide (HQ1.out.next hb2)
  clear hb2 HQ1 HV1
  rcases Bool.eq_false_or_eq_true (tidyf t) with htd | htd
  case inr => as_aux_lemma =>
    have HE : Hid (E = 61) := by show _ = _; rw [HOE.out, if_pos htd]
    rw [htd]
    clear htd
    go_wp2_with fail
    go_ret
    exact ⟨by rw [HE.out]; rfl, HQ2.out.1⟩
  rw [htd]
  rw [if_neg (by rw [htd]; simp)] at HOE
  clear htd
  have q4 := blk_cell HQ2.out.2 HC4.out
  have hfb := frombits_any t.b
  have HFI := hide (fun W => finite_any t.b HBD.out.b W)
  generalize finb t.b = fn at *
  cases fn
  case false => as_aux_lemma =>
    have HE : Hid (E = 62) := by show _ = _; rw [HOE.out, if_pos rfl]
    go_wp2_with (go_at_call 45; refine (Hid.out HFI _).mono ?_; rintro e w' ⟨rfl, hww⟩; have hww := hww.symm; subst hww)
    go_ret
    exact ⟨by rw [HE.out]; rfl, HQ2.out.1⟩
  rw [if_neg (by simp)] at HOE
  have q5 := blk_cell HQ2.out.2 HC5.out
  go_wp2_with (go_at_call 45; refine (Hid.out HFI _).mono ?_; rintro e w' ⟨rfl, hww⟩; have hww := hww.symm; subst hww)
  clear hfb HFI q4
  refine (bad6_any t.s w2 HBD.out.s (HT.out.next HQ2.out.1)).mono ?_
  rintro e w3 ⟨rfl, hb3⟩
  have HQ3 := hide (HQ2.out.next hb3)
  clear hb3 HQ2 q5
  generalize hbs : badb t.s = bs at *
  clear hbs
  cases bs
  case true => as_aux_lemma =>
    have HE : Hid (E = 63) := by show _ = _; rw [HOE.out, if_pos (by simp)]
    go_wp2_with fail
    go_ret
    exact ⟨by rw [HE.out]; rfl, HQ3.out.1⟩
  have q11 := blk_cell HQ3.out.2 HC11.out
  go_wp2_with fail
  refine (containsFunc_any w3 _ t.ks (HKS.out.move (keep_below HQ3.out.1)) (HT.out.next HQ3.out.1)).mono ?_
  rintro e w4 ⟨rfl, hb4⟩
  have HQ4 := hide (HQ3.out.next hb4)
  clear hb4 HQ3 q11
  generalize hbk : t.ks.any badb = bk at *
  clear hbk
  cases bk
  case true => as_aux_lemma =>
    have HE : Hid (E = 63) := by show _ = _; rw [HOE.out, if_pos (by simp)]
    go_wp2_with fail
    go_ret
    exact ⟨by rw [HE.out]; rfl, HQ4.out.1⟩
  rw [if_neg (by simp)] at HOE
  have q0 := blk_cell HQ4.out.2 HC0.out
  have HL4 := hide (HLK.out _ HQ4.out)
  have HCK := hide (check_any w4 t.l HBD.out.l)
  go_wp2_with (refine wpList_lkAt rfl rfl w.heap.size 7 t.l rfl HL4.out ?_)
  refine HCK.out.mono ?_
  rintro e w5 ⟨rfl, hb5⟩
  have HQ5 := hide (HQ4.out.next hb5)
  clear hb5 HQ4 HL4 HCK q0
  have q0 := blk_cell HQ5.out.2 HC0.out
  by_cases hlo : lok t.l
  · as_aux_lemma =>
    have HE : Hid (E = 0) := by show _ = _; rw [HOE.out, if_neg (fun h => h.2 hlo), if_neg (fun h => by omega)]
    rw [if_pos hlo]
    clear hlo
    go_wp2_with fail
    go_ret
    exact ⟨by rw [HE.out]; rfl, HQ5.out.1⟩
  · as_aux_lemma =>
    have HE : Hid (E = 64) := by show _ = _; rw [HOE.out, if_pos ⟨hk7, hlo⟩]
    rw [if_neg hlo]
    clear hlo
    go_wp2_with fail
    go_ret
    exact ⟨by rw [HE.out]; rfl, HQ5.out.1⟩
set_option maxRecDepth 1000000 in
set_option maxHeartbeats 2000000 in
theorem alone_9 (t : Tv) (hk9 : t.k = 9) (a : Nat) (w : World) (cs : Array Value) (ht : Tin w t cs) (hm : tmuch t ≤ 100000) (hT : Tabs w) : Calls Tryd.prog 40 #[.agg cs, .int .i64 (a : Nat)] w fun e w' => e = .returned (.int .i64 (onef t a : Nat)) ∧ Below w.heap.size w w' := by
  have HTN := hide ht
  have HT := hide hT
  have HSZ := hide ht.size13
  have hme := tmuch_eq t
  have HKL : Hid (t.ks.length ≤ 100000) := by show _ ≤ _; omega
  have HOE : Hid (onef t a = if (t.k = 8 ∨ t.k = 9) ∧ 1024 ≤ a then 60 else if tidyf t = false then 61 else if finb t.b = false then 62 else if (badb t.s || t.ks.any badb) = true then 63 else if t.k = 7 ∧ ¬ lok t.l then 64 else if t.k = 9 ∧ ¬ (t.ks.length = t.is.length ∧ t.ks.Nodup) then 65 else 0) := rfl
  generalize onef t a = E at *
  obtain ⟨vy, vk, vi, rfl, hy, hk, hv, hb⟩ := ht.parts
  have HKS := hide hk
  have HBD := hide hb
  obtain ⟨⟨ay, cy, rfl, _, _⟩, _⟩ := hy
  obtain ⟨⟨ak, ck, rfl, _, _⟩, _, _⟩ := hk
  obtain ⟨⟨ai, ci, rfl, _, _⟩, _⟩ := hv
  clear ht hT hb hm hme
  have HQ0 : Hid (Aln w (w.alloc (.cells (vcs t (.slice ay t.y.length cy) (.slice ak t.ks.length ck) (.slice ai t.is.length ci)) 29)) (vcs t (.slice ay t.y.length cy) (.slice ak t.ks.length ck) (.slice ai t.is.length ci))) := box_mk0 w _
  have HLK : Hid (∀ wx, Aln w wx (vcs t (.slice ay t.y.length cy) (.slice ak t.ks.length ck) (.slice ai t.is.length ci)) → ∀ j x, (lcs t.l)[j]? = some x → wx.cell? ⟨w.heap.size, 7 + j, none⟩ = some x) := fun wx h => h.lk
  have HC0 : Hid ((vcs t (.slice ay t.y.length cy) (.slice ak t.ks.length ck) (.slice ai t.is.length ci))[0]? = some (.int .i64 t.k)) := rfl
  have HC4 : Hid ((vcs t (.slice ay t.y.length cy) (.slice ak t.ks.length ck) (.slice ai t.is.length ci))[4]? = some (.int .u64 (t.b : Nat))) := rfl
  have HC5 : Hid ((vcs t (.slice ay t.y.length cy) (.slice ak t.ks.length ck) (.slice ai t.is.length ci))[5]? = some (.string t.s)) := rfl
  have HC11 : Hid ((vcs t (.slice ay t.y.length cy) (.slice ak t.ks.length ck) (.slice ai t.is.length ci))[11]? = some (.slice ak t.ks.length ck)) := rfl
  have HC12 : Hid ((vcs t (.slice ay t.y.length cy) (.slice ak t.ks.length ck) (.slice ai t.is.length ci))[12]? = some (.slice ai t.is.length ci)) := rfl
  generalize vcs t (.slice ay t.y.length cy) (.slice ak t.ks.length ck) (.slice ai t.is.length ci) = cs at *
  have hnest : (t.k = 8 ∨ t.k = 9) := by omega
  have g7 : (t.k == 7) = false := beq_eq_false_iff_ne.2 (by omega)
  have g9 : (t.k == 9) = true := beq_iff_eq.2 hk9
  have HV0 := hide HQ0.out.va
  go_enter Tryd.func40, Tryd.ntmps40
  go_wp2_with (refine wpList_valAt rfl rfl w.heap.size 0 cs rfl HSZ.out HV0.out ?_)
  refine (nests_any t _ cs (HTN.out.move (keep_below HQ0.out.1))).mono ?_
  rintro e w1 ⟨rfl, hb1⟩
  have HQ1 := hide (HQ0.out.next hb1)
  have HV1 := hide HQ1.out.va
  clear hb1 HQ0 HV0
  rw [decide_eq_true hnest]
  by_cases h24 : 1024 ≤ a
  · as_aux_lemma =>
    have g24 : (1024 : Int) ≤ (a : Int) := by omega
    have HE : Hid (E = 60) := by show _ = _; rw [HOE.out, if_pos ⟨hnest, h24⟩]
    clear h24
    go_wp2_with fail
    go_ret
    exact ⟨by rw [HE.out]; rfl, HQ1.out.1⟩
  have g24 : ¬ (1024 : Int) ≤ (a : Int) := by omega
  rw [if_neg (fun h => h24 h.2)] at HOE
  clear h24
  go_wp2_with (refine wpList_valAt rfl rfl w.heap.size 0 cs rfl HSZ.out HV1.out ?_)
  refine (tidy_any t _ cs (HTN.out.move (keep_below HQ1.out.1))).mono ?_
  rintro e w2 ⟨rfl, hb2⟩
  have HQ2 := hide (HQ1.out.next hb2)
  clear hb2 HQ1 HV1
  rcases Bool.eq_false_or_eq_true (tidyf t) with htd | htd
  case inr => as_aux_lemma =>
    have HE : Hid (E = 61) := by show _ = _; rw [HOE.out, if_pos htd]
    rw [htd]
    clear htd
    go_wp2_with fail
    go_ret
    exact ⟨by rw [HE.out]; rfl, HQ2.out.1⟩
  rw [htd]
  rw [if_neg (by rw [htd]; simp)] at HOE
  clear htd
  have q4 := blk_cell HQ2.out.2 HC4.out
  have hfb := frombits_any t.b
  have HFI := hide (fun W => finite_any t.b HBD.out.b W)
  generalize finb t.b = fn at *
  cases fn
  case false => as_aux_lemma =>
    have HE : Hid (E = 62) := by show _ = _; rw [HOE.out, if_pos rfl]
    go_wp2_with (go_at_call 45; refine (Hid.out HFI _).mono ?_; rintro e w' ⟨rfl, hww⟩; have hww := hww.symm; subst hww)
    go_ret
    exact ⟨by rw [HE.out]; rfl, HQ2.out.1⟩
  rw [if_neg (by simp)] at HOE
  have q5 := blk_cell HQ2.out.2 HC5.out
  go_wp2_with (go_at_call 45; refine (Hid.out HFI _).mono ?_; rintro e w' ⟨rfl, hww⟩; have hww := hww.symm; subst hww)
  clear hfb HFI q4
  refine (bad6_any t.s w2 HBD.out.s (HT.out.next HQ2.out.1)).mono ?_
  rintro e w3 ⟨rfl, hb3⟩
  have HQ3 := hide (HQ2.out.next hb3)
  clear hb3 HQ2 q5
  generalize hbs : badb t.s = bs at *
  clear hbs
  cases bs
  case true => as_aux_lemma =>
    have HE : Hid (E = 63) := by show _ = _; rw [HOE.out, if_pos (by simp)]
    go_wp2_with fail
    go_ret
    exact ⟨by rw [HE.out]; rfl, HQ3.out.1⟩
  have q11 := blk_cell HQ3.out.2 HC11.out
  go_wp2_with fail
  refine (containsFunc_any w3 _ t.ks (HKS.out.move (keep_below HQ3.out.1)) (HT.out.next HQ3.out.1)).mono ?_
  rintro e w4 ⟨rfl, hb4⟩
  have HQ4 := hide (HQ3.out.next hb4)
  clear hb4 HQ3 q11
  generalize hbk : t.ks.any badb = bk at *
  clear hbk
  cases bk
  case true => as_aux_lemma =>
    have HE : Hid (E = 63) := by show _ = _; rw [HOE.out, if_pos (by simp)]
    go_wp2_with fail
    go_ret
    exact ⟨by rw [HE.out]; rfl, HQ4.out.1⟩
  rw [if_neg (by simp)] at HOE
  have q0 := blk_cell HQ4.out.2 HC0.out
  rw [if_neg (fun h => by omega)] at HOE
  have q11 := blk_cell HQ4.out.2 HC11.out
  have q12 := blk_cell HQ4.out.2 HC12.out
  have HV4 := hide HQ4.out.va
  by_cases hlen : t.ks.length = t.is.length
  case neg => as_aux_lemma =>
    have gl : ((t.ks.length : Int) != (t.is.length : Int)) = true := by rw [nat_ne]; simp [hlen]
    have HE : Hid (E = 65) := by show _ = _; rw [HOE.out, if_pos ⟨hk9, fun h => hlen h.1⟩]
    clear hlen
    go_wp2_with fail
    go_ret
    exact ⟨by rw [HE.out]; rfl, HQ4.out.1⟩
  have gl : ((t.ks.length : Int) != (t.is.length : Int)) = false := by rw [nat_ne]; simp [hlen]
  have HLE := hide hlen
  clear hlen
  go_wp2_with (refine wpList_valAt rfl rfl w.heap.size 0 cs rfl HSZ.out HV4.out ?_)
  by_cases hnd : t.ks.Nodup
  · as_aux_lemma =>
    have HE : Hid (E = 0) := by show _ = _; rw [HOE.out, if_neg (fun h => h.2 ⟨HLE.out, hnd⟩)]
    refine (twice_any t false (by simp [hnd]) HLE.out _ cs (HTN.out.move (keep_below HQ4.out.1)) HKL.out).mono ?_
    rintro e w5 ⟨rfl, hb5⟩
    have HQ5 := hide (HQ4.out.next hb5)
    clear hb5 HQ4 hnd q0 q11 q12 HV4
    go_wp2_with fail
    go_ret
    exact ⟨by rw [HE.out]; rfl, HQ5.out.1⟩
  · as_aux_lemma =>
    have HE : Hid (E = 65) := by show _ = _; rw [HOE.out, if_pos ⟨hk9, fun h => hnd h.2⟩]
    refine (twice_any t true (by simp [hnd]) HLE.out _ cs (HTN.out.move (keep_below HQ4.out.1)) HKL.out).mono ?_
    rintro e w5 ⟨rfl, hb5⟩
    have HQ5 := hide (HQ4.out.next hb5)
    clear hb5 HQ4 hnd q0 q11 q12 HV4
    go_wp2_with fail
    go_ret
    exact ⟨by rw [HE.out]; rfl, HQ5.out.1⟩
set_option maxRecDepth 1000000 in
set_option maxHeartbeats 2000000 in
theorem alone_8 (t : Tv) (hk8 : t.k = 8) (a : Nat) (w : World) (cs : Array Value) (ht : Tin w t cs) (hm : tmuch t ≤ 100000) (hT : Tabs w) : Calls Tryd.prog 40 #[.agg cs, .int .i64 (a : Nat)] w fun e w' => e = .returned (.int .i64 (onef t a : Nat)) ∧ Below w.heap.size w w' := by
  have HTN := hide ht
  have HT := hide hT
  have HSZ := hide ht.size13
  have hme := tmuch_eq t
  have HKL : Hid (t.ks.length ≤ 100000) := by show _ ≤ _; omega
  have HOE : Hid (onef t a = if (t.k = 8 ∨ t.k = 9) ∧ 1024 ≤ a then 60 else if tidyf t = false then 61 else if finb t.b = false then 62 else if (badb t.s || t.ks.any badb) = true then 63 else if t.k = 7 ∧ ¬ lok t.l then 64 else if t.k = 9 ∧ ¬ (t.ks.length = t.is.length ∧ t.ks.Nodup) then 65 else 0) := rfl
  generalize onef t a = E at *
  obtain ⟨vy, vk, vi, rfl, hy, hk, hv, hb⟩ := ht.parts
  have HKS := hide hk
  have HBD := hide hb
  obtain ⟨⟨ay, cy, rfl, _, _⟩, _⟩ := hy
  obtain ⟨⟨ak, ck, rfl, _, _⟩, _, _⟩ := hk
  obtain ⟨⟨ai, ci, rfl, _, _⟩, _⟩ := hv
  clear ht hT hb hm hme
  have HQ0 : Hid (Aln w (w.alloc (.cells (vcs t (.slice ay t.y.length cy) (.slice ak t.ks.length ck) (.slice ai t.is.length ci)) 29)) (vcs t (.slice ay t.y.length cy) (.slice ak t.ks.length ck) (.slice ai t.is.length ci))) := box_mk0 w _
  have HLK : Hid (∀ wx, Aln w wx (vcs t (.slice ay t.y.length cy) (.slice ak t.ks.length ck) (.slice ai t.is.length ci)) → ∀ j x, (lcs t.l)[j]? = some x → wx.cell? ⟨w.heap.size, 7 + j, none⟩ = some x) := fun wx h => h.lk
  have HC0 : Hid ((vcs t (.slice ay t.y.length cy) (.slice ak t.ks.length ck) (.slice ai t.is.length ci))[0]? = some (.int .i64 t.k)) := rfl
  have HC4 : Hid ((vcs t (.slice ay t.y.length cy) (.slice ak t.ks.length ck) (.slice ai t.is.length ci))[4]? = some (.int .u64 (t.b : Nat))) := rfl
  have HC5 : Hid ((vcs t (.slice ay t.y.length cy) (.slice ak t.ks.length ck) (.slice ai t.is.length ci))[5]? = some (.string t.s)) := rfl
  have HC11 : Hid ((vcs t (.slice ay t.y.length cy) (.slice ak t.ks.length ck) (.slice ai t.is.length ci))[11]? = some (.slice ak t.ks.length ck)) := rfl
  have HC12 : Hid ((vcs t (.slice ay t.y.length cy) (.slice ak t.ks.length ck) (.slice ai t.is.length ci))[12]? = some (.slice ai t.is.length ci)) := rfl
  generalize vcs t (.slice ay t.y.length cy) (.slice ak t.ks.length ck) (.slice ai t.is.length ci) = cs at *
  have hnest : (t.k = 8 ∨ t.k = 9) := by omega
  have g7 : (t.k == 7) = false := beq_eq_false_iff_ne.2 (by omega)
  have g9 : (t.k == 9) = false := beq_eq_false_iff_ne.2 (by omega)
  have hk7 : ¬ t.k = 7 := by omega
  have hk9 : ¬ t.k = 9 := by omega
  clear hk8
  have HV0 := hide HQ0.out.va
  go_enter Tryd.func40, Tryd.ntmps40
  go_wp2_with (refine wpList_valAt rfl rfl w.heap.size 0 cs rfl HSZ.out HV0.out ?_)
  refine (nests_any t _ cs (HTN.out.move (keep_below HQ0.out.1))).mono ?_
  rintro e w1 ⟨rfl, hb1⟩
  have HQ1 := hide (HQ0.out.next hb1)
  have HV1 := hide HQ1.out.va
  clear hb1 HQ0 HV0
  rw [decide_eq_true hnest]
  by_cases h24 : 1024 ≤ a
  · as_aux_lemma =>
    have g24 : (1024 : Int) ≤ (a : Int) := by omega
    have HE : Hid (E = 60) := by show _ = _; rw [HOE.out, if_pos ⟨hnest, h24⟩]
    clear h24
    go_wp2_with fail
    go_ret
    exact ⟨by rw [HE.out]; rfl, HQ1.out.1⟩
  have g24 : ¬ (1024 : Int) ≤ (a : Int) := by omega
  rw [if_neg (fun h => h24 h.2)] at HOE
  clear h24
  go_wp2_with (refine wpList_valAt rfl rfl w.heap.size 0 cs rfl HSZ.out HV1.out ?_)
  refine (tidy_any t _ cs (HTN.out.move (keep_below HQ1.out.1))).mono ?_
  rintro e w2 ⟨rfl, hb2⟩
  have HQ2 := hide (HQ1.out.next hb2)
  clear hb2 HQ1 HV1
  rcases Bool.eq_false_or_eq_true (tidyf t) with htd | htd
  case inr => as_aux_lemma =>
    have HE : Hid (E = 61) := by show _ = _; rw [HOE.out, if_pos htd]
    rw [htd]
    clear htd
    go_wp2_with fail
    go_ret
    exact ⟨by rw [HE.out]; rfl, HQ2.out.1⟩
  rw [htd]
  rw [if_neg (by rw [htd]; simp)] at HOE
  clear htd
  have q4 := blk_cell HQ2.out.2 HC4.out
  have hfb := frombits_any t.b
  have HFI := hide (fun W => finite_any t.b HBD.out.b W)
  generalize finb t.b = fn at *
  cases fn
  case false => as_aux_lemma =>
    have HE : Hid (E = 62) := by show _ = _; rw [HOE.out, if_pos rfl]
    go_wp2_with (go_at_call 45; refine (Hid.out HFI _).mono ?_; rintro e w' ⟨rfl, hww⟩; have hww := hww.symm; subst hww)
    go_ret
    exact ⟨by rw [HE.out]; rfl, HQ2.out.1⟩
  rw [if_neg (by simp)] at HOE
  have q5 := blk_cell HQ2.out.2 HC5.out
  go_wp2_with (go_at_call 45; refine (Hid.out HFI _).mono ?_; rintro e w' ⟨rfl, hww⟩; have hww := hww.symm; subst hww)
  clear hfb HFI q4
  refine (bad6_any t.s w2 HBD.out.s (HT.out.next HQ2.out.1)).mono ?_
  rintro e w3 ⟨rfl, hb3⟩
  have HQ3 := hide (HQ2.out.next hb3)
  clear hb3 HQ2 q5
  generalize hbs : badb t.s = bs at *
  clear hbs
  cases bs
  case true => as_aux_lemma =>
    have HE : Hid (E = 63) := by show _ = _; rw [HOE.out, if_pos (by simp)]
    go_wp2_with fail
    go_ret
    exact ⟨by rw [HE.out]; rfl, HQ3.out.1⟩
  have q11 := blk_cell HQ3.out.2 HC11.out
  go_wp2_with fail
  refine (containsFunc_any w3 _ t.ks (HKS.out.move (keep_below HQ3.out.1)) (HT.out.next HQ3.out.1)).mono ?_
  rintro e w4 ⟨rfl, hb4⟩
  have HQ4 := hide (HQ3.out.next hb4)
  clear hb4 HQ3 q11
  generalize hbk : t.ks.any badb = bk at *
  clear hbk
  cases bk
  case true => as_aux_lemma =>
    have HE : Hid (E = 63) := by show _ = _; rw [HOE.out, if_pos (by simp)]
    go_wp2_with fail
    go_ret
    exact ⟨by rw [HE.out]; rfl, HQ4.out.1⟩
  rw [if_neg (by simp)] at HOE
  have q0 := blk_cell HQ4.out.2 HC0.out
  have HE : Hid (E = 0) := by show _ = _; rw [HOE.out, if_neg (fun h => hk7 h.1), if_neg (fun h => hk9 h.1)]
  go_wp2_with fail
  go_ret
  exact ⟨by rw [HE.out]; rfl, HQ4.out.1⟩
set_option maxRecDepth 1000000 in
set_option maxHeartbeats 2000000 in
theorem alone_x (t : Tv) (hk7 : ¬ t.k = 7) (hk8 : ¬ t.k = 8) (hk9 : ¬ t.k = 9) (a : Nat) (w : World) (cs : Array Value) (ht : Tin w t cs) (hm : tmuch t ≤ 100000) (hT : Tabs w) : Calls Tryd.prog 40 #[.agg cs, .int .i64 (a : Nat)] w fun e w' => e = .returned (.int .i64 (onef t a : Nat)) ∧ Below w.heap.size w w' := by
  have HTN := hide ht
  have HT := hide hT
  have HSZ := hide ht.size13
  have hme := tmuch_eq t
  have HKL : Hid (t.ks.length ≤ 100000) := by show _ ≤ _; omega
  have HOE : Hid (onef t a = if (t.k = 8 ∨ t.k = 9) ∧ 1024 ≤ a then 60 else if tidyf t = false then 61 else if finb t.b = false then 62 else if (badb t.s || t.ks.any badb) = true then 63 else if t.k = 7 ∧ ¬ lok t.l then 64 else if t.k = 9 ∧ ¬ (t.ks.length = t.is.length ∧ t.ks.Nodup) then 65 else 0) := rfl
  generalize onef t a = E at *
  obtain ⟨vy, vk, vi, rfl, hy, hk, hv, hb⟩ := ht.parts
  have HKS := hide hk
  have HBD := hide hb
  obtain ⟨⟨ay, cy, rfl, _, _⟩, _⟩ := hy
  obtain ⟨⟨ak, ck, rfl, _, _⟩, _, _⟩ := hk
  obtain ⟨⟨ai, ci, rfl, _, _⟩, _⟩ := hv
  clear ht hT hb hm hme
  have HQ0 : Hid (Aln w (w.alloc (.cells (vcs t (.slice ay t.y.length cy) (.slice ak t.ks.length ck) (.slice ai t.is.length ci)) 29)) (vcs t (.slice ay t.y.length cy) (.slice ak t.ks.length ck) (.slice ai t.is.length ci))) := box_mk0 w _
  have HLK : Hid (∀ wx, Aln w wx (vcs t (.slice ay t.y.length cy) (.slice ak t.ks.length ck) (.slice ai t.is.length ci)) → ∀ j x, (lcs t.l)[j]? = some x → wx.cell? ⟨w.heap.size, 7 + j, none⟩ = some x) := fun wx h => h.lk
  have HC0 : Hid ((vcs t (.slice ay t.y.length cy) (.slice ak t.ks.length ck) (.slice ai t.is.length ci))[0]? = some (.int .i64 t.k)) := rfl
  have HC4 : Hid ((vcs t (.slice ay t.y.length cy) (.slice ak t.ks.length ck) (.slice ai t.is.length ci))[4]? = some (.int .u64 (t.b : Nat))) := rfl
  have HC5 : Hid ((vcs t (.slice ay t.y.length cy) (.slice ak t.ks.length ck) (.slice ai t.is.length ci))[5]? = some (.string t.s)) := rfl
  have HC11 : Hid ((vcs t (.slice ay t.y.length cy) (.slice ak t.ks.length ck) (.slice ai t.is.length ci))[11]? = some (.slice ak t.ks.length ck)) := rfl
  have HC12 : Hid ((vcs t (.slice ay t.y.length cy) (.slice ak t.ks.length ck) (.slice ai t.is.length ci))[12]? = some (.slice ai t.is.length ci)) := rfl
  generalize vcs t (.slice ay t.y.length cy) (.slice ak t.ks.length ck) (.slice ai t.is.length ci) = cs at *
  have hnest : ¬ (t.k = 8 ∨ t.k = 9) := by omega
  have g7 : (t.k == 7) = false := beq_eq_false_iff_ne.2 (by omega)
  have g9 : (t.k == 9) = false := beq_eq_false_iff_ne.2 (by omega)
  have HV0 := hide HQ0.out.va
  go_enter Tryd.func40, Tryd.ntmps40
  go_wp2_with (refine wpList_valAt rfl rfl w.heap.size 0 cs rfl HSZ.out HV0.out ?_)
  refine (nests_any t _ cs (HTN.out.move (keep_below HQ0.out.1))).mono ?_
  rintro e w1 ⟨rfl, hb1⟩
  have HQ1 := hide (HQ0.out.next hb1)
  have HV1 := hide HQ1.out.va
  clear hb1 HQ0 HV0
  rw [decide_eq_false hnest]
  rw [if_neg (fun h => hnest h.1)] at HOE
  go_wp2_with (refine wpList_valAt rfl rfl w.heap.size 0 cs rfl HSZ.out HV1.out ?_)
  refine (tidy_any t _ cs (HTN.out.move (keep_below HQ1.out.1))).mono ?_
  rintro e w2 ⟨rfl, hb2⟩
  have HQ2 := hide (HQ1.out.next hb2)
  clear hb2 HQ1 HV1
  rcases Bool.eq_false_or_eq_true (tidyf t) with htd | htd
  case inr => as_aux_lemma =>
    have HE : Hid (E = 61) := by show _ = _; rw [HOE.out, if_pos htd]
    rw [htd]
    clear htd
    go_wp2_with fail
    go_ret
    exact ⟨by rw [HE.out]; rfl, HQ2.out.1⟩
  rw [htd]
  rw [if_neg (by rw [htd]; simp)] at HOE
  clear htd
  have q4 := blk_cell HQ2.out.2 HC4.out
  have hfb := frombits_any t.b
  have HFI := hide (fun W => finite_any t.b HBD.out.b W)
  generalize finb t.b = fn at *
  cases fn
  case false => as_aux_lemma =>
    have HE : Hid (E = 62) := by show _ = _; rw [HOE.out, if_pos rfl]
    go_wp2_with (go_at_call 45; refine (Hid.out HFI _).mono ?_; rintro e w' ⟨rfl, hww⟩; have hww := hww.symm; subst hww)
    go_ret
    exact ⟨by rw [HE.out]; rfl, HQ2.out.1⟩
  rw [if_neg (by simp)] at HOE
  have q5 := blk_cell HQ2.out.2 HC5.out
  go_wp2_with (go_at_call 45; refine (Hid.out HFI _).mono ?_; rintro e w' ⟨rfl, hww⟩; have hww := hww.symm; subst hww)
  clear hfb HFI q4
  refine (bad6_any t.s w2 HBD.out.s (HT.out.next HQ2.out.1)).mono ?_
  rintro e w3 ⟨rfl, hb3⟩
  have HQ3 := hide (HQ2.out.next hb3)
  clear hb3 HQ2 q5
  generalize hbs : badb t.s = bs at *
  clear hbs
  cases bs
  case true => as_aux_lemma =>
    have HE : Hid (E = 63) := by show _ = _; rw [HOE.out, if_pos (by simp)]
    go_wp2_with fail
    go_ret
    exact ⟨by rw [HE.out]; rfl, HQ3.out.1⟩
  have q11 := blk_cell HQ3.out.2 HC11.out
  go_wp2_with fail
  refine (containsFunc_any w3 _ t.ks (HKS.out.move (keep_below HQ3.out.1)) (HT.out.next HQ3.out.1)).mono ?_
  rintro e w4 ⟨rfl, hb4⟩
  have HQ4 := hide (HQ3.out.next hb4)
  clear hb4 HQ3 q11
  generalize hbk : t.ks.any badb = bk at *
  clear hbk
  cases bk
  case true => as_aux_lemma =>
    have HE : Hid (E = 63) := by show _ = _; rw [HOE.out, if_pos (by simp)]
    go_wp2_with fail
    go_ret
    exact ⟨by rw [HE.out]; rfl, HQ4.out.1⟩
  rw [if_neg (by simp)] at HOE
  have q0 := blk_cell HQ4.out.2 HC0.out
  have HE : Hid (E = 0) := by show _ = _; rw [HOE.out, if_neg (fun h => hk7 h.1), if_neg (fun h => hk9 h.1)]
  go_wp2_with fail
  go_ret
  exact ⟨by rw [HE.out]; rfl, HQ4.out.1⟩
theorem alone_any (t : Tv) (a : Nat) (w : World) (cs : Array Value) (ht : Tin w t cs) (hm : tmuch t ≤ 100000) (hT : Tabs w) : Calls Tryd.prog 40 #[.agg cs, .int .i64 (a : Nat)] w fun e w' => e = .returned (.int .i64 (onef t a : Nat)) ∧ Below w.heap.size w w' := by
  by_cases h7 : t.k = 7
  · exact alone_7 t h7 a w cs ht hm hT
  · by_cases h9 : t.k = 9
    · exact alone_9 t h9 a w cs ht hm hT
    · by_cases h8 : t.k = 8
      · exact alone_8 t h8 a w cs ht hm hT
      · exact alone_x t h7 h8 h9 a w cs ht hm hT
end
section
open Go.RowKit Go
mutual
/-- The first error in a value that stands in so many lists and maps. -/
def chkf : Tv → Nat → Nat
  | .mk k f g n b s y l ks is, a => if onef (.mk k f g n b s y l ks is) a = 0 then chkL is (a + 1) else onef (.mk k f g n b s y l ks is) a
def chkL : List Tv → Nat → Nat
  | [], _ => 0
  | t :: r, a => if chkf t a = 0 then chkL r a else chkf t a
end
theorem chkf_eq (t : Tv) (a : Nat) : chkf t a = if onef t a = 0 then chkL t.is (a + 1) else onef t a := by
  obtain ⟨k, f, g, n, b, s, y, l, ks, is⟩ := t
  rw [chkf]
  rfl
theorem chkL_none : ∀ {l : List Tv} {a : Nat}, (∀ u ∈ l, chkf u a = 0) → chkL l a = 0
  | [], _, _ => by rw [chkL]
  | t :: r, a, h => by
    rw [chkL, if_pos (h t (List.mem_cons_self ..))]
    exact chkL_none (fun u hu => h u (List.mem_cons_of_mem _ hu))
theorem chkL_at : ∀ {l : List Tv} {a i : Nat} {u : Tv}, (∀ j v, j < i → l[j]? = some v → chkf v a = 0) → l[i]? = some u → chkf u a ≠ 0 → chkL l a = chkf u a
  | [], _, _, _, _, h, _ => by simp at h
  | t :: r, a, 0, u, _, h, hn => by
    simp at h
    subst h
    rw [chkL, if_neg hn]
  | t :: r, a, i + 1, u, h0, h, hn => by
    rw [chkL, if_pos (h0 0 t (by omega) rfl)]
    exact chkL_at (i := i) (fun j v hj hv => h0 (j + 1) v (by omega) (by simpa using hv)) (by simpa using h) hn
theorem onef_le (t : Tv) (a : Nat) : onef t a ≤ 65 := by
  unfold onef
  repeat' split
  all_goals omega
mutual
theorem chkf_le : ∀ (t : Tv) (a : Nat), chkf t a ≤ 65
  | .mk k f g n b s y l ks is, a => by
    rw [chkf]
    split
    · exact chkL_le is (a + 1)
    · exact onef_le _ _
theorem chkL_le : ∀ (l : List Tv) (a : Nat), chkL l a ≤ 65
  | [], _ => by rw [chkL]; omega
  | t :: r, a => by
    rw [chkL]
    split
    · exact chkL_le r a
    · exact chkf_le t a
end
def ChkC (t : Tv) : Prop := ∀ (a : Nat) (w : World) (cs : Array Value), Tin w t cs → a + tmuch t ≤ 200000 → tmuch t ≤ 100000 → Tabs w → Calls Tryd.prog 20 #[.agg cs, .int .i64 (a : Nat)] w fun e w' => e = .returned (.int .i64 (chkf t a : Nat)) ∧ Below w.heap.size w w'
theorem nat_ne0 {a : Nat} : ((a : Int) != 0) = decide (a ≠ 0) := by
  rw [Bool.eq_iff_iff]
  simp
set_option maxRecDepth 1000000 in
set_option maxHeartbeats 1000000 in
theorem checked_step (t : Tv) (ih : ∀ u ∈ t.is, ChkC u) : ChkC t := by
  intro a w cs ht hat hm hT
  have HIH := hide ih
  have HTN := hide ht
  have HT := hide hT
  have HSZ := hide ht.size13
  have hme := tmuch_eq t
  have HML : Hid (a + 1 + tmuchL t.is ≤ 200000 ∧ tmuchL t.is ≤ 100000) := ⟨by omega, by omega⟩
  have HMM := hide hm
  have haa : a ≤ 200000 := by omega
  have HCE := hide (chkf_eq t a)
  clear ih hT hat hm hme
  obtain ⟨vy, vk, vi, rfl, hy, hk, hv, hb⟩ := ht.parts
  obtain ⟨⟨ai, ci, rfl, _, hform⟩, hmax⟩ := hv
  have HF := hide hform
  have HCI : Hid ((vcs t vy vk (.slice ai t.is.length ci))[12]? = some (.slice ai t.is.length ci)) := rfl
  generalize vcs t vy vk (.slice ai t.is.length ci) = cs at *
  clear ht hy hk hb hform
  generalize chkf t a = E at *
  have HQ0 : Hid (Aln w (w.alloc (.cells cs 29)) cs) := box_mk0 w _
  have HV0 := hide HQ0.out.va
  go_enter Tryd.func20, Tryd.ntmps20
  go_wp2_with (refine wpList_valAt rfl rfl w.heap.size 0 cs rfl HSZ.out HV0.out ?_)
  refine (alone_any t a _ cs (HTN.out.move (keep_below HQ0.out.1)) HMM.out (HT.out.next HQ0.out.1)).mono ?_
  rintro e w1 ⟨rfl, hb1⟩
  have HQ1 := hide (HQ0.out.next hb1)
  clear hb1 HQ0 HV0
  by_cases h1 : onef t a = 0
  case neg => as_aux_lemma =>
    have HE : Hid (E = onef t a) := by show _ = _; rw [HCE.out, if_neg h1]
    have g1 : ((onef t a : Int) != 0) = true := by rw [nat_ne0]; simp [h1]
    clear h1
    generalize onef t a = n at *
    go_wp2_with fail
    go_ret
    exact ⟨by rw [HE.out]; rfl, HQ1.out.1⟩
  rw [if_pos h1] at HCE
  rw [h1]
  clear h1
  have q12 := blk_cell HQ1.out.2 HCI.out
  go_wp2_with fail
  go_loopw [18] (fun ii wx => ∃ i : Nat, i ≤ t.is.length ∧ ii = .int .i64 (i : Nat) ∧ Hid (∀ j u, j < i → t.is[j]? = some u → chkf u (a + 1) = 0) ∧ Hid (Below w.heap.size w wx)) (fun ii _ => t.is.length - (intOf ii).toNat)
  case atStart => exact ⟨0, by omega, rfl, fun j u hj => absurd hj (by omega), HQ1.out.1⟩
  case round =>
    obtain ⟨i, hi, rfl, HI, HQ⟩ := hrel
    clear HQ1 q12
    by_cases hlt : i < t.is.length
    · as_aux_lemma =>
      have g1 : (i : Int) < (t.is.length : Int) := by omega
      obtain ⟨u, hu⟩ : ∃ u, t.is[i]? = some u := ⟨t.is[i], List.getElem?_eq_getElem hlt⟩
      obtain ⟨b, off, rfl, hcells⟩ := HF.out.resolve_left (fun h => by rw [h] at hlt; simp at hlt)
      obtain ⟨cu, hcu, hcc⟩ := hcells i u hu
      have HCC : Hid (∀ j v, cu[j]? = some v → wr.cell? ⟨b, off + i * 13 + j, none⟩ = some v) := fun j v hv => keep_below HQ.out _ _ (hcc j v hv)
      have hmem := List.mem_of_getElem? hu
      have HZ1 := hide hcu.size13
      have HA1 := hide hcu.all1
      have HIT := hide (itm_mk wr cu)
      have HG0 := hide (heap_alloc_new wr (.cells zv 29))
      have HIN : Hid ((Tryd.prog.info? 29).map (·.size) = some cu.size) := by show _ = _; rw [HZ1.out]; exact infoV
      have HZV : Hid (zv.size = cu.size) := by show _ = _; rw [HZ1.out]; rfl
      have hmu := tmuchL_mem hmem
      have HCA := hide (HIH.out u hmem (a + 1) _ cu ((hcu.move (keep_below HQ.out)).move (keep_below HIT.out.b)) (by have := HML.out; omega) (by have := HML.out; omega) ((HT.out.next HQ.out).next HIT.out.b))
      have ec : ((a + 1 : Nat) : Int) = (a : Int) + 1 := by omega
      rw [ec] at HCA
      have HCX := hide HIT.out.cells
      have HU := hide hu
      clear hu hcells hcu hcc hmem hmu ec
      go_wp2_with (first
        | (refine wpList_valAt rfl rfl b (off + i * 13) cu rfl HZ1.out HCC.out ?_)
        | (refine wpList_storeRow rfl rfl wr.heap.size zv cu 29 rfl rfl HG0.out HIN.out HZV.out HA1.out ?_)
        | (refine wpList_valAt rfl rfl wr.heap.size 0 cu rfl HZ1.out HCX.out ?_))
      refine HCA.out.mono ?_
      rintro e w5 ⟨rfl, hb5⟩
      have HQ5 : Hid (Below w.heap.size w w5) := (HQ.out.trans (HIT.out.b.mono HQ.out.size)).trans (hb5.mono (Nat.le_trans HQ.out.size HIT.out.b.size))
      clear hb5 HQ HCC HCA HCX HIT HG0
      by_cases he : chkf u (a + 1) = 0
      · have HI2 : Hid (∀ j u, j < i + 1 → t.is[j]? = some u → chkf u (a + 1) = 0) := fun j v hj h1 => by
          by_cases hji : j = i
          · subst hji
            rw [HU.out] at h1
            injection h1 with h1
            rw [← h1]
            exact he
          · exact HI.out j v (by omega) h1
        rw [he]
        clear he HU HI
        go_wp2_with fail
        go_roundw
        case rel => exact ⟨i + 1, by omega, by go_num, HI2, HQ5⟩
        case measure => simp [intOf]; omega
      · have HE : Hid (E = chkf u (a + 1)) := by show _ = _; rw [HCE.out, chkL_at HI.out HU.out he]
        have g2 : ((chkf u (a + 1) : Int) != 0) = true := by rw [nat_ne0]; simp [he]
        clear he HU HI
        generalize chkf u (a + 1) = n at *
        go_wp2_with fail
        go_ret
        exact ⟨by rw [HE.out]; rfl, HQ5.out⟩
    · as_aux_lemma =>
      have g1 : ¬ (i : Int) < (t.is.length : Int) := by omega
      have HE : Hid (E = 0) := by
        show _ = _
        rw [HCE.out]
        refine chkL_none (fun u hu => ?_)
        obtain ⟨j, hj, e⟩ := List.getElem_of_mem hu
        exact HI.out j u (by omega) (by rw [List.getElem?_eq_getElem hj, e])
      go_wp2_with fail
      go_ret
      exact ⟨by rw [HE.out]; rfl, HQ.out⟩
theorem checked_any (t : Tv) : ChkC t := by
  have h : ∀ N, ∀ t : Tv, SizeOf.sizeOf t = N → ChkC t := by
    intro N
    induction N using Nat.strongRecOn with
    | _ N ih => exact fun t hN => checked_step t (fun u hu => ih _ (by rw [← hN]; exact Tv.is_lt hu) u rfl)
  exact h _ t rfl
set_option maxRecDepth 1000000 in
theorem check6_any (t : Tv) (w : World) (cs : Array Value) (ht : Tin w t cs) (hm : tmuch t ≤ 100000) (hT : Tabs w) : Calls Tryd.prog 7 #[.agg cs] w fun e w' => e = .returned (.int .i64 (chkf t 0 : Nat)) ∧ Below w.heap.size w w' := by
  have HTN := hide ht
  have HT := hide hT
  have HSZ := hide ht.size13
  have HQ0 : Hid (Aln w (w.alloc (.cells cs 29)) cs) := box_mk0 w _
  have HV0 := hide HQ0.out.va
  have HMM := hide hm
  clear ht hT hm
  have HCA := hide (checked_any t 0 _ cs (HTN.out.move (keep_below HQ0.out.1)) (by have := HMM.out; omega) HMM.out (HT.out.next HQ0.out.1))
  generalize chkf t 0 = E at *
  go_enter Tryd.func7, Tryd.ntmps7
  go_wp2_with (refine wpList_valAt rfl rfl w.heap.size 0 cs rfl HSZ.out HV0.out ?_)
  refine HCA.out.mono ?_
  rintro e w1 ⟨rfl, hb1⟩
  have HQ1 := hide (HQ0.out.next hb1)
  clear hb1 HQ0 HV0 HCA
  go_wp2_with fail
  go_ret
  exact ⟨rfl, HQ1.out.1⟩
end
section
open Go.RowKit Go
/-- Two lists held against each other. -/
def alk {α β : Type} (f : α → β → Bool) : List α → List β → Bool
  | [], [] => true
  | x :: xs, y :: ys => f x y && alk f xs ys
  | _, _ => false
theorem alk_len {α β : Type} (f : α → β → Bool) : ∀ (l : List α) (m : List β), l.length ≠ m.length → alk f l m = false
  | [], [], h => absurd rfl h
  | [], _ :: _, _ => rfl
  | _ :: _, [], _ => rfl
  | x :: xs, y :: ys, h => by
    rw [alk, alk_len f xs ys (by simpa using h), Bool.and_false]
theorem alk_iff {α β : Type} (f : α → β → Bool) : ∀ (l : List α) (m : List β), alk f l m = true ↔ l.length = m.length ∧ ∀ (i : Nat) (x : α) (y : β), l[i]? = some x → m[i]? = some y → f x y = true
  | [], [] => by simp [alk]
  | [], _ :: _ => by simp [alk]
  | _ :: _, [] => by simp [alk]
  | x :: xs, y :: ys => by
    rw [alk, Bool.and_eq_true, alk_iff f xs ys]
    constructor
    · rintro ⟨h1, h2, h3⟩
      refine ⟨by simp [h2], fun i u v hu hv => ?_⟩
      cases i with
      | zero =>
        simp at hu hv
        subst hu hv
        exact h1
      | succ i =>
        simp at hu hv
        exact h3 i u v hu hv
    · rintro ⟨h1, h2⟩
      exact ⟨h2 0 x y rfl rfl, by simpa using h1, fun i u v hu hv => h2 (i + 1) u v (by simpa using hu) (by simpa using hv)⟩
theorem alk_yes {α β : Type} {f : α → β → Bool} {l : List α} {m : List β} (hl : l.length = m.length) (h : ∀ (i : Nat) (x : α) (y : β), l[i]? = some x → m[i]? = some y → f x y = true) : alk f l m = true := (alk_iff f l m).2 ⟨hl, h⟩
theorem alk_no {α β : Type} {f : α → β → Bool} {l : List α} {m : List β} {i : Nat} {x : α} {y : β} (hx : l[i]? = some x) (hy : m[i]? = some y) (h : f x y = false) : alk f l m = false := by
  rcases Bool.eq_false_or_eq_true (alk f l m) with e | e
  · have := ((alk_iff f l m).1 e).2 i x y hx hy
    rw [h] at this
    cases this
  · exact e
set_option maxRecDepth 1000000 in
set_option maxHeartbeats 1000000 in
theorem alikeI_any (G : Nat) (cb : Array Value) (eG : ∀ args w, (callFunc G args).run Tryd.prog w = .ok (.enter G args) w) (w : World) (va vb : Value) (pa pb : List Nat) (f : Nat → Nat → Bool) (ha : ISl w va pa) (hb : ISl w vb pb)
    (hf : ∀ wx, Below w.heap.size w wx → ∀ (i p q : Nat), pa[i]? = some p → pb[i]? = some q → Calls Tryd.prog G (#[.int .i64 (p : Nat), .int .i64 (q : Nat)] ++ cb) wx fun e w' => e = .returned (.bool (f p q)) ∧ Below wx.heap.size wx w') :
    Calls Tryd.prog 28 #[va, vb, .func (.func G) #[] cb] w fun e w' => e = .returned (.bool (alk f pa pb)) ∧ Below w.heap.size w w' := by
  obtain ⟨⟨a, ca, rfl, _, hca⟩, hma⟩ := ha
  obtain ⟨⟨b, cb2, rfl, _, hcb⟩, hmb⟩ := hb
  have HA := hide hca
  have HBx := hide hcb
  have HFF := hide hf
  clear hca hcb hf
  go_enter Tryd.func28, Tryd.ntmps28
  by_cases hl : pa.length = pb.length
  · have g0 : ((pa.length : Int) != (pb.length : Int)) = false := by rw [nat_ne]; simp [hl]
    have HL := hide hl
    clear hl
    go_wp2_with fail
    go_loopw [15] (fun ii wx => ∃ i : Nat, i ≤ pa.length ∧ ii = .int .i64 (i : Nat) ∧ Hid (∀ j p q, j < i → pa[j]? = some p → pb[j]? = some q → f p q = true) ∧ Hid (Below w.heap.size w wx)) (fun ii _ => pa.length - (intOf ii).toNat)
    case atStart => exact ⟨0, by omega, rfl, fun j p q hj => absurd hj (by omega), Below.refl _ _⟩
    case round =>
      obtain ⟨i, hi, rfl, HI, HBw⟩ := hrel
      by_cases hlt : i < pa.length
      · have g1 : (i : Int) < (pa.length : Int) := by omega
        have hlt2 : i < pb.length := by rw [← HL.out]; exact hlt
        have g2 : (i : Int) < (pb.length : Int) := by omega
        obtain ⟨p, hp⟩ : ∃ p, pa[i]? = some p := ⟨pa[i], List.getElem?_eq_getElem hlt⟩
        obtain ⟨q, hq⟩ : ∃ p, pb[i]? = some p := ⟨pb[i], List.getElem?_eq_getElem hlt2⟩
        obtain ⟨b1, off1, rfl, hc1⟩ := HA.out.resolve_left (fun h => by rw [h] at hlt; simp at hlt)
        obtain ⟨b2, off2, rfl, hc2⟩ := HBx.out.resolve_left (fun h => by rw [h] at hlt2; simp at hlt2)
        have c1 : ∀ t : Ext wr, t.w'.cell? ⟨b1, off1 + i, none⟩ = some (.int .i64 (p : Nat)) := fun t => keep_below t.h _ _ (keep_below HBw.out _ _ (hc1 i p hp))
        have c2 : ∀ t : Ext wr, t.w'.cell? ⟨b2, off2 + i, none⟩ = some (.int .i64 (q : Nat)) := fun t => keep_below t.h _ _ (keep_below HBw.out _ _ (hc2 i q hq))
        have HC0 : Hid (∀ t : Ext wr, Calls Tryd.prog G (#[.int .i64 (p : Nat), .int .i64 (q : Nat)] ++ cb) t.w' fun e w'' => e = .returned (.bool (f p q)) ∧ ∃ t' : Ext wr, w'' = t'.w') := fun t => Calls.ext_below (HFF.out t.w' (HBw.out.trans (t.h.mono HBw.out.size)) i p q hp hq)
        clear hc1 hc2 HA HBx HFF
        rcases Bool.eq_false_or_eq_true (f p q) with hr | hr
        · have HI2 : Hid (∀ j p q, j < i + 1 → pa[j]? = some p → pb[j]? = some q → f p q = true) := fun j p' q' hj h1 h2 => by
            by_cases hji : j = i
            · subst hji
              rw [hp] at h1
              rw [hq] at h2
              injection h1 with h1
              injection h2 with h2
              subst h1 h2
              exact hr
            · exact HI.out j p' q' (by omega) h1 h2
          rw [hr] at HC0
          clear hr hp hq HI
          go_wp2_with fail
          refine region_ext (by kernel_rfl) (by kernel_rfl) ?_
          repeat (
            refine wpQuiet_step (fun K hK => ?_)
            (go_simp
             first
               | (refine hK _ ?_; clear hK K)
               | (apply Exists.intro
                  refine ⟨fun _ => ?_, hK _ ?_⟩
                  (go_at_fn G; exact HC0.out _)
                  clear hK K)))
          refine wpQuiet_nil ?_
          rintro _ ⟨tq, rfl⟩
          have HB2 : Hid (Below w.heap.size w tq.w') := HBw.out.trans (tq.h.mono HBw.out.size)
          clear c1 c2 HC0
          go_wp2_with fail
          go_roundw
          case rel => exact ⟨i + 1, by omega, by go_num, HI2, HB2⟩
          case measure => simp [intOf]; omega
        · have HN : Hid (alk f pa pb = false) := alk_no hp hq hr
          rw [hr] at HC0
          clear hr hp hq HI
          go_wp2_with fail
          refine region_ext (by kernel_rfl) (by kernel_rfl) ?_
          repeat (
            refine wpQuiet_step (fun K hK => ?_)
            (go_simp
             first
               | (refine hK _ ?_; clear hK K)
               | (apply Exists.intro
                  refine ⟨fun _ => ?_, hK _ ?_⟩
                  (go_at_fn G; exact HC0.out _)
                  clear hK K)))
          refine wpQuiet_nil ?_
          rintro _ ⟨tq, rfl⟩
          have HB2 : Hid (Below w.heap.size w tq.w') := HBw.out.trans (tq.h.mono HBw.out.size)
          clear c1 c2 HC0
          go_wp2_with fail
          go_ret
          exact ⟨by rw [HN.out]; rfl, HB2.out⟩
      · as_aux_lemma =>
        have g1 : ¬ (i : Int) < (pa.length : Int) := by omega
        have HN : Hid (alk f pa pb = true) := alk_yes HL.out (fun j p q h1 h2 => HI.out j p q (by have := (List.getElem?_eq_some_iff.1 h1).1; omega) h1 h2)
        go_wp2_with fail
        go_ret
        exact ⟨by rw [HN.out]; rfl, HBw.out⟩
  · as_aux_lemma =>
    have g0 : ((pa.length : Int) != (pb.length : Int)) = true := by rw [nat_ne]; simp [hl]
    have HN : Hid (alk f pa pb = false) := alk_len f pa pb hl
    clear hl
    go_wp2_with fail
    go_ret
    exact ⟨by rw [HN.out]; rfl, Below.refl _ _⟩
end
section
open Go.RowKit Go
set_option maxRecDepth 1000000 in
set_option maxHeartbeats 1000000 in
theorem alikeB_any (G : Nat) (cb : Array Value) (eG : ∀ args w, (callFunc G args).run Tryd.prog w = .ok (.enter G args) w) (w : World) (va vb : Value) (pa pb : List Nat) (f : Nat → Nat → Bool) (ha : BSl w va pa) (hb : BSl w vb pb)
    (hf : ∀ wx, Below w.heap.size w wx → ∀ (i p q : Nat), pa[i]? = some p → pb[i]? = some q → Calls Tryd.prog G (#[.int .u8 (p : Nat), .int .u8 (q : Nat)] ++ cb) wx fun e w' => e = .returned (.bool (f p q)) ∧ Below wx.heap.size wx w') :
    Calls Tryd.prog 30 #[va, vb, .func (.func G) #[] cb] w fun e w' => e = .returned (.bool (alk f pa pb)) ∧ Below w.heap.size w w' := by
  obtain ⟨⟨a, ca, rfl, _, hca⟩, hma, _⟩ := ha
  obtain ⟨⟨b, cb2, rfl, _, hcb⟩, hmb, _⟩ := hb
  have HA := hide hca
  have HBx := hide hcb
  have HFF := hide hf
  clear hca hcb hf
  go_enter Tryd.func30, Tryd.ntmps30
  by_cases hl : pa.length = pb.length
  · have g0 : ((pa.length : Int) != (pb.length : Int)) = false := by rw [nat_ne]; simp [hl]
    have HL := hide hl
    clear hl
    go_wp2_with fail
    go_loopw [15] (fun ii wx => ∃ i : Nat, i ≤ pa.length ∧ ii = .int .i64 (i : Nat) ∧ Hid (∀ j p q, j < i → pa[j]? = some p → pb[j]? = some q → f p q = true) ∧ Hid (Below w.heap.size w wx)) (fun ii _ => pa.length - (intOf ii).toNat)
    case atStart => exact ⟨0, by omega, rfl, fun j p q hj => absurd hj (by omega), Below.refl _ _⟩
    case round =>
      obtain ⟨i, hi, rfl, HI, HBw⟩ := hrel
      by_cases hlt : i < pa.length
      · have g1 : (i : Int) < (pa.length : Int) := by omega
        have hlt2 : i < pb.length := by rw [← HL.out]; exact hlt
        have g2 : (i : Int) < (pb.length : Int) := by omega
        obtain ⟨p, hp⟩ : ∃ p, pa[i]? = some p := ⟨pa[i], List.getElem?_eq_getElem hlt⟩
        obtain ⟨q, hq⟩ : ∃ p, pb[i]? = some p := ⟨pb[i], List.getElem?_eq_getElem hlt2⟩
        obtain ⟨b1, off1, rfl, hc1⟩ := HA.out.resolve_left (fun h => by rw [h] at hlt; simp at hlt)
        obtain ⟨b2, off2, rfl, hc2⟩ := HBx.out.resolve_left (fun h => by rw [h] at hlt2; simp at hlt2)
        have c1 : ∀ t : Ext wr, t.w'.cell? ⟨b1, off1 + i, none⟩ = some (.int .u8 (p : Nat)) := fun t => keep_below t.h _ _ (keep_below HBw.out _ _ (by have h := hc1 i hlt; rw [show pa.getD i 0 = p by simp [List.getD, hp]] at h; exact h))
        have c2 : ∀ t : Ext wr, t.w'.cell? ⟨b2, off2 + i, none⟩ = some (.int .u8 (q : Nat)) := fun t => keep_below t.h _ _ (keep_below HBw.out _ _ (by have h := hc2 i hlt2; rw [show pb.getD i 0 = q by simp [List.getD, hq]] at h; exact h))
        have HC0 : Hid (∀ t : Ext wr, Calls Tryd.prog G (#[.int .u8 (p : Nat), .int .u8 (q : Nat)] ++ cb) t.w' fun e w'' => e = .returned (.bool (f p q)) ∧ ∃ t' : Ext wr, w'' = t'.w') := fun t => Calls.ext_below (HFF.out t.w' (HBw.out.trans (t.h.mono HBw.out.size)) i p q hp hq)
        clear hc1 hc2 HA HBx HFF
        rcases Bool.eq_false_or_eq_true (f p q) with hr | hr
        · have HI2 : Hid (∀ j p q, j < i + 1 → pa[j]? = some p → pb[j]? = some q → f p q = true) := fun j p' q' hj h1 h2 => by
            by_cases hji : j = i
            · subst hji
              rw [hp] at h1
              rw [hq] at h2
              injection h1 with h1
              injection h2 with h2
              subst h1 h2
              exact hr
            · exact HI.out j p' q' (by omega) h1 h2
          rw [hr] at HC0
          clear hr hp hq HI
          go_wp2_with fail
          refine region_ext (by kernel_rfl) (by kernel_rfl) ?_
          repeat (
            refine wpQuiet_step (fun K hK => ?_)
            (go_simp
             first
               | (refine hK _ ?_; clear hK K)
               | (apply Exists.intro
                  refine ⟨fun _ => ?_, hK _ ?_⟩
                  (go_at_fn G; exact HC0.out _)
                  clear hK K)))
          refine wpQuiet_nil ?_
          rintro _ ⟨tq, rfl⟩
          have HB2 : Hid (Below w.heap.size w tq.w') := HBw.out.trans (tq.h.mono HBw.out.size)
          clear c1 c2 HC0
          go_wp2_with fail
          go_roundw
          case rel => exact ⟨i + 1, by omega, by go_num, HI2, HB2⟩
          case measure => simp [intOf]; omega
        · have HN : Hid (alk f pa pb = false) := alk_no hp hq hr
          rw [hr] at HC0
          clear hr hp hq HI
          go_wp2_with fail
          refine region_ext (by kernel_rfl) (by kernel_rfl) ?_
          repeat (
            refine wpQuiet_step (fun K hK => ?_)
            (go_simp
             first
               | (refine hK _ ?_; clear hK K)
               | (apply Exists.intro
                  refine ⟨fun _ => ?_, hK _ ?_⟩
                  (go_at_fn G; exact HC0.out _)
                  clear hK K)))
          refine wpQuiet_nil ?_
          rintro _ ⟨tq, rfl⟩
          have HB2 : Hid (Below w.heap.size w tq.w') := HBw.out.trans (tq.h.mono HBw.out.size)
          clear c1 c2 HC0
          go_wp2_with fail
          go_ret
          exact ⟨by rw [HN.out]; rfl, HB2.out⟩
      · as_aux_lemma =>
        have g1 : ¬ (i : Int) < (pa.length : Int) := by omega
        have HN : Hid (alk f pa pb = true) := alk_yes HL.out (fun j p q h1 h2 => HI.out j p q (by have := (List.getElem?_eq_some_iff.1 h1).1; omega) h1 h2)
        go_wp2_with fail
        go_ret
        exact ⟨by rw [HN.out]; rfl, HBw.out⟩
  · as_aux_lemma =>
    have g0 : ((pa.length : Int) != (pb.length : Int)) = true := by rw [nat_ne]; simp [hl]
    have HN : Hid (alk f pa pb = false) := alk_len f pa pb hl
    clear hl
    go_wp2_with fail
    go_ret
    exact ⟨by rw [HN.out]; rfl, Below.refl _ _⟩
set_option maxRecDepth 1000000 in
set_option maxHeartbeats 1000000 in
theorem alikeV_any (G : Nat) (cb : Array Value) (eG : ∀ args w, (callFunc G args).run Tryd.prog w = .ok (.enter G args) w) (w : World) (va vb : Value) (pa pb : List Tv) (f : Nat → Nat → Bool) (ha : VSl w va pa) (hb : VSl w vb pb)
    (hf : ∀ wx, Below w.heap.size w wx → ∀ (i : Nat) (p q : Tv) (c1 c2 : Array Value), pa[i]? = some p → pb[i]? = some q → Tin wx p c1 → Tin wx q c2 → Calls Tryd.prog G (#[.agg c1, .agg c2] ++ cb) wx fun e w' => e = .returned (.bool (f i i)) ∧ Below wx.heap.size wx w') :
    Calls Tryd.prog 32 #[va, vb, .func (.func G) #[] cb] w fun e w' => e = .returned (.bool (alk f (List.range pa.length) (List.range pb.length))) ∧ Below w.heap.size w w' := by
  obtain ⟨⟨a, ca, rfl, _, hca⟩, hma⟩ := ha
  obtain ⟨⟨b, cb2, rfl, _, hcb⟩, hmb⟩ := hb
  have HA := hide hca
  have HBx := hide hcb
  have HFF := hide hf
  clear hca hcb hf
  go_enter Tryd.func32, Tryd.ntmps32
  by_cases hl : pa.length = pb.length
  · have g0 : ((pa.length : Int) != (pb.length : Int)) = false := by rw [nat_ne]; simp [hl]
    have HL := hide hl
    clear hl
    go_wp2_with fail
    go_loopw [15] (fun ii wx => ∃ i : Nat, i ≤ pa.length ∧ ii = .int .i64 (i : Nat) ∧ Hid (∀ j, j < i → f j j = true) ∧ Hid (Below w.heap.size w wx)) (fun ii _ => pa.length - (intOf ii).toNat)
    case atStart => exact ⟨0, by omega, rfl, fun j hj => absurd hj (by omega), Below.refl _ _⟩
    case round =>
      obtain ⟨i, hi, rfl, HI, HBw⟩ := hrel
      by_cases hlt : i < pa.length
      · have g1 : (i : Int) < (pa.length : Int) := by omega
        have hlt2 : i < pb.length := by rw [← HL.out]; exact hlt
        have g2 : (i : Int) < (pb.length : Int) := by omega
        obtain ⟨p, hp⟩ : ∃ p, pa[i]? = some p := ⟨pa[i], List.getElem?_eq_getElem hlt⟩
        obtain ⟨q, hq⟩ : ∃ p, pb[i]? = some p := ⟨pb[i], List.getElem?_eq_getElem hlt2⟩
        obtain ⟨b1, off1, rfl, hc1⟩ := HA.out.resolve_left (fun h => by rw [h] at hlt; simp at hlt)
        obtain ⟨b2, off2, rfl, hc2⟩ := HBx.out.resolve_left (fun h => by rw [h] at hlt2; simp at hlt2)
        obtain ⟨cu1, hcu1, hcc1⟩ := hc1 i p hp
        obtain ⟨cu2, hcu2, hcc2⟩ := hc2 i q hq
        have HQ1 : Hid (∀ wx, (∃ t : Ext wr, wx = t.w') → ∀ j x, cu1[j]? = some x → wx.cell? ⟨b1, off1 + i * 13 + j, none⟩ = some x) := by
          rintro _ ⟨t, rfl⟩ j x hx
          exact keep_below t.h _ _ (keep_below HBw.out _ _ (hcc1 j x hx))
        have HQ2 : Hid (∀ wx, (∃ t : Ext wr, wx = t.w') → ∀ j x, cu2[j]? = some x → wx.cell? ⟨b2, off2 + i * 13 + j, none⟩ = some x) := by
          rintro _ ⟨t, rfl⟩ j x hx
          exact keep_below t.h _ _ (keep_below HBw.out _ _ (hcc2 j x hx))
        have HZ1 := hide hcu1.size
        have HZ2 := hide hcu2.size
        have HC0 : Hid (∀ t : Ext wr, Calls Tryd.prog G (#[.agg cu1, .agg cu2] ++ cb) t.w' fun e w'' => e = .returned (.bool (f i i)) ∧ ∃ t' : Ext wr, w'' = t'.w') := fun t => Calls.ext_below (HFF.out t.w' (HBw.out.trans (t.h.mono HBw.out.size)) i p q cu1 cu2 hp hq ((hcu1.move (keep_below HBw.out)).move (keep_below t.h)) ((hcu2.move (keep_below HBw.out)).move (keep_below t.h)))
        clear hc1 hc2 hcc1 hcc2 hcu1 hcu2 HA HBx HFF
        rcases Bool.eq_false_or_eq_true (f i i) with hr | hr
        · have HI2 : Hid (∀ j, j < i + 1 → f j j = true) := fun j hj => by
            by_cases hji : j = i
            · subst hji
              exact hr
            · exact HI.out j (by omega)
          rw [hr] at HC0
          clear hr hp hq HI
          go_wp2_with fail
          refine region_ext (by kernel_rfl) (by kernel_rfl) ?_
          repeat (
            refine wpQuiet_step (fun K hK => ?_)
            first
              | (refine qstep_valAt rfl rfl b1 (off1 + i * 13) cu1 HZ1.out rfl HQ1.out (hK _ ?_); clear hK K)
              | (refine qstep_valAt rfl rfl b2 (off2 + i * 13) cu2 HZ2.out rfl HQ2.out (hK _ ?_); clear hK K)
              | (go_simp
                 first
               | (refine hK _ ?_; clear hK K)
               | (apply Exists.intro
                  refine ⟨fun _ => ?_, hK _ ?_⟩
                  (go_at_fn G; exact HC0.out _)
                  clear hK K)))
          refine wpQuiet_nil ?_
          rintro _ ⟨tq, rfl⟩
          have HB2 : Hid (Below w.heap.size w tq.w') := HBw.out.trans (tq.h.mono HBw.out.size)
          clear HC0 HQ1 HQ2
          go_wp2_with fail
          go_roundw
          case rel => exact ⟨i + 1, by omega, by go_num, HI2, HB2⟩
          case measure => simp [intOf]; omega
        · have HN : Hid (alk f (List.range pa.length) (List.range pb.length) = false) := alk_no (i := i) (List.getElem?_range hlt) (List.getElem?_range hlt2) hr
          rw [hr] at HC0
          clear hr hp hq HI
          go_wp2_with fail
          refine region_ext (by kernel_rfl) (by kernel_rfl) ?_
          repeat (
            refine wpQuiet_step (fun K hK => ?_)
            first
              | (refine qstep_valAt rfl rfl b1 (off1 + i * 13) cu1 HZ1.out rfl HQ1.out (hK _ ?_); clear hK K)
              | (refine qstep_valAt rfl rfl b2 (off2 + i * 13) cu2 HZ2.out rfl HQ2.out (hK _ ?_); clear hK K)
              | (go_simp
                 first
               | (refine hK _ ?_; clear hK K)
               | (apply Exists.intro
                  refine ⟨fun _ => ?_, hK _ ?_⟩
                  (go_at_fn G; exact HC0.out _)
                  clear hK K)))
          refine wpQuiet_nil ?_
          rintro _ ⟨tq, rfl⟩
          have HB2 : Hid (Below w.heap.size w tq.w') := HBw.out.trans (tq.h.mono HBw.out.size)
          clear HC0 HQ1 HQ2
          go_wp2_with fail
          go_ret
          exact ⟨by rw [HN.out]; rfl, HB2.out⟩
      · as_aux_lemma =>
        have g1 : ¬ (i : Int) < (pa.length : Int) := by omega
        have HN : Hid (alk f (List.range pa.length) (List.range pb.length) = true) := alk_yes (by simp [HL.out]) (fun j p q h1 h2 => by
          have hj := (List.getElem?_eq_some_iff.1 h1).1
          have hj2 := (List.getElem?_eq_some_iff.1 h2).1
          simp at hj hj2
          rw [List.getElem?_range hj] at h1
          rw [List.getElem?_range hj2] at h2
          injection h1 with h1
          injection h2 with h2
          subst h1
          subst h2
          exact HI.out j (by omega))
        go_wp2_with fail
        go_ret
        exact ⟨by rw [HN.out]; rfl, HBw.out⟩
  · as_aux_lemma =>
    have g0 : ((pa.length : Int) != (pb.length : Int)) = true := by rw [nat_ne]; simp [hl]
    have HN : Hid (alk f (List.range pa.length) (List.range pb.length) = false) := alk_len f _ _ (by simpa using hl)
    clear hl
    go_wp2_with fail
    go_ret
    exact ⟨by rw [HN.out]; rfl, Below.refl _ _⟩
theorem alk_eq {x y : List Nat} : alk (fun p q : Nat => decide (p = q)) x y = decide (x = y) := by
  rw [Bool.eq_iff_iff, alk_iff, decide_eq_true_iff]
  constructor
  · rintro ⟨h1, h2⟩
    apply List.ext_getElem?
    intro i
    by_cases hi : i < x.length
    · have a := List.getElem?_eq_getElem hi
      have b := List.getElem?_eq_getElem (show i < y.length by omega)
      have := h2 i _ _ a b
      rw [decide_eq_true_iff] at this
      rw [a, b, this]
    · rw [List.getElem?_eq_none (by omega), List.getElem?_eq_none (by omega)]
  · intro e
    subst e
    exact ⟨rfl, fun i p q h1 h2 => by rw [h1] at h2; injection h2 with h2; simp [h2]⟩
set_option maxRecDepth 1000000 in
theorem eq2_any (p q : Nat) (w : World) : Calls Tryd.prog 31 #[.int .u8 (p : Nat), .int .u8 (q : Nat)] w fun e w' => e = .returned (.bool (decide (p = q))) ∧ Below w.heap.size w w' := by
  have HE : Hid (((p : Int) == (q : Int)) = decide (p = q)) := by
    show _ = _
    rw [Bool.eq_iff_iff]
    simp
    omega
  go_enter Tryd.func31, Tryd.ntmps31
  go_wp2_with fail
  go_ret
  exact ⟨by rw [← HE.out]; rfl, Below.refl _ _⟩
theorem alikeE_any (w : World) (va vb : Value) (x y : List Nat) (hx : BSl w va x) (hy : BSl w vb y) : Calls Tryd.prog 30 #[va, vb, .func (.func 31) #[] #[]] w fun e w' => e = .returned (.bool (decide (x = y))) ∧ Below w.heap.size w w' := by
  have eG : ∀ args w, (callFunc 31 args).run Tryd.prog w = .ok (.enter 31 args) w := enters_of Tryd.func31 (by kernel_rfl) rfl
  have h := alikeB_any 31 #[] eG w va vb x y (fun p q => decide (p = q)) hx hy (fun wx _ i p q _ _ => eq2_any p q wx)
  rw [alk_eq] at h
  exact h
end
section
open Go.RowKit Go
/-- What Equal answers, by its own steps. -/
def eqf (a b : Tv) : Bool :=
  if a.k = 9 ∧ b.k = 9 then
    alk (fun p q => decide (a.ks.getD p ⟨#[]⟩ = b.ks.getD q ⟨#[]⟩) && (if h : p < a.is.length ∧ q < b.is.length then eqf (a.is[p]'h.1) (b.is[q]'h.2) else false)) (ordp a.ks (min a.ks.length a.is.length)) (ordp b.ks (min b.ks.length b.is.length))
  else
    decide (a.k = b.k) && (decide (a.f = b.f) && (decide (a.g = b.g) && (decide (a.n = b.n) && (decide (a.b = b.b) && (decide (a.s = b.s) && (decide (a.l = b.l) && (decide (a.y = b.y) && alk (fun i j => if h : i < a.is.length ∧ j < b.is.length then eqf (a.is[i]'h.1) (b.is[j]'h.2) else false) (List.range a.is.length) (List.range b.is.length))))))))
termination_by SizeOf.sizeOf a
decreasing_by all_goals exact Tv.is_lt (List.getElem_mem _)
/-- Two items held against each other. -/
def eqx (a b : Tv) (i j : Nat) : Bool := if h : i < a.is.length ∧ j < b.is.length then eqf (a.is[i]'h.1) (b.is[j]'h.2) else false
theorem eqx_at {a b u v : Tv} {i j : Nat} (hu : a.is[i]? = some u) (hv : b.is[j]? = some v) : eqx a b i j = eqf u v := by
  have h1 := (List.getElem?_eq_some_iff.1 hu).1
  have h2 := (List.getElem?_eq_some_iff.1 hv).1
  unfold eqx
  rw [dif_pos ⟨h1, h2⟩]
  rw [List.getElem?_eq_getElem h1] at hu
  rw [List.getElem?_eq_getElem h2] at hv
  injection hu with hu
  injection hv with hv
  rw [hu, hv]
def eqk (a b : Tv) (p q : Nat) : Bool := decide (a.ks.getD p ⟨#[]⟩ = b.ks.getD q ⟨#[]⟩) && eqx a b p q
theorem eqf_map {a b : Tv} (ha : a.k = 9) (hb : b.k = 9) : eqf a b = alk (eqk a b) (ordp a.ks (min a.ks.length a.is.length)) (ordp b.ks (min b.ks.length b.is.length)) := by
  rw [eqf, if_pos ⟨ha, hb⟩]
  rfl
theorem eqf_rest {a b : Tv} (h : ¬ (a.k = 9 ∧ b.k = 9)) : eqf a b = (decide (a.k = b.k) && (decide (a.f = b.f) && (decide (a.g = b.g) && (decide (a.n = b.n) && (decide (a.b = b.b) && (decide (a.s = b.s) && (decide (a.l = b.l) && (decide (a.y = b.y) && alk (eqx a b) (List.range a.is.length) (List.range b.is.length))))))))) := by
  rw [eqf, if_neg h]
  rfl
/-- What is asked of Equal at an item. -/
def EqC (a : Tv) : Prop := ∀ (b : Tv) (w : World) (ca cb : Array Value), Tin w a ca → Tin w b cb → tmuch a ≤ 100000 → tmuch b ≤ 100000 → Calls Tryd.prog 12 #[.agg ca, .agg cb] w fun e w' => e = .returned (.bool (eqf a b)) ∧ Below w.heap.size w w'
set_option maxRecDepth 1000000 in
set_option maxHeartbeats 1000000 in
theorem clo2_any (a b : Tv) (ih : ∀ u ∈ a.is, EqC u) (w : World) (A B : Nat) (ca cb : Array Value) (hA : w.heap[A]? = some (.cells ca 29 (0, 0))) (hB : w.heap[B]? = some (.cells cb 29 (0, 0))) (ha : Tin w a ca) (hb : Tin w b cb) (hma : tmuchL a.is ≤ 100000) (hmb : tmuchL b.is ≤ 100000) (p q : Nat) (hp1 : p < a.ks.length) (hp2 : p < a.is.length) (hq1 : q < b.ks.length) (hq2 : q < b.is.length) :
    Calls Tryd.prog 29 #[.int .i64 (p : Nat), .int .i64 (q : Nat), .pointer (some ⟨A, 0, none⟩), .pointer (some ⟨B, 0, none⟩)] w fun e w' => e = .returned (.bool (eqk a b p q)) ∧ Below w.heap.size w w' := by
  obtain ⟨u, hu⟩ : ∃ u, a.is[p]? = some u := ⟨a.is[p], List.getElem?_eq_getElem hp2⟩
  obtain ⟨v, hv⟩ : ∃ u, b.is[q]? = some u := ⟨b.is[q], List.getElem?_eq_getElem hq2⟩
  have HE : Hid (eqk a b p q = (decide (a.ks.getD p ⟨#[]⟩ = b.ks.getD q ⟨#[]⟩) && eqf u v)) := by
    show _ = _
    unfold eqk
    rw [eqx_at hu hv]
  obtain ⟨vy1, vk1, vi1, rfl, hy1, hk1, hv1, _⟩ := ha.parts
  obtain ⟨vy2, vk2, vi2, rfl, hy2, hk2, hv2, _⟩ := hb.parts
  obtain ⟨⟨ak1, ck1, rfl, _, hkf1⟩, hkm1, _⟩ := hk1
  obtain ⟨⟨ak2, ck2, rfl, _, hkf2⟩, hkm2, _⟩ := hk2
  obtain ⟨⟨ai1, ci1, rfl, _, hif1⟩, him1⟩ := hv1
  obtain ⟨⟨ai2, ci2, rfl, _, hif2⟩, him2⟩ := hv2
  obtain ⟨bk1, ok1, rfl, hkc1⟩ := hkf1.resolve_left (fun h => by rw [h] at hp1; simp at hp1)
  obtain ⟨bk2, ok2, rfl, hkc2⟩ := hkf2.resolve_left (fun h => by rw [h] at hq1; simp at hq1)
  obtain ⟨bi1, oi1, rfl, hic1⟩ := hif1.resolve_left (fun h => by rw [h] at hp2; simp at hp2)
  obtain ⟨bi2, oi2, rfl, hic2⟩ := hif2.resolve_left (fun h => by rw [h] at hq2; simp at hq2)
  obtain ⟨cu1, hcu1, hcc1⟩ := hic1 p u hu
  obtain ⟨cu2, hcu2, hcc2⟩ := hic2 q v hv
  have hs1 : a.ks[p]? = some (a.ks.getD p ⟨#[]⟩) := by simp [List.getD, List.getElem?_eq_getElem hp1]
  have hs2 : b.ks[q]? = some (b.ks.getD q ⟨#[]⟩) := by simp [List.getD, List.getElem?_eq_getElem hq1]
  have s1 : ∀ t : Ext w, t.w'.cell? ⟨bk1, ok1 + p, none⟩ = some (.string (a.ks.getD p ⟨#[]⟩)) := fun t => keep_below t.h _ _ (hkc1 _ _ hs1)
  have s2 : ∀ t : Ext w, t.w'.cell? ⟨bk2, ok2 + q, none⟩ = some (.string (b.ks.getD q ⟨#[]⟩)) := fun t => keep_below t.h _ _ (hkc2 _ _ hs2)
  have x1 : ∀ t : Ext w, t.w'.cell? ⟨A, 11, none⟩ = some (.slice (some ⟨bk1, ok1, none⟩) a.ks.length ck1) := fun t => keep_below t.h _ _ (blk_cell hA rfl)
  have x2 : ∀ t : Ext w, t.w'.cell? ⟨B, 11, none⟩ = some (.slice (some ⟨bk2, ok2, none⟩) b.ks.length ck2) := fun t => keep_below t.h _ _ (blk_cell hB rfl)
  have y1 : ∀ t : Ext w, t.w'.cell? ⟨A, 12, none⟩ = some (.slice (some ⟨bi1, oi1, none⟩) a.is.length ci1) := fun t => keep_below t.h _ _ (blk_cell hA rfl)
  have y2 : ∀ t : Ext w, t.w'.cell? ⟨B, 12, none⟩ = some (.slice (some ⟨bi2, oi2, none⟩) b.is.length ci2) := fun t => keep_below t.h _ _ (blk_cell hB rfl)
  have HQ1 : Hid (∀ wx, (∃ t : Ext w, wx = t.w') → ∀ j x, cu1[j]? = some x → wx.cell? ⟨bi1, oi1 + p * 13 + j, none⟩ = some x) := by
    rintro _ ⟨t, rfl⟩ j x hx
    exact keep_below t.h _ _ (hcc1 j x hx)
  have HQ2 : Hid (∀ wx, (∃ t : Ext w, wx = t.w') → ∀ j x, cu2[j]? = some x → wx.cell? ⟨bi2, oi2 + q * 13 + j, none⟩ = some x) := by
    rintro _ ⟨t, rfl⟩ j x hx
    exact keep_below t.h _ _ (hcc2 j x hx)
  have HZ1 := hide hcu1.size
  have HZ2 := hide hcu2.size
  have HC0 : Hid (∀ t : Ext w, Calls Tryd.prog 12 #[.agg cu1, .agg cu2] t.w' fun e w'' => e = .returned (.bool (eqf u v)) ∧ ∃ t' : Ext w, w'' = t'.w') := fun t => Calls.ext_below (ih u (List.mem_of_getElem? hu) v t.w' cu1 cu2 (hcu1.move (keep_below t.h)) (hcu2.move (keep_below t.h)) (Nat.le_trans (tmuchL_mem (List.mem_of_getElem? hu)) hma) (Nat.le_trans (tmuchL_mem (List.mem_of_getElem? hv)) hmb))
  have g1 : (p : Int) < (a.ks.length : Int) := by omega
  have g2 : (q : Int) < (b.ks.length : Int) := by omega
  have g3 : (p : Int) < (a.is.length : Int) := by omega
  have g4 : (q : Int) < (b.is.length : Int) := by omega
  clear ih hA hB ha hb hma hmb hu hv hkf1 hkf2 hif1 hif2 hkc1 hkc2 hic1 hic2 hcu1 hcu2 hcc1 hcc2 hs1 hs2 hy1 hy2
  generalize a.ks.getD p ⟨#[]⟩ = k1 at *
  generalize b.ks.getD q ⟨#[]⟩ = k2 at *
  generalize eqf u v = R at *
  go_enter Tryd.func29, Tryd.ntmps29
  by_cases he : k1 = k2
  · as_aux_lemma =>
    have hne : (k1.toList == k2.toList) = true := by rw [he]; simp
    rw [decide_eq_true he, Bool.true_and] at HE
    clear he
    go_wp2_with fail
    refine region_ext (by kernel_rfl) (by kernel_rfl) ?_
    repeat (
      refine wpQuiet_step (fun K hK => ?_)
      first
        | (refine qstep_valAt rfl rfl bi1 (oi1 + p * 13) cu1 HZ1.out rfl HQ1.out (hK _ ?_); clear hK K)
        | (refine qstep_valAt rfl rfl bi2 (oi2 + q * 13) cu2 HZ2.out rfl HQ2.out (hK _ ?_); clear hK K)
        | (go_simp
           first
             | (refine hK _ ?_; clear hK K)
             | (apply Exists.intro
                refine ⟨fun _ => ?_, hK _ ?_⟩
                (go_at_call 12; exact HC0.out _)
                clear hK K)))
    refine wpQuiet_nil ?_
    rintro _ ⟨tq, rfl⟩
    go_wp2_with fail
    go_ret
    exact ⟨by rw [HE.out]; rfl, tq.h⟩
  · as_aux_lemma =>
    have hne : (k1.toList == k2.toList) = false := str_beq_no he
    rw [decide_eq_false he, Bool.false_and] at HE
    have z1 := s1 ⟨w, Below.refl _ _⟩
    have z2 := s2 ⟨w, Below.refl _ _⟩
    have z3 := x1 ⟨w, Below.refl _ _⟩
    have z4 := x2 ⟨w, Below.refl _ _⟩
    clear he s1 s2 x1 x2 y1 y2
    go_wp2_with fail
    go_quiet (fail)
    go_wp2_with fail
    go_ret
    exact ⟨by rw [HE.out]; rfl, ((Kp.refl (fun _ => False) w).drewN _).below (Nat.le_refl _) (fun _ h => h.elim)⟩
end
section
open Go.RowKit Go
theorem exec_loadV {o : Oper} {a : Act} {p : Operand} {g : Nat} {cs : Array Value} {w : World} (ho : o.op = .load 29 p) (hp : a.eval p = .pointer (some ⟨g, 0, none⟩)) (hn : cs.size = 13) (hg : w.heap[g]? = some (.cells cs 29 (0, 0))) : (execOp a.eval o).run Tryd.prog w = .ok (.value (.agg cs)) w := by
  unfold execOp
  have hr := load_val (w := w) g 0 cs hn (fun j u hu => by rw [Nat.zero_add]; exact blk_cell hg hu)
  simp only [ho, Sem.run_bind, hp, hr, Result.andThen_ok]
  rfl
set_option maxRecDepth 1000000 in
set_option maxHeartbeats 2000000 in
theorem equal_map (a b : Tv) (ih : ∀ u ∈ a.is, EqC u) (h9 : a.k = 9) (h9b : b.k = 9) (w : World) (ca cb : Array Value) (hTa : Tin w a ca) (hTb : Tin w b cb) (hma : tmuch a ≤ 100000) (hmb : tmuch b ≤ 100000) : Calls Tryd.prog 12 #[.agg ca, .agg cb] w fun e w' => e = .returned (.bool (eqf a b)) ∧ Below w.heap.size w w' := by
  have hmf : ∀ (fn : Fn) (first cap : Array Value) (w : World), (Instr.makeFunc fn first cap).run Tryd.prog w = .ok (.func fn first cap) w := fun _ _ _ _ => rfl
  have eG : ∀ args w, (callFunc 29 args).run Tryd.prog w = .ok (.enter 29 args) w := enters_of Tryd.func29 (by kernel_rfl) rfl
  have HEG := hide eG
  have HR := hide (eqf_map h9 h9b)
  generalize hR : eqf a b = R at *
  clear hR eG
  have hme := tmuch_eq a
  have hme2 := tmuch_eq b
  have HIH := hide ih
  have HTA := hide hTa
  have HTB := hide hTb
  have HKA : Hid (a.ks.length ≤ 100000 ∧ tmuchL a.is ≤ 100000) := ⟨by omega, by omega⟩
  have HKB : Hid (b.ks.length ≤ 100000 ∧ tmuchL b.is ≤ 100000) := ⟨by omega, by omega⟩
  have HSA := hide hTa.size13
  have HSB := hide hTb.size13
  have HA0 : Hid (ca[0]? = some (.int .i64 a.k)) := by
    obtain ⟨vy, vk, vi, rfl, _⟩ := hTa.parts
    exact rfl
  have HB0 : Hid (cb[0]? = some (.int .i64 b.k)) := by
    obtain ⟨vy, vk, vi, rfl, _⟩ := hTb.parts
    exact rfl
  clear ih hTa hTb hma hmb hme hme2
  have HW0 := hide (Bw.start w ca cb)
  have q1 := blk_cell (j := 0) HW0.out.a HA0.out
  have q2 := blk_cell (j := 0) HW0.out.c HB0.out
  have g1 : (a.k == 9) = true := by rw [h9]; rfl
  have g2 : (b.k == 9) = true := by rw [h9b]; rfl
  clear h9 h9b
  go_enter Tryd.func12, Tryd.ntmps12
  go_wp2_with fail
  generalize (w.alloc (.cells ca 29)).alloc (.cells cb 29) = w2 at *
  refine heldStart (S := fun w' => Bw w w' ca cb) (by kernel_rfl) ?_
  have hS : Bw w w2.drew ca cb := HW0.out.next (by refine Below.drew ?_; exact Below.refl _ _)
  refine heldTake 0 _ rfl (by kernel_rfl) (by kernel_rfl) (by kernel_rfl) (fun _ _ _ h => h) rfl hS (fun wy hy => exec_loadV rfl rfl HSA.out hy.a) ?_
  (try simp only [Act.put]); (try simp only [List.setIfInBounds_toArray, List.set_cons_zero, List.set_cons_succ])
  refine heldTake 2 _ rfl (by kernel_rfl) (by kernel_rfl) (by kernel_rfl) (fun _ _ _ h => h) rfl hS (fun wy hy => exec_loadV rfl rfl HSB.out hy.c) ?_
  (try simp only [Act.put]); (try simp only [List.setIfInBounds_toArray, List.set_cons_zero, List.set_cons_succ])
  refine heldTake 4 _ rfl (by kernel_rfl) (by kernel_rfl) (by kernel_rfl) (fun _ _ _ h => h) rfl hS (fun wy hy => rfl) ?_
  (try simp only [Act.put]); (try simp only [List.setIfInBounds_toArray, List.set_cons_zero, List.set_cons_succ])
  refine heldStep 1 rfl (by kernel_rfl) (fun K hK => ?_)
  go_simp
  refine (order6_any a _ ca (HTA.out.move (keep_below hS.b)) (by have := HKA.out; omega)).mono ?_
  rintro e w3 ⟨v1, pa, rfl, hpa, hsa, hoa, hb3⟩
  have HPA := hide hpa
  have HQA := hide hsa
  have HI3 := hide (ISl.own hoa rfl (by have := hsa.len; have := HKA.out; omega))
  obtain ⟨xa, xc, hvx⟩ := own_slice hoa
  subst hvx
  clear hpa hsa hoa
  refine (Hid.out hK) _ _ (hS.next hb3) (fun hS2 => ?_)
  clear hK K hS
  have hS := hS2
  clear hS2
  (try simp only [Act.put]); (try simp only [List.setIfInBounds_toArray, List.set_cons_zero, List.set_cons_succ])
  clear hb3
  refine heldStep 3 rfl (by kernel_rfl) (fun K hK => ?_)
  go_simp
  refine (order6_any b _ cb (HTB.out.move (keep_below hS.b)) (by have := HKB.out; omega)).mono ?_
  rintro e w4 ⟨v2, pb, rfl, hpb, hsb, hob, hb4⟩
  have HPB := hide hpb
  have HQB := hide hsb
  have HI4 := hide (ISl.own hob rfl (by have := hsb.len; have := HKB.out; omega))
  have HI34 := hide (HI3.out.move (keep_below hb4))
  obtain ⟨xb, xd, hvx⟩ := own_slice hob
  subst hvx
  clear hpb hsb hob HI3
  refine (Hid.out hK) _ _ (hS.next hb4) (fun hS2 => ?_)
  clear hK K hS
  have hS := hS2
  clear hS2
  (try simp only [Act.put]); (try simp only [List.setIfInBounds_toArray, List.set_cons_zero, List.set_cons_succ])
  clear hb4
  have HCL : Hid (Calls Tryd.prog 28 #[.slice xa pa.length xc, .slice xb pb.length xd, .func (.func 29) #[] #[.pointer (some ⟨w.heap.size, 0, none⟩), .pointer (some ⟨w.heap.size + 1, 0, none⟩)]] w4 fun e w' => e = .returned (.bool R) ∧ Below w4.heap.size w4 w') := by
    have h := alikeI_any 29 #[.pointer (some ⟨w.heap.size, 0, none⟩), .pointer (some ⟨w.heap.size + 1, 0, none⟩)] HEG.out w4 _ _ pa pb (eqk a b) HI34.out HI4.out (fun wx hbx i p q hp hq => by
      have hwx := hS.next hbx
      have l1 := HQA.out.lt p (List.mem_of_getElem? hp)
      have l2 := HQB.out.lt q (List.mem_of_getElem? hq)
      exact clo2_any a b HIH.out wx w.heap.size (w.heap.size + 1) ca cb hwx.a hwx.c (HTA.out.move (keep_below hwx.b)) (HTB.out.move (keep_below hwx.b)) HKA.out.2 HKB.out.2 p q (by omega) (by omega) (by omega) (by omega))
    rw [HPA.out, HPB.out, ← HR.out] at h
    rw [← HPA.out, ← HPB.out] at h
    exact h
  refine heldStep 5 rfl (by kernel_rfl) (fun K hK => ?_)
  go_simp
  refine HCL.out.mono ?_
  rintro e w5 ⟨rfl, hb5⟩
  refine (Hid.out hK) _ _ (hS.next hb5) (fun hS2 => ?_)
  clear hK K hS
  have hS := hS2
  clear hS2
  (try simp only [Act.put]); (try simp only [List.setIfInBounds_toArray, List.set_cons_zero, List.set_cons_succ])
  clear hb5
  refine heldTake 6 _ rfl (by kernel_rfl) (by kernel_rfl) (by kernel_rfl) (fun _ _ _ h => h) rfl hS (fun wy hy => by first | (go_simp; done) | (go_simp; rfl) | rfl) ?_
  (try simp only [Act.put]); (try simp only [List.setIfInBounds_toArray, List.set_cons_zero, List.set_cons_succ])
  refine heldDone (by kernel_rfl) ?_
  go_wp2_with fail
  go_ret
  exact ⟨rfl, hS.b⟩
end
end Go.Proofs.YtibcepokeaaoiabDoor
