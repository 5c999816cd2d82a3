import Derived.Test.YtgcccndbahphaaaGreatDoorJb
import Derived.Test.YtgcccndbahphaaaGreatDoorJa
import Derived.Laws.CopyRow
import Derived.Laws.ResultCell
import Derived.Deep.QuietTactic
import Derived.Laws.StructEq
import Derived.SliceStrings
import Derived.Lib.SmallJoins
import Derived.Great.BuildSlice
import Derived.Great.FillDense
import Derived.Maps.AppendAt
namespace Go.Proofs.YtgcccndbahphaaaGreatDoor
section
open Go.RowKit Go

end
section
open Go.RowKit Go
theorem below_alloc4 (w : World) (o : Obj) : Below w.heap.size w (w.alloc o) := (Below.refl _ _).alloc (Nat.le_refl _) _
set_option maxRecDepth 1000000 in
set_option maxHeartbeats 1000000 in
theorem refCheck_any (w : World) (v : Int) (c h : Nat) (s : ByteArray) (hh : h < 18446744073709551616) (hs : s.size ≤ 9223372036854775807) :
    Calls Tryz.prog 119 #[.agg #[.int .i64 v, .int .u64 (c : Nat), .int .u64 (h : Nat), .string s]] w fun e w' => e = .returned (.int .i64 (if lok ⟨v, c, h, sl s⟩ then 0 else 40)) ∧ Below w.heap.size w w' := by
  generalize hR : (if lok ⟨v, c, h, sl s⟩ then (0 : Int) else 40) = R
  have HR := hide hR
  have HSL := hide (sl_len s)
  clear hR
  by_cases hv0 : v = 0
  · subst hv0
    have HE : Hid (lok ⟨0, c, h, sl s⟩ ↔ c = 112 ∧ h = 18 ∧ s.size = 32) := by
      show _ ↔ _
      unfold lok
      simp [sl_len]
    by_cases h1 : c = 112
    · by_cases h2 : h = 18
      · by_cases h3 : s.size = 32
        · have HZ : Hid (R = 0) := by show _ = _; rw [← HR.out, if_pos (HE.out.2 ⟨h1, h2, h3⟩)]
          subst h1
          subst h2
          have g3 : ((s.size : Int) == 32) = true := beq_iff_eq.2 (by omega)
          clear h3 HE HR
          go_enter Tryz.func119, Tryz.ntmps119
          go_wp2_with fail
          go_ret
          exact ⟨by rw [HZ.out]; rfl, below_alloc4 w _⟩
        · have HZ : Hid (R = 40) := by show _ = _; rw [← HR.out, if_neg (fun e => h3 (HE.out.1 e).2.2)]
          subst h1
          subst h2
          have g3 : ((s.size : Int) == 32) = false := beq_eq_false_iff_ne.2 (by omega)
          clear h3 HE HR
          go_enter Tryz.func119, Tryz.ntmps119
          go_wp2_with fail
          go_ret
          exact ⟨by rw [HZ.out]; rfl, below_alloc4 w _⟩
      · have HZ : Hid (R = 40) := by show _ = _; rw [← HR.out, if_neg (fun e => h2 (HE.out.1 e).2.1)]
        subst h1
        have g3 : ((h : Int) == 18) = false := beq_eq_false_iff_ne.2 (by omega)
        clear h2 HE HR
        go_enter Tryz.func119, Tryz.ntmps119
        go_wp2_with fail
        go_ret
        exact ⟨by rw [HZ.out]; rfl, below_alloc4 w _⟩
    · have HZ : Hid (R = 40) := by show _ = _; rw [← HR.out, if_neg (fun e => h1 (HE.out.1 e).1)]
      have g3 : ((c : Int) == 112) = false := beq_eq_false_iff_ne.2 (by omega)
      clear h1 HE HR
      go_enter Tryz.func119, Tryz.ntmps119
      go_wp2_with fail
      go_ret
      exact ⟨by rw [HZ.out]; rfl, below_alloc4 w _⟩
  · have g0 : (v == 0) = false := beq_eq_false_iff_ne.2 hv0
    by_cases hv1 : v = 1
    · subst hv1
      have HE : Hid (lok ⟨1, c, h, sl s⟩ ↔ c < 9223372036854775808 ∧ (dlay h (sl s)).2 = 0) := by as_aux_lemma =>
        show _ ↔ _
        rw [dlay_okd]
        unfold lok
        simp
      have cv := conv_sb (w.alloc (.cells #[.int .i64 1, .int .u64 (c : Nat), .int .u64 (h : Nat), .string s] 53)) s
      have hb0 := below_alloc4 w (.cells #[.int .i64 1, .int .u64 (c : Nat), .int .u64 (h : Nat), .string s] 53)
      have HB1 : Hid (Below w.heap.size w (Lib.bytesWorld (w.alloc (.cells #[.int .i64 1, .int .u64 (c : Nat), .int .u64 (h : Nat), .string s] 53)) 5 s)) := hb0.trans ((conv_sb_below _ s).mono hb0.size)
      have HS1 := hide (conv_sb_bsl (w.alloc (.cells #[.int .i64 1, .int .u64 (c : Nat), .int .u64 (h : Nat), .string s] 53)) s hs)
      have q1 : (Lib.bytesWorld (w.alloc (.cells #[.int .i64 1, .int .u64 (c : Nat), .int .u64 (h : Nat), .string s] 53)) 5 s).heap[w.heap.size]? = some (.cells #[.int .i64 1, .int .u64 (c : Nat), .int .u64 (h : Nat), .string s] 53 (0, 0)) := by
        rw [Lib.bytesWorld_at_old _ _ _ _ (by simp)]
        exact heap_alloc_new w _
      have HQ1 := hide q1
      have hz0 : (w.alloc (.cells #[.int .i64 1, .int .u64 (c : Nat), .int .u64 (h : Nat), .string s] 53)).heap.size = w.heap.size + 1 := by simp
      rw [hz0] at HS1
      clear hb0 q1 hv0 g0 hz0
      generalize hn : (c : Int) = n at *
      have HN := hide hn
      clear hn
      go_enter Tryz.func119, Tryz.ntmps119
      go_wp2_with fail
      clear cv
      generalize grownCap (w.alloc (.cells #[.int .i64 1, .int .u64 n, .int .u64 (h : Nat), .string s] 53)) s.size 0 5 = G at *
      generalize Lib.bytesWorld (w.alloc (.cells #[.int .i64 1, .int .u64 n, .int .u64 (h : Nat), .string s] 53)) 5 s = w1 at *
      refine (refDLay_any w1 h _ (sl s) hh HS1.out).mono ?_
      rintro e w2 ⟨v2, rfl, _, hb2⟩
      have HB2 : Hid (Below w.heap.size w w2) := HB1.out.trans (hb2.mono HB1.out.size)
      have q1 : w2.cell? ⟨w.heap.size, 1, none⟩ = some (.int .u64 n) := blk_cell ((hb2.block _ (blk_lt HQ1.out)).trans HQ1.out) rfl
      clear hb2 HS1 HB1 HQ1
      by_cases hc63 : n < 9223372036854775808
      · by_cases hl0 : (dlay h (sl s)).2 = 0
        · as_aux_lemma =>
          have HZ : Hid (R = 0) := by show _ = _; rw [← HR.out, if_pos (HE.out.2 ⟨by have := HN.out; omega, hl0⟩)]
          rw [hl0]
          clear HE HR HN
          go_wp2_with fail
          go_ret
          exact ⟨by rw [HZ.out]; rfl, HB2.out⟩
        · as_aux_lemma =>
          have HZ : Hid (R = 40) := by show _ = _; rw [← HR.out, if_neg (fun e => hl0 (HE.out.1 e).2)]
          have g3 : (((dlay h (sl s)).2 : Int) == 0) = false := beq_eq_false_iff_ne.2 (by omega)
          generalize (dlay h (sl s)).2 = E at *
          clear HE HR HN
          go_wp2_with fail
          go_ret
          exact ⟨by rw [HZ.out]; rfl, HB2.out⟩
      · as_aux_lemma =>
        have HZ : Hid (R = 40) := by show _ = _; rw [← HR.out, if_neg (fun e => hc63 (by have := (HE.out.1 e).1; have := HN.out; omega))]
        have g2' : (9223372036854775808 : Int) ≤ n := by omega
        generalize (dlay h (sl s)).2 = E at *
        clear HE HR HN hc63
        go_wp2_with fail
        go_ret
        exact ⟨by rw [HZ.out]; rfl, HB2.out⟩
    · have g1 : (v == 1) = false := beq_eq_false_iff_ne.2 hv1
      have HZ : Hid (R = 40) := by
        show _ = _
        rw [← HR.out, if_neg]
        rintro (h1 | h1)
        · exact hv0 h1.1
        · exact hv1 h1.1
      clear HR
      go_enter Tryz.func119, Tryz.ntmps119
      go_wp2_with fail
      go_ret
      exact ⟨by rw [HZ.out]; rfl, below_alloc4 w _⟩
end
section
open Go.RowKit Go

end
section
open Go.RowKit Go

end
section
open Go.RowKit Go
/-- A link as a value. -/
def lkv (l : Lk) : Value := .agg #[.int .i64 l.v, .int .u64 (l.c : Nat), .int .u64 (l.h : Nat), .string (nstr l.d)]
end
section
open Go.RowKit Go

end
section
open Go.RowKit Go
/-- No link, as cells. -/
def zlk : Array Value := #[.int .i64 0, .int .u64 0, .int .u64 0, .string ⟨#[]⟩]
theorem info61 : (Tryz.prog.info? 53).map (·.size) = some 4 := by kernel_rfl
/-- What First has in hand: the result's block and the link's. -/
structure Fq (w wx : World) (R L : Nat) (lv : Array Value) : Prop where
  r : wx.heap[R]? = some (.cells zlk 53 (0, 0))
  l : wx.heap[L]? = some (.cells lv 53 (0, 0))
  b : Below w.heap.size w wx
  rb : w.heap.size ≤ R
  lb : w.heap.size ≤ L
  ne : R ≠ L
theorem Fq.below {w wx wy : World} {R L : Nat} {lv : Array Value} (h : Fq w wx R L lv) (hb : Below wx.heap.size wx wy) : Fq w wy R L lv :=
  ⟨(hb.block R (blk_lt h.r)).trans h.r, (hb.block L (blk_lt h.l)).trans h.l, h.b.trans (hb.mono h.b.size), h.rb, h.lb, h.ne⟩
theorem Fq.set {w wx : World} {R L : Nat} {lv : Array Value} (h : Fq w wx R L lv) (j : Nat) (v : Value) : Fq w (wx.setCell ⟨L, j, none⟩ v) R L (lv.setIfInBounds j v) := by
  have hk : Kp (fun q => q = L) wx (wx.setCell ⟨L, j, none⟩ v) := (Kp.refl _ _).setCell _ _ (fun _ => rfl)
  have lb := h.lb
  exact ⟨(hk.block R (blk_lt h.r) h.ne).trans h.r, blk_set j v h.l, h.b.trans (hk.below h.b.size (fun q e => by omega)), h.rb, h.lb, h.ne⟩
end
section
open Go.RowKit Go

end
section
open Go.RowKit Go

end
section
open Go.RowKit Go

end
section
open Go.RowKit Go
/-- Which stands ahead, where they differ. -/
def blt : List Nat → List Nat → Bool
  | x :: r, y :: q => if x = y then blt r q else decide (x < y)
  | _, _ => false
theorem blt_drop {x y : List Nat} {i : Nat} (hx : i < x.length) (hy : i < y.length) : blt (x.drop i) (y.drop i) = if x.getD i 0 = y.getD i 0 then blt (x.drop (i + 1)) (y.drop (i + 1)) else decide (x.getD i 0 < y.getD i 0) := by
  rw [List.drop_eq_getElem_cons hx, List.drop_eq_getElem_cons hy]
  simp [blt, List.getD, hx, hy]
theorem blt_end {x y : List Nat} {i : Nat} (h : ¬ i < x.length ∨ ¬ i < y.length) : blt (x.drop i) (y.drop i) = false := by
  rcases h with h | h
  · rw [List.drop_of_length_le (by omega)]
    rfl
  · rw [List.drop_of_length_le (l := y) (by omega)]
    cases x.drop i <;> rfl
/-- The bytes that Bytes tells. -/
def lb (v : Int) (c h : Nat) (s : ByteArray) : List Nat := if lok ⟨v, c, h, sl s⟩ then lbytes ⟨v, c, h, sl s⟩ else []
end
section
open Go.RowKit Go
theorem sl_nstr {xs : List Nat} (h : ∀ x ∈ xs, x < 256) : sl (nstr xs) = xs := by
  have key : ∀ l : List Nat, (∀ x ∈ l, x < 256) → (nstr l).data.toList.map UInt8.toNat = l := by
    intro l hl
    simp only [nstr, strOfNums_data, List.map_map]
    conv => rhs; rw [← List.map_id l]
    apply List.map_congr_left
    intro x hx
    have := hl x hx
    simp; omega
  exact key xs h
end
section
open Go.RowKit Go

end
section
open Go.RowKit Go
theorem nstr_sl (s : ByteArray) : nstr (sl s) = s := by
  obtain ⟨⟨l⟩⟩ := s
  have e : nstr (sl ⟨⟨l⟩⟩) = ⟨(nstr (sl ⟨⟨l⟩⟩)).data⟩ := rfl
  rw [e]
  congr 1
  apply Array.ext'
  simp only [nstr, sl, strOfNums_data, List.map_map]
  conv => rhs; rw [← List.map_id l]
  apply List.map_congr_left
  intro x _
  simp
theorem nstr_size {xs : List Nat} (h : ∀ x ∈ xs, x < 256) : (nstr xs).size = xs.length := by rw [← sl_len, sl_nstr h]
/-- A link's cells. -/
def lcs (l : Lk) : Array Value := #[.int .i64 l.v, .int .u64 (l.c : Nat), .int .u64 (l.h : Nat), .string (nstr l.d)]
/-- A link that the program can hold. -/
structure Lkb (l : Lk) : Prop where
  c : l.c < 18446744073709551616
  h : l.h < 18446744073709551616
  d : ∀ x ∈ l.d, x < 256
  n : l.d.length ≤ 9223372036854775807
theorem Lkb.size {l : Lk} (h : Lkb l) : (nstr l.d).size = l.d.length := nstr_size h.d
theorem lk_ext {a b : Lk} : a = b ↔ a.v = b.v ∧ a.c = b.c ∧ a.h = b.h ∧ a.d = b.d := by
  constructor
  · rintro rfl
    exact ⟨rfl, rfl, rfl, rfl⟩
  · obtain ⟨_, _, _, _⟩ := a
    obtain ⟨_, _, _, _⟩ := b
    rintro ⟨h1, h2, h3, h4⟩
    simp only at h1 h2 h3 h4
    subst h1 h2 h3 h4
    rfl
instance : DecidableEq Lk := fun a b => decidable_of_iff _ (lk_ext (a := a) (b := b)).symm
theorem eqlk (w : World) {a b : Lk} (ha : ∀ x ∈ a.d, x < 256) (hb : ∀ x ∈ b.d, x < 256) : (Op.equalIn 10000 53 (.agg (lcs a)) (.agg (lcs b))).run Tryz.prog w = .ok (decide (a = b)) w := by
  have u3 := Tryz.underlying3
  have u9 := Tryz.underlying9
  have u33 := Tryz.underlying50
  have a3 := Tryz.isAgg3
  have a9 := Tryz.isAgg9
  have a33 := Tryz.isAgg50
  have z3 := Tryz.sizeOf3
  have z9 := Tryz.sizeOf9
  have z33 := Tryz.sizeOf50
  have hS : Tryz.prog.underlying 53 = some (.struct (Tryz.prog.fieldsOf 53)) := by kernel_rfl
  have hp : Tryz.prog.stoodInHeld 53 = false := by kernel_rfl
  have hs : ((nstr a.d).toList == (nstr b.d).toList) = decide (a.d = b.d) := by
    by_cases h : a.d = b.d
    · rw [h]; simp
    · rw [beq_eq_false_iff_ne.2 (fun e => h (nstr_inj ha hb e))]; simp [h]
  have hr : decide (a = b) = (decide (a.v = b.v) && (decide (a.c = b.c) && (decide (a.h = b.h) && decide (a.d = b.d)))) := by
    rw [Bool.eq_iff_iff]
    simp [lk_ext]
  rw [hr]
  unfold lcs
  rw [show (10000 : Nat) = 9999 + 1 from rfl, run_equalIn_agg w 9999 53 _ _ hS hp]
  simp only [Program.fieldsOf, Tryz.underlying53]
  go_simp
  by_cases h1 : a.v = b.v <;> by_cases h2 : a.c = b.c <;> by_cases h3 : a.h = b.h <;> by_cases h4 : a.d = b.d <;> first | (simp [h1, h2, h3, h4]; done) | (simp [h1, h2, h3, h4]; omega)

theorem eqg : Tryz.prog.eqGuardType Tryz.prog.depth 53 = false := by kernel_rfl
/-- A whole struct by value, as a step of a region that draws. -/
theorem qstep_link {C : World → Prop} {ops : Array Oper} {o : Oper} {a : Act} {K : Act → Prop} {p : Operand} (hgd : Region.wanted o (yielded ops a.tmps) = true) (ho : o.op = .load 53 p) (g : Nat) (cs : Array Value)
    (hp : a.eval p = .pointer (some ⟨g, 0, none⟩)) (hn : cs.size = 4) (hc : ∀ w, C w → w.heap[g]? = some (.cells cs 53 (0, 0)))
    (h : K (a.put o.dst (.agg cs))) : if Region.wanted o (yielded ops a.tmps) = true then o.quiet Tryz.prog a C K else K (a.put o.dst undef) := by
  rw [if_pos hgd]
  refine ⟨.agg cs, fun w hC => ?_, h⟩
  have hr : (Instr.loadAt 53 (.pointer (some ⟨g, 0, none⟩))).run Tryz.prog w = .ok (.agg cs) w := by
    simp only [Instr.loadAt, Instr.sureAddr, Sem.run_bind, Sem.run_pure, Result.andThen]
    exact run_loadVar_row (P := Tryz.prog) w g 53 53 cs (0, 0) _ (hc w hC) Tryz.underlying53 rfl (by rw [hn]; exact info61)
  unfold Oper.quietAt execOp
  simp only [ho, Sem.run_bind, hp, hr, Result.andThen_ok]
  exact ⟨rfl, rfl⟩

theorem wpList_wanted {P : Program} {ops : Array Oper} {Q : Exit → Act → World → Prop} {a : Act} {w : World} {rest : List Oper} {o : Oper} (hw : Region.wanted o (yielded ops a.tmps) = true)
    (h : ∀ K : Act → World → Prop, (∀ a w, wpList P ops Q rest a w → K a w) → o.wp P a w K Q) : wpList P ops Q (o :: rest) a w := wpList_step fun K hK => by rw [if_pos hw]; exact h K hK
/-- Two links held against each other. -/
theorem exec_eqlk {o : Oper} {a : Act} {x y : Operand} {T2 : TypeId} {A B : Array Value} {r : Bool} {w : World} (ho : o.op = .binOp .eql 53 x y T2) (hx : a.eval x = .agg A) (hy : a.eval y = .agg B) (he : (Op.equalIn 10000 53 (.agg A) (.agg B)).run Tryz.prog w = .ok r w) : (execOp a.eval o).run Tryz.prog w = .ok (.value (.bool r)) w := by
  unfold execOp
  simp only [ho, Sem.run_bind, hx, hy, run_eqGuard_agg w _ 53 x y A B eqg, run_eql_struct, he, Result.andThen_ok]
  rfl
theorem exec_nelk {o : Oper} {a : Act} {x y : Operand} {T2 : TypeId} {A B : Array Value} {r : Bool} {w : World} (ho : o.op = .binOp .neq 53 x y T2) (hx : a.eval x = .agg A) (hy : a.eval y = .agg B) (he : (Op.equalIn 10000 53 (.agg A) (.agg B)).run Tryz.prog w = .ok r w) : (execOp a.eval o).run Tryz.prog w = .ok (.value (.bool (!r))) w := by
  unfold execOp
  simp only [ho, Sem.run_bind, hx, hy, run_eqGuard_agg w _ 53 x y A B eqg, run_neq_struct, he, Result.andThen_ok]
  rfl
theorem qstep_eqlk {C : World → Prop} {ops : Array Oper} {o : Oper} {a : Act} {K : Act → Prop} {x y : Operand} {T2 : TypeId} (hgd : Region.wanted o (yielded ops a.tmps) = true) (ho : o.op = .binOp .eql 53 x y T2) (A B : Array Value) (r : Bool)
    (hx : a.eval x = .agg A) (hy : a.eval y = .agg B) (he : ∀ w, C w → (Op.equalIn 10000 53 (.agg A) (.agg B)).run Tryz.prog w = .ok r w)
    (h : K (a.put o.dst (.bool r))) : if Region.wanted o (yielded ops a.tmps) = true then o.quiet Tryz.prog a C K else K (a.put o.dst undef) := by
  rw [if_pos hgd]
  refine ⟨.bool r, fun w hC => ?_, h⟩
  unfold Oper.quietAt
  rw [exec_eqlk ho hx hy (he w hC)]
  exact ⟨rfl, rfl⟩
theorem wpList_eqlk {ops : Array Oper} {rest : List Oper} {o : Oper} {a : Act} {Q : Exit → Act → World → Prop} {w : World} {x y : Operand} {T2 : TypeId} (hgd : Region.wanted o (yielded ops a.tmps) = true) (ho : o.op = .binOp .eql 53 x y T2) (A B : Array Value) (r : Bool)
    (hx : a.eval x = .agg A) (hy : a.eval y = .agg B) (he : (Op.equalIn 10000 53 (.agg A) (.agg B)).run Tryz.prog w = .ok r w) (h : wpList Tryz.prog ops Q rest (a.put o.dst (.bool r)) w) : wpList Tryz.prog ops Q (o :: rest) a w := by
  refine wpList_wanted hgd fun K hK => ?_
  unfold Oper.wp
  rw [exec_eqlk ho hx hy he]
  exact hK _ _ h
theorem wpList_nelk {ops : Array Oper} {rest : List Oper} {o : Oper} {a : Act} {Q : Exit → Act → World → Prop} {w : World} {x y : Operand} {T2 : TypeId} (hgd : Region.wanted o (yielded ops a.tmps) = true) (ho : o.op = .binOp .neq 53 x y T2) (A B : Array Value) (r : Bool)
    (hx : a.eval x = .agg A) (hy : a.eval y = .agg B) (he : (Op.equalIn 10000 53 (.agg A) (.agg B)).run Tryz.prog w = .ok r w) (h : wpList Tryz.prog ops Q rest (a.put o.dst (.bool (!r))) w) : wpList Tryz.prog ops Q (o :: rest) a w := by
  refine wpList_wanted hgd fun K hK => ?_
  unfold Oper.wp
  rw [exec_nelk ho hx hy he]
  exact hK _ _ h
set_option maxRecDepth 1000000 in
theorem old_any (w : World) (s : ByteArray) : Calls Tryz.prog 150 #[.string s] w fun e w' => e = .returned (.agg #[.int .i64 0, .int .u64 112, .int .u64 18, .string s]) ∧ Below w.heap.size w w' := by
  go_enter Tryz.func150, Tryz.ntmps150
  go_wp2_with fail
  exact bodyPost_ret (v := .agg #[.int .i64 0, .int .u64 112, .int .u64 18, .string s]) ((results_one (p := 2) (ty := 53) rfl _ _ _).trans (by go_simp; first | done | rfl)) rfl ⟨rfl, below_alloc4 w _⟩
set_option maxRecDepth 1000000 in
theorem fits4_any (w : World) (l : Lk) (hl : Lkb l) : Calls Tryz.prog 151 #[lkv l] w fun e w' => e = .returned (.bool (decide (okd l.h l.d))) ∧ Below w.heap.size w w' := by
  have hs := hl.size
  have hn := hl.n
  obtain ⟨v, c, h, d⟩ := l
  simp only at hs hn
  simp only [lkv]
  have HE : Hid (okd h d ↔ (h = 18 ∧ d.length = 32) ∨ (h = 0 ∧ d.length ≤ 64)) := Iff.rfl
  generalize hS : nstr d = S at *
  clear hS hl
  by_cases h1 : h = 18
  · subst h1
    have HR : Hid (decide (okd 18 d) = ((d.length : Int) == 32)) := by
      show _ = _
      rw [Bool.eq_iff_iff, decide_eq_true_iff, HE.out, beq_iff_eq]
      omega
    rw [HR.out]
    clear HE HR
    go_enter Tryz.func151, Tryz.ntmps151
    go_wp2_with fail
    go_ret
    exact ⟨rfl, below_alloc4 w _⟩
  · have g1 : ((h : Int) == 18) = false := beq_eq_false_iff_ne.2 (by omega)
    by_cases h2 : h = 0
    · subst h2
      have HR : Hid (decide (okd 0 d) = decide ((d.length : Int) ≤ 64)) := by
        show _ = _
        rw [Bool.eq_iff_iff, decide_eq_true_iff, HE.out, decide_eq_true_iff]
        omega
      rw [HR.out]
      clear HE HR
      go_enter Tryz.func151, Tryz.ntmps151
      go_wp2_with fail
      go_ret
      exact ⟨rfl, below_alloc4 w _⟩
    · have g2 : ((h : Int) == 0) = false := beq_eq_false_iff_ne.2 (by omega)
      have HR : Hid (decide (okd h d) = false) := by
        show _ = _
        rw [decide_eq_false_iff_not, HE.out]
        omega
      rw [HR.out]
      clear HE HR
      go_enter Tryz.func151, Tryz.ntmps151
      go_wp2_with fail
      go_ret
      exact ⟨rfl, below_alloc4 w _⟩
end
section
open Go.ChangeShapes Go.WideShapes Go.ChangeAt Go.RowKit Go.Deep Go.Joins Go
/-- A value, plainly: kind, flag, sign, number, a float's bits, text, bytes, link, keys, items. -/
inductive Tv where
  | mk (k : Int) (f g : Bool) (n b : Nat) (s : ByteArray) (y : List Nat) (l : Lk) (ks : List ByteArray) (is : List Tv)
def Tv.k : Tv → Int | .mk k _ _ _ _ _ _ _ _ _ => k
def Tv.f : Tv → Bool | .mk _ f _ _ _ _ _ _ _ _ => f
def Tv.g : Tv → Bool | .mk _ _ g _ _ _ _ _ _ _ => g
def Tv.n : Tv → Nat | .mk _ _ _ n _ _ _ _ _ _ => n
def Tv.b : Tv → Nat | .mk _ _ _ _ b _ _ _ _ _ => b
def Tv.s : Tv → ByteArray | .mk _ _ _ _ _ s _ _ _ _ => s
def Tv.y : Tv → List Nat | .mk _ _ _ _ _ _ y _ _ _ => y
def Tv.l : Tv → Lk | .mk _ _ _ _ _ _ _ l _ _ => l
def Tv.ks : Tv → List ByteArray | .mk _ _ _ _ _ _ _ _ ks _ => ks
def Tv.is : Tv → List Tv | .mk _ _ _ _ _ _ _ _ _ is => is
theorem Tv.is_lt {t u : Tv} (h : u ∈ t.is) : SizeOf.sizeOf u < SizeOf.sizeOf t := by
  obtain ⟨k, f, g, n, b, s, y, l, ks, is⟩ := t
  have h1 := List.sizeOf_lt_of_mem h
  simp only [Tv.is] at h1
  simp only [Tv.mk.sizeOf_spec]
  omega
/-- A value's cells. -/
def vcs (t : Tv) (vy vk vi : Value) : Array Value :=
  #[.int .i64 t.k, .bool t.f, .bool t.g, .int .u64 (t.n : Nat), .int .u64 (t.b : Nat), .string t.s, vy, .int .i64 t.l.v, .int .u64 (t.l.c : Nat), .int .u64 (t.l.h : Nat), .string (nstr t.l.d), vk, vi]
/-- A slice of strings, plainly. -/
structure SSl (w : World) (v : Value) (ks : List ByteArray) : Prop where
  form : ∃ a cap, v = .slice a ks.length cap ∧ (ks.length ≤ cap ∧ (a = none → cap = 0)) ∧ (ks = [] ∨ ∃ b off, a = some ⟨b, off, none⟩ ∧ ∀ j s, ks[j]? = some s → w.cell? ⟨b, off + j, none⟩ = some (.string s))
  max : ks.length ≤ 140737488351232
  size : ∀ s ∈ ks, s.size ≤ 140737488351232
theorem SSl.move {w w' : World} {v : Value} {ks : List ByteArray} (h : SSl w v ks) (hm : ∀ p u, w.cell? p = some u → w'.cell? p = some u) : SSl w' v ks := by
  obtain ⟨⟨a, c, hv, hn, hc⟩, h1, h2⟩ := h
  refine ⟨⟨a, c, hv, hn, ?_⟩, h1, h2⟩
  rcases hc with hc | ⟨b, off, ha, hc⟩
  · exact .inl hc
  · exact .inr ⟨b, off, ha, fun j s hj => hm _ _ (hc j s hj)⟩
/-- A value in memory: these cells read as this value. -/
inductive Tin (w : World) : Tv → Array Value → Prop
  | mk (t : Tv) (vy vk : Value) (a : Option Addr) (cap : Nat) (cs : Nat → Array Value) (hn : t.n < 18446744073709551616) (hb : t.b < 18446744073709551616) (hs : t.s.size ≤ 140737488351232) (hy : BSl w vy t.y) (hyl : t.y.length ≤ 140737488351232) (hl : Lkb t.l) (hld : t.l.d.length ≤ 140737488351232) (hk : SSl w vk t.ks)
      (hc : t.is.length ≤ cap ∧ (a = none → cap = 0)) (hm : t.is.length ≤ 140737488351232) (hi : ∀ i u, t.is[i]? = some u → Tin w u (cs i))
      (ha : t.is = [] ∨ ∃ b off, a = some ⟨b, off, none⟩ ∧ ∀ i, i < t.is.length → ∀ j u, (cs i)[j]? = some u → w.cell? ⟨b, off + i * 13 + j, none⟩ = some u) : Tin w t (vcs t vy vk (.slice a t.is.length cap))
theorem Tin.move {w w' : World} {t : Tv} {cs : Array Value} (h : Tin w t cs) (hm : ∀ p u, w.cell? p = some u → w'.cell? p = some u) : Tin w' t cs := by
  induction h with
  | mk t vy vk a cap cs hn hb hs hy hyl hl hld hk hc hmm hi ha ih =>
    refine Tin.mk t vy vk a cap cs hn hb hs (hy.move hm) hyl hl hld (hk.move hm) hc hmm ih ?_
    rcases ha with ha | ⟨b, off, e, ha⟩
    · exact .inl ha
    · exact .inr ⟨b, off, e, fun i hi j u hu => hm _ _ (ha i hi j u hu)⟩
/-- A slice of values. -/
structure VSl (w : World) (v : Value) (is : List Tv) : Prop where
  form : ∃ a cap, v = .slice a is.length cap ∧ (is.length ≤ cap ∧ (a = none → cap = 0)) ∧ (is = [] ∨ ∃ b off, a = some ⟨b, off, none⟩ ∧ ∀ i t, is[i]? = some t → ∃ cs, Tin w t cs ∧ ∀ j u, cs[j]? = some u → w.cell? ⟨b, off + i * 13 + j, none⟩ = some u)
  max : is.length ≤ 140737488351232
theorem VSl.move {w w' : World} {v : Value} {is : List Tv} (h : VSl w v is) (hm : ∀ p u, w.cell? p = some u → w'.cell? p = some u) : VSl w' v is := by
  obtain ⟨⟨a, c, hv, hn, hc⟩, h1⟩ := h
  refine ⟨⟨a, c, hv, hn, ?_⟩, h1⟩
  rcases hc with hc | ⟨b, off, ha, hc⟩
  · exact .inl hc
  · exact .inr ⟨b, off, ha, fun i t hi => by
      obtain ⟨cs, h1, h2⟩ := hc i t hi
      exact ⟨cs, h1.move hm, fun j u hu => hm _ _ (h2 j u hu)⟩⟩
/-- The bounds of a value's own fields. -/
structure Tbd (t : Tv) : Prop where
  n : t.n < 18446744073709551616
  b : t.b < 18446744073709551616
  s : t.s.size ≤ 140737488351232
  y : t.y.length ≤ 140737488351232
  l : Lkb t.l
  d : t.l.d.length ≤ 140737488351232
/-- A value's parts. -/
theorem Tin.parts {w : World} {t : Tv} {c : Array Value} (h : Tin w t c) : ∃ vy vk vi, c = vcs t vy vk vi ∧ BSl w vy t.y ∧ SSl w vk t.ks ∧ VSl w vi t.is ∧ Tbd t := by
  cases h with
  | mk _ vy vk a cap cs hn hb hs hy hyl hl hld hk hc hm hi ha =>
    refine ⟨vy, vk, _, rfl, hy, hk, ⟨⟨a, cap, rfl, hc, ?_⟩, hm⟩, ⟨hn, hb, hs, hyl, hl, hld⟩⟩
    rcases ha with ha | ⟨b, off, e, ha⟩
    · exact .inl ha
    · refine .inr ⟨b, off, e, fun i t' hi' => ⟨cs i, hi i t' hi', fun j u hu => ha i ?_ j u hu⟩⟩
      exact (List.getElem?_eq_some_iff.1 hi').1
theorem Tin.of {w : World} {t : Tv} {vy vk vi : Value} (hy : BSl w vy t.y) (hk : SSl w vk t.ks) (hv : VSl w vi t.is) (h : Tbd t) : Tin w t (vcs t vy vk vi) := by
  obtain ⟨hn, hb, hs, hyl, hl, hld⟩ := h
  obtain ⟨⟨a, cap, rfl, hc, ha⟩, hm⟩ := hv
  rcases ha with ha | ⟨b, off, e, ha⟩
  · exact Tin.mk t vy vk a cap (fun _ => #[]) hn hb hs hy hyl hl hld hk hc hm (fun i u hu => by rw [ha] at hu; simp at hu) (.inl ha)
  · have hx : ∀ i, ∃ cs : Array Value, ∀ t', t.is[i]? = some t' → Tin w t' cs ∧ ∀ j u, cs[j]? = some u → w.cell? ⟨b, off + i * 13 + j, none⟩ = some u := fun i => by
      cases hi : t.is[i]? with
      | none => exact ⟨#[], fun t' h => by cases h⟩
      | some t' =>
        obtain ⟨cs, h1, h2⟩ := ha i t' hi
        exact ⟨cs, fun t'' h => by injection h with h; subst h; exact ⟨h1, h2⟩⟩
    refine Tin.mk t vy vk a cap (fun i => Classical.choose (hx i)) hn hb hs hy hyl hl hld hk hc hm (fun i u hu => (Classical.choose_spec (hx i) u hu).1) (.inr ⟨b, off, e, fun i hi j u hu => ?_⟩)
    exact (Classical.choose_spec (hx i) t.is[i] (List.getElem?_eq_getElem hi)).2 j u hu
end
section
open Go.RowKit Go
mutual
/-- How many parts a value has. -/
def tmuch : Tv → Nat
  | .mk _ _ _ _ _ s y l ks is => 1 + ks.length + y.length / 64 + s.size / 64 + l.d.length / 64 + (ks.map fun k => k.size / 64).sum + tmuchL is
def tmuchL : List Tv → Nat
  | [] => 0
  | t :: r => tmuch t + tmuchL r
end
mutual
/-- A value's depth. -/
def tdepth : Tv → Nat
  | .mk k _ _ _ _ _ _ _ _ is => if k = 8 ∨ k = 9 then tdepthL is + 1 else 0
def tdepthL : List Tv → Nat
  | [] => 0
  | t :: r => max (tdepth t) (tdepthL r)
end
theorem tmuchL_app : ∀ (a b : List Tv), tmuchL (a ++ b) = tmuchL a + tmuchL b
  | [], b => by simp [tmuchL]
  | t :: a, b => by rw [List.cons_append, tmuchL, tmuchL, tmuchL_app a b]; omega
theorem tdepthL_app : ∀ (a b : List Tv), tdepthL (a ++ b) = max (tdepthL a) (tdepthL b)
  | [], b => by simp [tdepthL]
  | t :: a, b => by rw [List.cons_append, tdepthL, tdepthL, tdepthL_app a b]; omega
theorem tdepthL_mem : ∀ {l : List Tv} {t : Tv}, t ∈ l → tdepth t ≤ tdepthL l
  | [], _, h => by cases h
  | u :: r, t, h => by
    rw [tdepthL]
    rcases List.mem_cons.1 h with h | h
    · subst h
      omega
    · have := tdepthL_mem h
      omega
theorem tdepth_eq (t : Tv) : tdepth t = if t.k = 8 ∨ t.k = 9 then tdepthL t.is + 1 else 0 := by
  obtain ⟨k, f, g, n, b, s, y, l, ks, is⟩ := t
  rw [tdepth]
  rfl
theorem tmuch_eq (t : Tv) : tmuch t = 1 + t.ks.length + t.y.length / 64 + t.s.size / 64 + t.l.d.length / 64 + (t.ks.map fun k => k.size / 64).sum + tmuchL t.is := by
  obtain ⟨k, f, g, n, b, s, y, l, ks, is⟩ := t
  rw [tmuch]
  rfl
theorem takeT (l : List Tv) (k : Nat) (t : Tv) (h : l[k]? = some t) : l.take (k + 1) = l.take k ++ [t] := by
  have hk := (List.getElem?_eq_some_iff.1 h).1
  rw [List.take_succ_eq_append_getElem hk]
  rw [List.getElem?_eq_getElem hk] at h
  injection h with h
  rw [h]
theorem infoV : (Tryz.prog.info? 55).map (·.size) = some 13 := by kernel_rfl
/-- A value somewhere in a block. -/
theorem load_val {w : World} (g o : Nat) (cs : Array Value) (hn : cs.size = 13) (hc : ∀ j u, cs[j]? = some u → w.cell? ⟨g, o + j, none⟩ = some u) : (Instr.loadAt 55 (.pointer (some ⟨g, o, none⟩))).run Tryz.prog w = .ok (.agg cs) w := by
  have hl := run_loadCells_list (P := Tryz.prog) (w := w) ⟨g, o, none⟩ cs.toList (fun j v hv => by rw [addr_add]; exact hc j v (by simpa using hv))
  have hi := infoV
  simp only [Instr.loadAt, Instr.sureAddr, Sem.run_bind, Sem.run_pure, Result.andThen]
  cases hq : Tryz.prog.info? 55 with
  | none => simp [hq] at hi
  | some i =>
    have hs : i.size = 13 := by simpa [hq] using hi
    have hn2 : cs.toList.length = 13 := by simpa using hn
    rw [hn2] at hl
    have ha : (isAgg 55).run Tryz.prog w = .ok true w := by
      unfold isAgg
      rw [Sem.run_bind, run_underlying Tryz.underlying55 w]
      simp
    simp [loadVar, ha, sizeOf, typeInfo, hq, hs, hl]
theorem wpList_valAt {ops : Array Oper} {rest : List Oper} {o : Oper} {a : Act} {Q : Exit → Act → World → Prop} {w : World} {p : Operand} (hgd : Region.wanted o (yielded ops a.tmps) = true) (ho : o.op = .load 55 p) (g off : Nat) (cs : Array Value)
    (hp : a.eval p = .pointer (some ⟨g, off, none⟩)) (hn : cs.size = 13) (hc : ∀ j u, cs[j]? = some u → w.cell? ⟨g, off + j, none⟩ = some u)
    (h : wpList Tryz.prog ops Q rest (a.put o.dst (.agg cs)) w) : wpList Tryz.prog ops Q (o :: rest) a w := by
  refine wpList_wanted hgd fun K hK => ?_
  unfold Oper.wp execOp
  simp only [ho, Sem.run_bind, hp, load_val g off cs hn hc, Result.andThen_ok]
  exact hK _ _ h

set_option maxRecDepth 1000000 in
set_option maxHeartbeats 1000000 in
theorem rdepth_step (N : Nat) (ih : ∀ t : Tv, SizeOf.sizeOf t < N → ∀ (w : World) (cs : Array Value), Tin w t cs → tdepth t ≤ 100000 → Calls Tryz.prog 8 #[.agg cs] w fun e w' => e = .returned (.int .i64 (tdepth t : Nat)) ∧ Below w.heap.size w w')
    (t : Tv) (hN : SizeOf.sizeOf t = N) (w : World) (cs : Array Value) (ht : Tin w t cs) (hd : tdepth t ≤ 100000) : Calls Tryz.prog 8 #[.agg cs] w fun e w' => e = .returned (.int .i64 (tdepth t : Nat)) ∧ Below w.heap.size w w' := by
  have HIH := hide ih
  clear ih
  obtain ⟨vy, vk, vi, rfl, hy, hk, hv, hb⟩ := ht.parts
  have HV := hide hv
  have HDE := hide (tdepth_eq t)
  have HNN := hide hN
  obtain ⟨⟨a, cap, rfl, hcap, hform⟩, hmax⟩ := hv
  have HF := hide hform
  clear hy hk hb ht hcap hform hN
  unfold vcs
  have HT0 : Hid ((w.alloc (.cells #[.int .i64 t.k, .bool t.f, .bool t.g, .int .u64 (t.n : Nat), .int .u64 (t.b : Nat), .string t.s, vy, .int .i64 t.l.v, .int .u64 (t.l.c : Nat), .int .u64 (t.l.h : Nat), .string (nstr t.l.d), vk, .slice a t.is.length cap] 55)).heap[w.heap.size]? = some (.cells (vcs t vy vk (.slice a t.is.length cap)) 55 (0, 0))) := heap_alloc_new w _
  have HB0 := hide (below_alloc4 w (.cells #[.int .i64 t.k, .bool t.f, .bool t.g, .int .u64 (t.n : Nat), .int .u64 (t.b : Nat), .string t.s, vy, .int .i64 t.l.v, .int .u64 (t.l.c : Nat), .int .u64 (t.l.h : Nat), .string (nstr t.l.d), vk, .slice a t.is.length cap] 55))
  go_enter Tryz.func8, Tryz.ntmps8
  by_cases hk8 : t.k = 8 ∨ t.k = 9
  · rw [if_pos hk8] at HDE
    have HDL : Hid (tdepthL t.is ≤ 99999) := by have := HDE.out; show _ ≤ _; omega
    have HKC : Hid (∃ c8 : Bool, (t.k != 8) = c8 ∧ (c8 = true → (t.k != 9) = false)) := by
      rcases hk8 with h | h
      · exact ⟨false, by rw [h]; rfl, fun h => by cases h⟩
      · exact ⟨true, by rw [h]; rfl, fun _ => by rw [h]; rfl⟩
    obtain ⟨c8, g8, g9⟩ := HKC.out
    clear HKC hk8
    have HQ0 : Hid (Below w.heap.size w (w.alloc (.cells #[.int .i64 t.k, .bool t.f, .bool t.g, .int .u64 (t.n : Nat), .int .u64 (t.b : Nat), .string t.s, vy, .int .i64 t.l.v, .int .u64 (t.l.c : Nat), .int .u64 (t.l.h : Nat), .string (nstr t.l.d), vk, .slice a t.is.length cap] 55)) ∧ (w.alloc (.cells #[.int .i64 t.k, .bool t.f, .bool t.g, .int .u64 (t.n : Nat), .int .u64 (t.b : Nat), .string t.s, vy, .int .i64 t.l.v, .int .u64 (t.l.c : Nat), .int .u64 (t.l.h : Nat), .string (nstr t.l.d), vk, .slice a t.is.length cap] 55)).heap[w.heap.size]? = some (.cells (vcs t vy vk (.slice a t.is.length cap)) 55 (0, 0))) := ⟨HB0.out, HT0.out⟩
    clear HT0 HB0
    cases c8
    case' true => have g9 := g9 rfl
    all_goals (
      go_wp2_with fail
      generalize w.alloc (.cells #[.int .i64 t.k, .bool t.f, .bool t.g, .int .u64 (t.n : Nat), .int .u64 (t.b : Nat), .string t.s, vy, .int .i64 t.l.v, .int .u64 (t.l.c : Nat), .int .u64 (t.l.h : Nat), .string (nstr t.l.d), vk, .slice a t.is.length cap] 55) = w0 at *
      go_loopw [3, 4] (fun mm ii wx => ∃ i m : Nat, i ≤ t.is.length ∧ m ≤ 99999 ∧ mm = .int .i64 (m : Nat) ∧ ii = .int .i64 (i : Nat) ∧ Hid (m = tdepthL (t.is.take i)) ∧ Hid (Below w.heap.size w wx ∧ wx.heap[w.heap.size]? = some (.cells (vcs t vy vk (.slice a t.is.length cap)) 55 (0, 0)))) (fun _ ii _ => t.is.length - (intOf ii).toNat)
      case atStart => exact ⟨0, 0, by omega, by omega, rfl, rfl, by show _ = _; simp [tdepthL], HQ0⟩
      case round => as_aux_lemma =>
        rename World => wz
        obtain ⟨i, m, hi, hm, rfl, rfl, HM, HQ⟩ := hrel
        clear HQ0
        have q12 : wz.cell? ⟨w.heap.size, 12, none⟩ = some (.slice a t.is.length cap) := blk_cell HQ.out.2 rfl
        by_cases hlt : i < t.is.length
        · have g1 : (i : Int) < (t.is.length : Int) := by omega
          obtain ⟨u, hu⟩ : ∃ u, t.is[i]? = some u := ⟨t.is[i], List.getElem?_eq_getElem hlt⟩
          obtain ⟨b, off, rfl, hcells⟩ := HF.out.resolve_left (fun h => by rw [h] at hlt; simp at hlt)
          obtain ⟨cu, hcu, hcc⟩ := hcells i u hu
          have HCC : Hid (∀ j v, cu[j]? = some v → wz.cell? ⟨b, off + i * 13 + j, none⟩ = some v) := fun j v hv => keep_below HQ.out.1 _ _ (hcc j v hv)
          have hmem := List.mem_of_getElem? hu
          have HSZ : Hid (cu.size = 13) := by
            obtain ⟨y1, y2, y3, e, _⟩ := hcu.parts
            show _ = _
            rw [e]
            rfl
          have hdu : tdepth u ≤ 99999 := Nat.le_trans (tdepthL_mem hmem) HDL.out
          have HCA := hide (HIH.out u (by rw [← HNN.out]; exact Tv.is_lt hmem) wz cu (hcu.move (keep_below HQ.out.1)) (by omega))
          have HTK := hide (takeT _ _ _ hu)
          have HM2 : Hid (tdepthL (t.is.take (i + 1)) = max m (tdepth u)) := by
            show _ = _
            rw [HTK.out, tdepthL_app, ← HM.out]
            simp [tdepthL]
          clear hu hcells hcu hcc hmem HTK
          generalize tdepth u = du at *
          go_wp2_with (refine wpList_valAt rfl rfl b (off + i * 13) cu rfl HSZ.out HCC.out ?_)
          refine HCA.out.mono ?_
          rintro e w5 ⟨rfl, hb5⟩
          have HQ5 : Hid (Below w.heap.size w w5 ∧ w5.heap[w.heap.size]? = some (.cells (vcs t vy vk (.slice (some ⟨b, off, none⟩) t.is.length cap)) 55 (0, 0))) := ⟨HQ.out.1.trans (hb5.mono HQ.out.1.size), (hb5.block _ (blk_lt HQ.out.2)).trans HQ.out.2⟩
          clear hb5 HQ q12 HCC HCA
          by_cases hgt : m < du
          · have g2 : (m : Int) < (du : Int) := by omega
            have HM3 : Hid (du = tdepthL (t.is.take (i + 1))) := by have := HM2.out; show _ = _; omega
            go_wp2_with fail
            go_roundw
            case rel => exact ⟨i + 1, du, by omega, by omega, rfl, by go_num, HM3, HQ5⟩
            case measure => simp [intOf]; omega
          · have g2 : ¬ (m : Int) < (du : Int) := by omega
            have HM3 : Hid (m = tdepthL (t.is.take (i + 1))) := by have := HM2.out; show _ = _; omega
            go_wp2_with fail
            go_roundw
            case rel => exact ⟨i + 1, m, by omega, by omega, rfl, by go_num, HM3, HQ5⟩
            case measure => simp [intOf]; omega
        · have g1 : ¬ (i : Int) < (t.is.length : Int) := by omega
          have HM3 : Hid (tdepth t = m + 1) := by
            show _ = _
            rw [HDE.out, HM.out, List.take_of_length_le (by omega)]
          go_wp2_with fail
          go_ret
          exact ⟨by rw [HM3.out]; rfl, HQ.out.1⟩)
  · as_aux_lemma =>
    rw [if_neg hk8] at HDE
    have g1 : (t.k != 8) = true := bne_iff_ne.2 (fun h => hk8 (.inl h))
    have g2 : (t.k != 9) = true := bne_iff_ne.2 (fun h => hk8 (.inr h))
    clear hk8
    go_wp2_with fail
    go_ret
    exact ⟨by rw [HDE.out]; rfl, HB0.out⟩
theorem rdepth_any (t : Tv) (w : World) (cs : Array Value) (ht : Tin w t cs) (hd : tdepth t ≤ 100000) : Calls Tryz.prog 8 #[.agg cs] w fun e w' => e = .returned (.int .i64 (tdepth t : Nat)) ∧ Below w.heap.size w w' := by
  have h : ∀ N, ∀ t : Tv, SizeOf.sizeOf t = N → ∀ (w : World) (cs : Array Value), Tin w t cs → tdepth t ≤ 100000 → Calls Tryz.prog 8 #[.agg cs] w fun e w' => e = .returned (.int .i64 (tdepth t : Nat)) ∧ Below w.heap.size w w' := by
    intro N
    induction N using Nat.strongRecOn with
    | _ N ih => exact fun t hN w cs ht hd => rdepth_step N (fun u hu => ih _ hu u rfl) t hN w cs ht hd
  exact h _ t rfl w cs ht hd
end
section
open Go.RowKit Go
/-- What Much tells. -/
structure Muc (is : List Tv) (most r : Nat) : Prop where
  le : r ≤ most + 1125899906842624
  eq : r ≤ most → r = tmuchL is
  gt : most < r → most < tmuchL is
theorem sum_take_le : ∀ (l : List Nat) (k : Nat), (l.take k).sum ≤ l.sum
  | [], k => by simp
  | x :: l, 0 => by simp
  | x :: l, k + 1 => by
    have := sum_take_le l k
    simp only [List.take_succ_cons, List.sum_cons]
    omega
theorem sum_take_succ (l : List Nat) (k : Nat) (h : k < l.length) : (l.take (k + 1)).sum = (l.take k).sum + l.getD k 0 := by
  rw [List.take_succ_eq_append_getElem h, List.sum_append, List.getD_eq_getElem?_getD, List.getElem?_eq_getElem h]
  simp
theorem tmuchL_take_le (l : List Tv) (i : Nat) : tmuchL (l.take i) ≤ tmuchL l := by
  have h := tmuchL_app (l.take i) (l.drop i)
  rw [List.take_append_drop] at h
  omega
set_option maxRecDepth 1000000 in
set_option maxHeartbeats 2000000 in
theorem much_step (N : Nat) (ih : ∀ is : List Tv, SizeOf.sizeOf is < N → ∀ (w : World) (v : Value) (most : Nat), VSl w v is → most ≤ 100000 → Calls Tryz.prog 4 #[v, .int .i64 (most : Nat)] w fun e w' => ∃ r : Nat, e = .returned (.int .i64 (r : Nat)) ∧ Muc is most r ∧ Below w.heap.size w w')
    (is : List Tv) (hN : SizeOf.sizeOf is = N) (w : World) (v : Value) (most : Nat) (hv : VSl w v is) (hm : most ≤ 100000) : Calls Tryz.prog 4 #[v, .int .i64 (most : Nat)] w fun e w' => ∃ r : Nat, e = .returned (.int .i64 (r : Nat)) ∧ Muc is most r ∧ Below w.heap.size w w' := by
  have HIH := hide ih
  have HNN := hide hN
  obtain ⟨⟨a, cap, rfl, hcap, hform⟩, hmax⟩ := hv
  have HF := hide hform
  clear ih hN hcap hform
  go_enter Tryz.func4, Tryz.ntmps4
  go_wp2_with fail
  go_loopw [5, 6] (fun nn ii wx => ∃ i n : Nat, i ≤ is.length ∧ nn = .int .i64 (n : Nat) ∧ ii = .int .i64 (i : Nat) ∧ Hid (Muc (is.take i) most n) ∧ Hid (Below w.heap.size w wx)) (fun _ ii _ => is.length - (intOf ii).toNat)
  case atStart => exact ⟨0, 0, by omega, rfl, rfl, ⟨by omega, fun _ => by simp [tmuchL], fun h => by omega⟩, Below.refl _ _⟩
  case round =>
    obtain ⟨i, n, hi, rfl, rfl, HM, HBw⟩ := hrel
    by_cases hlt : i < is.length
    · have g1 : (i : Int) < (is.length : Int) := by omega
      by_cases hle : n ≤ most
      · have g2 : (n : Int) ≤ (most : Int) := by omega
        obtain ⟨u, hu⟩ : ∃ u, is[i]? = some u := ⟨is[i], List.getElem?_eq_getElem hlt⟩
        obtain ⟨b, off, rfl, hcells⟩ := HF.out.resolve_left (fun h => by rw [h] at hlt; simp at hlt)
        obtain ⟨cu, hcu, hcc⟩ := hcells i u hu
        have HU := hide hcu
        obtain ⟨vy, vk, vi, rfl, hy, hk, hv, hbd⟩ := hcu.parts
        have HTK := hide (takeT _ _ _ hu)
        have HME := hide (tmuch_eq u)
        have HMT : Hid (tmuchL (is.take (i + 1)) = n + tmuch u) := by
          show _ = _
          rw [HTK.out, tmuchL_app, ← HM.out.eq hle]
          simp [tmuchL]
        have hmem := List.mem_of_getElem? hu
        have HLT : Hid (SizeOf.sizeOf u.is < N) := by
          show _ < _
          rw [← HNN.out]
          have h1 := List.sizeOf_lt_of_mem hmem
          obtain ⟨k, f, g, n, b, s, y, l, ks, is'⟩ := u
          simp only [Tv.is, Tv.mk.sizeOf_spec] at h1 ⊢
          omega
        have HVI := hide hv
        have HKS := hide hk
        obtain ⟨⟨ay, cy, rfl, _, _⟩, _, _⟩ := hy
        obtain ⟨⟨ak, ck, rfl, _, hkform⟩, hkmax, hksize⟩ := hk
        obtain ⟨⟨ai, ci, rfl, _, _⟩, _⟩ := hv
        have HKF := hide hkform
        have HCX : Hid (∀ wx, Below w.heap.size w wx → wx.cell? ⟨b, off + i * 13 + 11, none⟩ = some (.slice ak u.ks.length ck) ∧ wx.cell? ⟨b, off + i * 13 + 6, none⟩ = some (.slice ay u.y.length cy) ∧ wx.cell? ⟨b, off + i * 13 + 5, none⟩ = some (.string u.s) ∧ wx.cell? ⟨b, off + i * 13 + 10, none⟩ = some (.string (nstr u.l.d)) ∧ wx.cell? ⟨b, off + i * 13 + 12, none⟩ = some (.slice ai u.is.length ci)) := fun wx hb => ⟨keep_below hb _ _ (hcc 11 _ rfl), keep_below hb _ _ (hcc 6 _ rfl), keep_below hb _ _ (hcc 5 _ rfl), keep_below hb _ _ (hcc 10 _ rfl), keep_below hb _ _ (hcc 12 _ rfl)⟩
        have hds : (nstr u.l.d).size = u.l.d.length := nstr_size hbd.l.d
        have hbs := hbd.s
        have hby := hbd.y
        have hbl := hbd.d
        obtain ⟨c11, c6, c5, c10, _⟩ := HCX.out _ HBw.out
        clear hcells hcc hu hcu hbd hkform hmem HTK
        have ey : (u.y.length : Int) / 64 = ((u.y.length / 64 : Nat) : Int) := by omega
        have es : (u.s.size : Int) / 64 = ((u.s.size / 64 : Nat) : Int) := by omega
        have ed : (u.l.d.length : Int) / 64 = ((u.l.d.length / 64 : Nat) : Int) := by omega
        have hqy : u.y.length / 64 ≤ 2199023255552 := by omega
        have hqs : u.s.size / 64 ≤ 2199023255552 := by omega
        have hqd : u.l.d.length / 64 ≤ 2199023255552 := by omega
        generalize hqy' : u.y.length / 64 = qy at *
        generalize hqs' : u.s.size / 64 = qs at *
        generalize hqd' : u.l.d.length / 64 = qd at *
        clear hqy' hqs' hqd'
        go_wp2_with fail
        go_region
        go_wp2_with fail
        have HB1 : Hid (Below w.heap.size w wr.drew) := HBw.out.drew
        have HSL : Hid ((u.ks.map fun k => k.size / 64).length = u.ks.length) := List.length_map ..
        have HSS : Hid (∀ k s, u.ks[k]? = some s → (u.ks.map fun k => k.size / 64).getD k 0 = s.size / 64) := fun k s h => by
          rw [List.getD_eq_getElem?_getD, List.getElem?_map, h]
          rfl
        generalize (u.ks.map fun k => k.size / 64) = zs at *
        clear c11 c6 c5 c10 HBw hds ey es ed
        have hn1 : (n : Int) + 1 + (u.ks.length : Int) + (qy : Int) + (qs : Int) + (qd : Int) = ((n + 1 + u.ks.length + qy + qs + qd : Nat) : Int) := by omega
        rw [hn1]
        have hN1b : n + 1 + u.ks.length + qy + qs + qd ≤ most + 562949953421312 := by omega
        have HN1 : Hid (n + 1 + u.ks.length + qy + qs + qd = n + tmuch u - zs.sum - tmuchL u.is ∧ zs.sum + tmuchL u.is ≤ tmuch u) := by
          have := HME.out
          exact ⟨by omega, by omega⟩
        clear hn1
        generalize n + 1 + u.ks.length + qy + qs + qd = N1 at *
        go_loopw [5, 7] (fun nn kk wx => ∃ k m : Nat, k ≤ u.ks.length ∧ m ≤ most + 562949953421312 ∧ nn = .int .i64 (m : Nat) ∧ kk = .int .i64 (k : Nat) ∧ Hid (m = N1 + (zs.take k).sum) ∧ Hid (Below w.heap.size w wx)) (fun _ kk _ => u.ks.length - (intOf kk).toNat)
        case atStart => exact ⟨0, N1, by omega, hN1b, rfl, rfl, by show _ = _; simp, HB1⟩
        case round => as_aux_lemma =>
          rename World => wz
          obtain ⟨k, m, hk, hmb, rfl, rfl, HMS, HBz⟩ := hrel
          clear HB1
          obtain ⟨c11, _, _, _, c12⟩ := HCX.out _ HBz.out
          have HEND : Hid ((k = u.ks.length ∨ most < m) → ∃ wy : World, wy = wz) := fun _ => ⟨wz, rfl⟩
          clear HEND
          by_cases hkl : k < u.ks.length
          · have g3 : (k : Int) < (u.ks.length : Int) := by omega
            by_cases hml : m ≤ most
            · have g4 : (m : Int) ≤ (most : Int) := by omega
              obtain ⟨s, hs⟩ : ∃ s, u.ks[k]? = some s := ⟨u.ks[k], List.getElem?_eq_getElem hkl⟩
              obtain ⟨bk, ok, rfl, hkc⟩ := HKF.out.resolve_left (fun h => by rw [h] at hkl; simp at hkl)
              have ck := keep_below HBz.out _ _ (hkc k s hs)
              have hss := hksize s (List.mem_of_getElem? hs)
              have HSU : Hid ((zs.take (k + 1)).sum = (zs.take k).sum + s.size / 64) := by
                show _ = _
                rw [sum_take_succ zs k (by rw [HSL.out]; exact hkl), HSS.out k s hs]
              have eq : (s.size : Int) / 64 = ((s.size / 64 : Nat) : Int) := by omega
              have hqb : s.size / 64 ≤ 2199023255552 := by omega
              clear hs hkc hksize
              generalize s.size / 64 = q at *
              have HM2 : Hid (m + q = N1 + (zs.take (k + 1)).sum) := by have := HMS.out; have := HSU.out; show _ = _; omega
              go_wp2_with fail
              go_roundw
              case rel => exact ⟨k + 1, m + q, by omega, by omega, by go_num, by go_num, HM2, HBz⟩
              case measure => simp [intOf]; omega
            · have g4 : ¬ (m : Int) ≤ (most : Int) := by omega
              have HMU : Hid (Muc (is.take (i + 1)) most m) := by
                have h1 := HMS.out
                have h2 := HN1.out
                have h3 := HMT.out
                have h4 := sum_take_le zs k
                exact ⟨by omega, fun h => by omega, fun _ => by omega⟩
              go_wp2_with fail
              go_roundw
              case rel => exact ⟨i + 1, m, by omega, rfl, by go_num, HMU, HBz⟩
              case measure => simp [intOf]; omega
          · have g3 : ¬ (k : Int) < (u.ks.length : Int) := by omega
            have HFU : Hid (m = N1 + zs.sum) := by
              have h := HMS.out
              rw [List.take_of_length_le (by rw [HSL.out]; omega)] at h
              exact h
            by_cases hml : m ≤ most
            · have g4 : (m : Int) ≤ (most : Int) := by omega
              have e1 : (most : Int) - (m : Int) = ((most - m : Nat) : Int) := by omega
              have HCA := hide (HIH.out u.is HLT.out wz _ (most - m) (HVI.out.move (keep_below HBz.out)) (by omega))
              have HSUM : Hid (∀ r, Muc u.is (most - m) r → Muc (is.take (i + 1)) most (m + r)) := fun r hr => by
                have h1 := HFU.out
                have h2 := HN1.out
                have h3 := HMT.out
                have h4 := hr.le
                have h5 := hr.eq
                have h6 := hr.gt
                exact ⟨by omega, fun h => by have := h5 (by omega); omega, fun h => by have := h6 (by omega); omega⟩
              have HRL : Hid (∀ r, Muc u.is (most - m) r → r ≤ 1125899906942624) := fun r hr => by have := hr.le; show _ ≤ _; omega
              generalize most - m = rest at *
              go_wp2_with fail
              refine HCA.out.mono ?_
              rintro e w5 ⟨r, rfl, hmu, hb5⟩
              have HB5 : Hid (Below w.heap.size w w5) := HBz.out.trans (hb5.mono HBz.out.size)
              have HM5 := hide (HSUM.out r hmu)
              have hr5 := HRL.out r hmu
              clear hb5 hmu HCA HSUM HRL
              go_wp2_with fail
              go_roundw
              case rel => exact ⟨i + 1, m + r, by omega, by go_num, by go_num, HM5, HB5⟩
              case measure => simp [intOf]; omega
            · have g4 : ¬ (m : Int) ≤ (most : Int) := by omega
              have HMU : Hid (Muc (is.take (i + 1)) most m) := by
                have h1 := HFU.out
                have h2 := HN1.out
                have h3 := HMT.out
                exact ⟨by omega, fun h => by omega, fun _ => by omega⟩
              go_wp2_with fail
              go_roundw
              case rel => exact ⟨i + 1, m, by omega, rfl, by go_num, HMU, HBz⟩
              case measure => simp [intOf]; omega
      · as_aux_lemma =>
        have g2 : ¬ (n : Int) ≤ (most : Int) := by omega
        have HMU : Hid (Muc is most n) := by
          have h1 := HM.out.le
          have h2 := HM.out.gt
          have h3 := tmuchL_take_le is i
          exact ⟨by omega, fun h => by omega, fun h => by have := h2 h; omega⟩
        go_wp2_with fail
        go_ret
        exact ⟨n, rfl, HMU.out, HBw.out⟩
    · as_aux_lemma =>
      have g1 : ¬ (i : Int) < (is.length : Int) := by omega
      have HMU : Hid (Muc is most n) := by
        have h := HM.out
        rw [List.take_of_length_le (by omega)] at h
        exact h
      go_wp2_with fail
      go_ret
      exact ⟨n, rfl, HMU.out, HBw.out⟩
theorem much_any (is : List Tv) (w : World) (v : Value) (most : Nat) (hv : VSl w v is) (hm : most ≤ 100000) : Calls Tryz.prog 4 #[v, .int .i64 (most : Nat)] w fun e w' => ∃ r : Nat, e = .returned (.int .i64 (r : Nat)) ∧ Muc is most r ∧ Below w.heap.size w w' := by
  have h : ∀ N, ∀ is : List Tv, SizeOf.sizeOf is = N → ∀ (w : World) (v : Value) (most : Nat), VSl w v is → most ≤ 100000 → Calls Tryz.prog 4 #[v, .int .i64 (most : Nat)] w fun e w' => ∃ r : Nat, e = .returned (.int .i64 (r : Nat)) ∧ Muc is most r ∧ Below w.heap.size w w' := by
    intro N
    induction N using Nat.strongRecOn with
    | _ N ih => exact fun is hN w v most hv hm => much_step N (fun u hu => ih _ hu u rfl) is hN w v most hv hm
  exact h _ is rfl w v most hv hm
end
section
open Go.RowKit Go
/-- Texts as cells. -/
def sv (ks : List ByteArray) : List Value := ks.map fun s => .string s
theorem sv_len (ks : List ByteArray) : (sv ks).length = ks.length := by simp [sv]
theorem sv_app (a b : List ByteArray) : sv (a ++ b) = sv a ++ sv b := by simp [sv]
theorem sv_get {ks : List ByteArray} {j : Nat} {s : ByteArray} (h : ks[j]? = some s) : (sv ks)[j]? = some (.string s) := by simp [sv, h]
theorem sv_one (ks : List ByteArray) : ∀ u ∈ sv ks, u.oneCell' = true := by
  intro u hu
  simp only [sv, List.mem_map] at hu
  obtain ⟨_, _, rfl⟩ := hu
  rfl
theorem info9_ex : ∃ i, Tryz.prog.info? 9 = some i ∧ i.zero = some (.string ⟨#[]⟩) ∧ i.size = 1 ∧ i.bytes = 16 := by
  have h : (Tryz.prog.info? 9).map (fun i => (i.zero, i.size, i.bytes)) = some (some (.string ⟨#[]⟩), 1, 16) := by kernel_rfl
  cases hi : Tryz.prog.info? 9 with
  | none => rw [hi] at h; cases h
  | some i =>
    rw [hi] at h
    injection h with h
    injection h with h1 h2
    injection h2 with h2 h3
    exact ⟨i, rfl, h1, h2, h3⟩
set_option maxRecDepth 1000000 in
/-- 'append(l, x...)' of texts. -/
theorem append_ssl {ops : Array Oper} {rest : List Oper} {o : Oper} {a : Act} {Q : Exit → Act → World → Prop} {w : World} (hgd : o.guard = none) (s x : Operand)
    (ho : o.op = .call { callee := .builtin .append, args := #[s, x], argTypes := #[23, 23] }) (B : Nat) (v : Value) (n : Nat) (ds : List ByteArray) (hs : a.eval s = v) (hown : w.ownsRow B 9 1 v n (sv ds))
    (u : Value) (es : List ByteArray) (hx : a.eval x = u) (hu : SSl w u es) (hlen : n + es.length < 1099511627776) (hbase : B ≤ w.heap.size)
    (h : ∀ v' w', w'.ownsRow B 9 1 v' (n + es.length) (sv (ds ++ es)) → w.grownBy w' v.ownBlock → wpList Tryz.prog ops Q rest (a.put o.dst v') w') : wpList Tryz.prog ops Q (o :: rest) a w := by
  obtain ⟨i, hi, hz0, hz1, hz2⟩ := info9_ex
  obtain ⟨⟨ad, cap, rfl, hn, hc⟩, hmax, _⟩ := hu
  cases ad with
  | none =>
    have hc0 := hn.2 rfl
    have he : es = [] := List.length_eq_zero_iff.1 (by omega)
    subst hc0
    subst he
    refine wpList_append_own_none hgd s x 23 ho B 9 i 1 Tryz.underlying23 hi v n (sv ds) hs hown hx (h v w ?_ ⟨rfl, rfl, rfl, Nat.le_refl _, fun _ _ _ => rfl⟩)
    simpa using hown
  | some ad =>
    refine wpList_append_own_at w hgd s x 23 ho B 9 i (.string ⟨#[]⟩) 1 16 Tryz.underlying23 hi hz0 hz1 hz2 rfl (by decide) v n (sv ds) hs hown ad es.length cap (sv es) hx (by rw [sv_len, Nat.mul_one]) (fun j u hu => ?_) (sv_one es) (by unfold maxLen; omega) (by omega) hbase fun v' w' h1 h2 _ _ => h v' w' (by rw [sv_app]; exact h1) h2
    have hjl : j < es.length := by
      rcases Nat.lt_or_ge j es.length with h | h
      · exact h
      · rw [List.getElem?_eq_none (by rw [sv_len]; exact h)] at hu
        cases hu
    rcases hc with hc | ⟨b, off, e, hc⟩
    · rw [hc] at hjl
      simp at hjl
    · injection e with e
      subst e
      rw [sv_get (List.getElem?_eq_getElem hjl)] at hu
      injection hu with hu
      rw [addr_add, hc j _ (List.getElem?_eq_getElem hjl), hu]
/-- One text, fresh. -/
theorem one_ssl (w : World) (s : ByteArray) (hs : s.size ≤ 140737488351232) : SSl (w.alloc (.cells #[.string s] 9)) (.slice (some ⟨w.heap.size, 0, none⟩) 1 1) [s] := by
  refine ⟨⟨_, 1, rfl, ⟨by simp, fun h => by cases h⟩, .inr ⟨w.heap.size, 0, rfl, fun j t hj => ?_⟩⟩, by simp, by simpa using hs⟩
  match j, hj with
  | 0, hj =>
    simp at hj
    subst hj
    exact blk_cell (heap_alloc_new w _) rfl
  | j + 1, hj => simp at hj
def mk9 : ByteArray := ⟨#[109, 97, 114, 107]⟩
/-- Texts lent. -/
structure Lts (w : World) (base : Nat) (v : Value) (ks : List ByteArray) : Prop where
  own : ∃ g cap, v = .slice (some ⟨g, 0, none⟩) ks.length cap ∧ w.ownsRow base 9 1 (.slice (some ⟨g, 0, none⟩) (ks.length + 9) cap) (ks.length + 9) (sv (ks ++ List.replicate 9 mk9))
  len : ks.length ≤ 100000
  size : ∀ s ∈ ks, s.size ≤ 140737488351232
theorem Lts.below {w w' : World} {base : Nat} {v : Value} {ks : List ByteArray} (h : Lts w base v ks) (hb : Below w.heap.size w w') : Lts w' base v ks := by
  obtain ⟨⟨g, cap, hv, ho⟩, h1, h2⟩ := h
  exact ⟨⟨g, cap, hv, (Kp.of_below (S := fun _ => False) hb).owns ho (fun _ _ hf => hf)⟩, h1, h2⟩
set_option maxRecDepth 1000000 in
set_option maxHeartbeats 400000 in
theorem lendTexts_any (w : World) (v : Value) (ks : List ByteArray) (hsl : SSl w v ks) (hlen : ks.length ≤ 100000) :
    Calls Tryz.prog 17 #[v] w fun e w' => ∃ v', e = .returned v' ∧ Lts w' w.heap.size v' ks ∧ Below w.heap.size w w' := by
  obtain ⟨i9, hi, hz0, hz1, hz2⟩ := info9_ex
  have HSZ := hide hsl.size
  have HSL := hide hsl
  obtain ⟨⟨a, cap, rfl, hn, hc⟩, hmax, hb⟩ := hsl
  clear hn hc hmax hb
  obtain ⟨w0, hmk, hown0, hgr0⟩ := run_make_own (P := Tryz.prog) w w.heap.size 23 9 i9 (.string ⟨#[]⟩) 1 Tryz.underlying23 hi hz0 hz1 .i64 .i64 (ks.length + 9) (by rw [hz2]; omega) (by unfold maxLen; omega) (Nat.le_refl _)
  have ec : ((ks.length + 9 : Nat) : Int) = (ks.length : Int) + 9 := by omega
  rw [ec] at hmk
  clear ec hi hz0 hz1 hz2
  have hbel0 : Below w.heap.size w w0 := (Below.refl _ _).grown hgr0 (Nat.le_refl _) (fun _ h => by cases h)
  have HSL0 := hide (HSL.out.move (keep_below hbel0))
  generalize hB : w.heap.size = B at *
  have HBe := hide hB
  clear hB hgr0
  have HO0 : Hid (w0.ownsRow B 9 1 _ 0 (sv [])) := hown0
  clear hown0
  have HBL0 := hide hbel0
  clear hbel0
  go_enter Tryz.func17, Tryz.ntmps17
  go_wp2_with (at_builtin; refine append_ssl rfl _ _ rfl B _ 0 [] rfl HO0.out _ ks rfl HSL0.out ?b1 ?b2 ?_)
  case b1 => omega
  case b2 => have := HBL0.out.size; have := HBe.out; omega
  intro v1 w1 hown1 hgr1
  have hbel1 : Below B w w1 := HBL0.out.grown hgr1 (by have := HBL0.out.size; have := HBe.out; omega) (fun q hq => (HO0.out.lt q hq).1)
  clear hgr1 HO0 HBL0 HSL0 hmk
  have HO1 := hide hown1
  clear hown1
  have HBL1 := hide hbel1
  clear hbel1
  go_wp2
  go_loopw [3, 4] (fun v i wr => ∃ k : Nat, k ≤ 9 ∧ i = .int .i64 k ∧ Hid (wr.ownsRow B 9 1 v (ks.length + k) (sv (ks ++ List.replicate k mk9))) ∧ Hid (Below B w wr)) (fun _ i _ => 9 - (intOf i).toNat)
  case atStart => exact ⟨0, by omega, rfl, by simpa using HO1, HBL1⟩
  case round =>
    obtain ⟨k, hk, rfl, HO, HBL⟩ := hrel
    clear HO1 HBL1
    by_cases hlt : k < 9
    · have hlt' : (k : Int) < 9 := by omega
      have HR : Hid (ks ++ List.replicate (k + 1) mk9 = ks ++ (List.replicate k mk9 ++ [mk9])) := by show _ = _; rw [List.replicate_succ']
      go_wp2_with (at_builtin; refine append_ssl rfl _ _ rfl B _ (ks.length + k) (ks ++ List.replicate k mk9) rfl (HO.out.alloc _) _ [mk9] rfl (one_ssl _ mk9 (by decide)) ?b1 ?b2 ?_)
      case b1 => simp; omega
      case b2 => have := HBL.out.size; have := HBe.out; simp; omega
      intro v2 w2 hown2 hgr2
      have hbel2 : Below B w w2 := (HBL.out.alloc (by have := HBL.out.size; have := HBe.out; omega) _).grown hgr2 (by have := HBL.out.size; have := HBe.out; simp; omega) (fun q hq => (HO.out.lt q hq).1)
      have HO2 : Hid (w2.ownsRow B 9 1 v2 (ks.length + (k + 1)) (sv (ks ++ List.replicate (k + 1) mk9))) := by show World.ownsRow _ _ _ _ _ _ _; rw [HR.out]; exact hown2
      have HBL2 := hide hbel2
      clear hgr2 hown2 hbel2
      go_wp2
      go_roundw
      case rel => exact ⟨k + 1, by omega, by go_num, HO2, HBL2⟩
      case measure => simp [intOf]; omega
    · have hlt' : ¬ (k : Int) < 9 := by omega
      have hk70 : k = 9 := by omega
      have ho := HO.out
      rw [hk70] at ho
      rcases ho.2 with ⟨_, h0⟩ | ⟨g, cap', cur, hv, _, hg, h1, h2, h3, h4⟩
      · omega
      subst hv
      have HO2 := hide ho
      have h2' : ks.length ≤ cap' := by omega
      clear ho h3 h4 hg HO hlt cur
      subst hk70
      go_wp2
      go_ret
      exact ⟨_, rfl, ⟨⟨g, cap', rfl, HO2.out⟩, hlen, HSZ.out⟩, HBL.out⟩
end
section
open Go.RowKit Go
theorem Lts.cell {w : World} {base g cap : Nat} {ks : List ByteArray} (h : w.ownsRow base 9 1 (.slice (some ⟨g, 0, none⟩) (ks.length + 9) cap) (ks.length + 9) (sv (ks ++ List.replicate 9 mk9))) : (∀ j s, ks[j]? = some s → w.cell? ⟨g, j, none⟩ = some (.string s)) ∧ (∀ j, j < 9 → w.cell? ⟨g, ks.length + j, none⟩ = some (.string mk9)) ∧ ks.length + 9 ≤ cap := by
  refine ⟨fun j s hj => ?_, fun j hj => ?_, ?_⟩
  · refine (own_cell h (sv_get ?_)).1
    rw [List.getElem?_append_left (List.getElem?_eq_some_iff.1 hj).1]
    exact hj
  · refine (own_cell h (sv_get ?_)).1
    rw [List.getElem?_append_right (by omega), Nat.add_sub_cancel_left, List.getElem?_replicate_of_lt hj]
  · rcases h.2 with ⟨hv, _⟩ | ⟨g', cap', cur, hv, _, _, h1, _⟩
    · cases hv
    · injection hv with _ _ e
      subst e
      exact h1
theorem str_ne (s : ByteArray) : (s.toList != s.toList) = false := by simp
set_option maxRecDepth 1000000 in
set_option maxHeartbeats 400000 in
theorem backTexts_any {w : World} {base : Nat} {v : Value} {ks : List ByteArray} (h : Lts w base v ks) (u : Value) (hu : SSl w u ks) :
    Calls Tryz.prog 31 #[v, u] w fun e w' => e = .returned (.bool true) ∧ Below w.heap.size w w' := by
  obtain ⟨⟨g, cap, rfl, ho⟩, hlen, _⟩ := h
  obtain ⟨hc1, hc2, hcap⟩ := Lts.cell ho
  have HC1 := hide hc1
  have HC2 := hide hc2
  obtain ⟨⟨au, cu, rfl, _, hf⟩, _, _⟩ := hu
  have HF := hide hf
  have hcap2 : (ks.length : Int) + 9 ≤ (cap : Int) := by omega
  clear ho hc1 hc2 hf hcap
  go_enter Tryz.func31, Tryz.ntmps31
  go_wp2_with fail
  go_loopw [5] (fun ii wx => ∃ i : Nat, i ≤ ks.length ∧ ii = .int .i64 (i : Nat) ∧ Hid (Below w.heap.size w wx)) (fun ii _ => ks.length - (intOf ii).toNat)
  case atStart => exact ⟨0, by omega, rfl, Below.refl _ _⟩
  case round =>
    obtain ⟨i, hi, rfl, HBw⟩ := hrel
    by_cases hlt : i < ks.length
    · as_aux_lemma =>
      have g1 : (i : Int) < (ks.length : Int) := by omega
      obtain ⟨s, hs⟩ : ∃ s, ks[i]? = some s := ⟨ks[i], List.getElem?_eq_getElem hlt⟩
      obtain ⟨b, off, rfl, hcc⟩ := HF.out.resolve_left (fun h => by rw [h] at hlt; simp at hlt)
      have c1 := keep_below HBw.out _ _ (HC1.out i s hs)
      have c2 := keep_below HBw.out _ _ (hcc i s hs)
      have hne := str_ne s
      clear hcc hs
      go_wp2_with fail
      go_region
      go_wp2_with fail
      have HB2 : Hid (Below w.heap.size w wr.drew) := HBw.out.drew
      go_roundw
      case rel => exact ⟨i + 1, by omega, by go_num, HB2⟩
      case measure => simp [intOf]; omega
    · have g1 : ¬ (i : Int) < (ks.length : Int) := by omega
      go_wp2_with fail
      go_loopw [7] (fun ii wx => ∃ j : Nat, j ≤ 9 ∧ ii = .int .i64 ((ks.length + j : Nat) : Int) ∧ Hid (Below w.heap.size w wx)) (fun ii _ => ks.length + 9 - (intOf ii).toNat)
      case atStart => exact ⟨0, by omega, by simp, HBw⟩
      case round => as_aux_lemma =>
        rename World => wz
        obtain ⟨j, hj, rfl, HBz⟩ := hrel
        clear HBw
        by_cases hlt2 : j < 9
        · have g2 : ((ks.length + j : Nat) : Int) < (ks.length : Int) + 9 := by omega
          have g3 : (0 : Int) ≤ ((ks.length + j : Nat) : Int) := by omega
          have c1 := keep_below HBz.out _ _ (HC2.out j hlt2)
          have hne := str_ne mk9
          unfold mk9 at c1 hne
          have hkj : ks.length + j + 1 = ks.length + (j + 1) := by omega
          have hm : ks.length + j ≤ 100009 := by omega
          have HK : Hid (∀ x, x = ks.length + j → x + 1 = ks.length + (j + 1)) := fun x e => by rw [e]; exact hkj
          have HLM : Hid (ks.length + j < ks.length + 9) := by show _ < _; omega
          go_wp2_with fail
          go_roundw
          case rel => exact ⟨j + 1, by omega, by go_num, HBz⟩
          case measure => simp [intOf]; omega
        · have g2 : ¬ ((ks.length + j : Nat) : Int) < (ks.length : Int) + 9 := by omega
          go_wp2_with fail
          go_ret
          exact ⟨rfl, HBz.out⟩
end
section
open Go.RowKit Go
/-- The cells of values in a row. -/
def vfl (l : List (Array Value)) : List Value := l.flatMap (·.toList)
theorem vfl_app (a b : List (Array Value)) : vfl (a ++ b) = vfl a ++ vfl b := by simp [vfl]
theorem vfl_get : ∀ {l : List (Array Value)}, (∀ c ∈ l, c.size = 13) → ∀ (k : Nat) (c : Array Value) (j : Nat) (u : Value), l[k]? = some c → c[j]? = some u → (vfl l)[k * 13 + j]? = some u
  | [], _, k, c, j, u, h, _ => by simp at h
  | d :: l, hs, 0, c, j, u, h, hu => by
    simp at h
    subst h
    have e : vfl (d :: l) = d.toList ++ vfl l := by simp [vfl]
    have hj : j < d.size := (Array.getElem?_eq_some_iff.1 hu).1
    rw [e, List.getElem?_append_left (by simpa using hj)]
    simpa using hu
  | d :: l, hs, k + 1, c, j, u, h, hu => by
    simp at h
    have e : vfl (d :: l) = d.toList ++ vfl l := by simp [vfl]
    have h13 : d.toList.length = 13 := by rw [Array.length_toList]; exact hs d (List.mem_cons_self ..)
    rw [e, List.getElem?_append_right (by omega)]
    have e2 : (k + 1) * 13 + j - d.toList.length = k * 13 + j := by omega
    rw [e2]
    exact vfl_get (fun d hd => hs d (List.mem_cons_of_mem _ hd)) k c j u h hu
/-- The zero value's cells, and those of a mark. -/
def zv : Array Value := #[.int .i64 0, .bool false, .bool false, .int .u64 0, .int .u64 0, .string ⟨#[]⟩, .slice none 0 0, .int .i64 0, .int .u64 0, .int .u64 0, .string ⟨#[]⟩, .slice none 0 0, .slice none 0 0]
def mv : Array Value := #[.int .i64 777, .bool false, .bool false, .int .u64 0, .int .u64 0, .string ⟨#[]⟩, .slice none 0 0, .int .i64 0, .int .u64 0, .int .u64 0, .string ⟨#[]⟩, .slice none 0 0, .slice none 0 0]
theorem infoV_ex : ∃ i, Tryz.prog.info? 55 = some i ∧ i.zero = some (.agg zv) ∧ i.size = 13 ∧ i.bytes = 160 := by
  have h : (Tryz.prog.info? 55).map (fun i => (i.zero, i.size, i.bytes)) = some (some (.agg zv), 13, 160) := by kernel_rfl
  cases hi : Tryz.prog.info? 55 with
  | none => rw [hi] at h; cases h
  | some i =>
    rw [hi] at h
    injection h with h
    injection h with h1 h2
    injection h2 with h2 h3
    exact ⟨i, rfl, h1, h2, h3⟩
/-- Cells that lie in a row of values: each one cell. -/
def one13 (c : Array Value) : Prop := c.size = 13 ∧ ∀ u ∈ c.toList, u.oneCell' = true
theorem fill_one (c cells : Array Value) (h : c.size = 13) (hc : cells.size = 13) : Instr.fill (fun i => some (i * 13, 13)) cells [(0, .agg c)] = some c := by
  obtain ⟨r, hr, hsz, hk⟩ := Great.fill_dense (s := 13) (by decide) [.agg c] 0 cells (by
    intro v hv
    simp only [List.mem_singleton] at hv
    subst hv
    simpa [Value.cells] using h) (by simp; omega)
  have e : r = c := by
    apply Array.ext_getElem?
    intro k
    rw [hk k]
    by_cases h1 : k < 13
    · rw [if_pos ⟨by omega, by simp; omega⟩]
      simp [Value.cells, Nat.div_eq_of_lt h1, Nat.mod_eq_of_lt h1]
    · rw [if_neg (by simp; omega), Array.getElem?_eq_none (by omega), Array.getElem?_eq_none (by omega)]
  rw [e] at hr
  exact hr
theorem wpList_val1 {ops : Array Oper} {rest : List Oper} {o : Oper} {a : Act} {w : World} {Q : Exit → Act → World → Prop} {x0 : Operand} (hg : o.guard = none) (ho : o.op = .buildSlice 22 1 #[(0, x0)]) (c : Array Value) (hc : c.size = 13)
    (h0 : a.eval x0 = .agg c)
    (h : wpList Tryz.prog ops Q rest (a.put o.dst (.slice (some ⟨w.heap.size, 0, none⟩) 1 1)) (w.alloc (.cells c 55))) : wpList Tryz.prog ops Q (o :: rest) a w := by
  obtain ⟨i, hi, hz, hs, _⟩ := infoV_ex
  refine wpList_buildSlice hg 22 55 1 _ ho c i _ Tryz.underlying22 hi hz (by rw [hs]; decide) (by rw [hs]; decide) ?_ h
  rw [hs]
  have e : ((#[(0, x0)] : Array (Nat × Operand)).map fun (i, x) => (i, a.eval x)).toList = [(0, .agg c)] := by simp [h0]
  rw [e]
  exact fill_one c _ hc (by simp)
/-- append of one value. -/
theorem append_val {ops : Array Oper} {rest : List Oper} {o : Oper} {a : Act} {Q : Exit → Act → World → Prop} {w : World} (hgd : o.guard = none) (s x : Operand)
    (ho : o.op = .call { callee := .builtin .append, args := #[s, x], argTypes := #[22, 22] }) (B : Nat) (v : Value) (n : Nat) (ds : List Value) (hs : a.eval s = v) (hown : w.ownsRow B 55 13 v n ds)
    (g : Nat) (c : Array Value) (h13 : one13 c) (hx : a.eval x = .slice (some ⟨g, 0, none⟩) 1 1) (hg : w.heap[g]? = some (.cells c 55 (0, 0))) (hlen : n < 1099511627) (hbase : B ≤ w.heap.size)
    (h : ∀ v' w', w'.ownsRow B 55 13 v' (n + 1) (ds ++ c.toList) → w.grownBy w' v.ownBlock → (v'.ownBlock = v.ownBlock ∨ v'.ownBlock = some w.heap.size) → wpList Tryz.prog ops Q rest (a.put o.dst v') w') : wpList Tryz.prog ops Q (o :: rest) a w := by
  obtain ⟨i, hi, hz0, hz1, hz2⟩ := infoV_ex
  refine wpList_append_own_at w hgd s x 22 ho B 55 i _ 13 160 Tryz.underlying22 hi hz0 hz1 hz2 rfl (by decide) v n ds hs hown ⟨g, 0, none⟩ 1 1 c.toList hx (by rw [Array.length_toList, h13.1]) (fun j u hu => ?_) h13.2 (by unfold maxLen; omega) (by omega) hbase fun v' w' h1 h2 _ h4 => h v' w' h1 h2 ?_
  · have hadd : (⟨g, 0, none⟩ : Addr).add j = ⟨g, j, none⟩ := by unfold Addr.add; split <;> simp_all
    rw [hadd]
    exact blk_cell hg (by simpa using hu)
  · exact h4
/-- A value lent: each of its rows lies in blocks of its own from lo on and below hi, with marks behind it. -/
inductive Ltv (w : World) (lo hi : Nat) : Tv → Array Value → Prop
  | mk (t : Tv) (gy cy gk ck gi ci : Nat) (L : List (Array Value)) (hbd : Tbd t) (hy : Lnt w lo gy cy t.y) (hgy : gy < hi) (hk : w.ownsRow lo 9 1 (.slice (some ⟨gk, 0, none⟩) (t.ks.length + 9) ck) (t.ks.length + 9) (sv (t.ks ++ List.replicate 9 mk9))) (hgk : gk < hi) (hkl : t.ks.length ≤ 100000) (hks : ∀ s ∈ t.ks, s.size ≤ 140737488351232)
      (hv : w.ownsRow lo 55 13 (.slice (some ⟨gi, 0, none⟩) (t.is.length + 9) ci) (t.is.length + 9) (vfl (L ++ List.replicate 9 mv))) (hgi : gi < hi) (hil : t.is.length ≤ 100000) (hL : L.length = t.is.length) (h13 : ∀ c ∈ L, c.size = 13) (hcs : ∀ (i : Nat) (u : Tv) (c : Array Value), t.is[i]? = some u → L[i]? = some c → Ltv w lo hi u c) :
      Ltv w lo hi t (vcs t (.slice (some ⟨gy, 0, none⟩) t.y.length cy) (.slice (some ⟨gk, 0, none⟩) t.ks.length ck) (.slice (some ⟨gi, 0, none⟩) t.is.length ci))
theorem Ltv.size {w : World} {lo hi : Nat} {t : Tv} {c : Array Value} (h : Ltv w lo hi t c) : c.size = 13 := by
  cases h
  rfl
theorem Ltv.one {w : World} {lo hi : Nat} {t : Tv} {c : Array Value} (h : Ltv w lo hi t c) : one13 c := by
  cases h
  refine ⟨rfl, fun u hu => ?_⟩
  simp only [vcs, List.mem_cons, List.not_mem_nil, or_false] at hu
  rcases hu with rfl | rfl | rfl | rfl | rfl | rfl | rfl | rfl | rfl | rfl | rfl | rfl | rfl <;> rfl
theorem Lnt.mono {w : World} {b b' g cap : Nat} {xs : List Nat} (h : Lnt w b g cap xs) (hb : b' ≤ b) : Lnt w b' g cap xs := ⟨own_mono h.own hb, h.byte, h.len⟩
theorem Ltv.kp {w w' : World} {lo hi : Nat} {t : Tv} {c : Array Value} {S : Nat → Prop} (h : Ltv w lo hi t c) (hk : Kp S w w') (hs : ∀ q, lo ≤ q → q < hi → ¬ S q) : Ltv w' lo hi t c := by
  induction h with
  | mk t gy cy gk ck gi ci L hbd hy hgy hkk hgk hkl hks hv hgi hil hL h13 _ ih =>
    have e1 := (hy.own.lt gy rfl).1
    have e2 := (hkk.lt gk rfl).1
    have e3 := (hv.lt gi rfl).1
    exact Ltv.mk t gy cy gk ck gi ci L hbd (hy.kp hk (hs gy e1 hgy)) hgy (hk.owns hkk (fun q hq => by injection hq with hq; subst hq; exact hs _ e2 hgk)) hgk hkl hks (hk.owns hv (fun q hq => by injection hq with hq; subst hq; exact hs _ e3 hgi)) hgi hil hL h13 ih
theorem Ltv.kept {w w' : World} {lo hi : Nat} {t : Tv} {c : Array Value} (h : Ltv w lo hi t c) (hb : Below w.heap.size w w') : Ltv w' lo hi t c := h.kp (Kp.of_below (S := fun _ => False) hb) (fun _ _ _ h => h)
theorem Ltv.mono {w : World} {lo hi lo' hi' : Nat} {t : Tv} {c : Array Value} (h : Ltv w lo hi t c) (h1 : lo' ≤ lo) (h2 : hi ≤ hi') : Ltv w lo' hi' t c := by
  induction h with
  | mk t gy cy gk ck gi ci L hbd hy hgy hkk hgk hkl hks hv hgi hil hL h13 _ ih =>
    exact Ltv.mk t gy cy gk ck gi ci L hbd (hy.mono h1) (by omega) (own_mono hkk h1) (by omega) hkl hks (own_mono hv h1) (by omega) hil hL h13 ih
theorem ssl_lent {w : World} {lo g cap : Nat} {ks : List ByteArray} (h : w.ownsRow lo 9 1 (.slice (some ⟨g, 0, none⟩) (ks.length + 9) cap) (ks.length + 9) (sv (ks ++ List.replicate 9 mk9))) (hl : ks.length ≤ 100000) (hs : ∀ s ∈ ks, s.size ≤ 140737488351232) : SSl w (.slice (some ⟨g, 0, none⟩) ks.length cap) ks := by
  obtain ⟨h1, _, h3⟩ := Lts.cell h
  refine ⟨⟨_, cap, rfl, ⟨by omega, fun h => by cases h⟩, .inr ⟨g, 0, rfl, fun j s hj => ?_⟩⟩, by omega, hs⟩
  rw [Nat.zero_add]
  exact h1 j s hj
/-- A cell of a value in a row of the call's own. -/
theorem own_val {w : World} {B g n m cap k : Nat} {l : List (Array Value)} {c : Array Value} (h : w.ownsRow B 55 13 (.slice (some ⟨g, 0, none⟩) m cap) n (vfl l)) (hl : ∀ c ∈ l, c.size = 13) (hk : l[k]? = some c) : ∀ j u, c[j]? = some u → w.cell? ⟨g, k * 13 + j, none⟩ = some u := fun j u hu => by
  have := h.cells (g := g) rfl (k * 13 + j) u (vfl_get hl k c j u hk hu)
  have hadd : (⟨g, 0, none⟩ : Addr).add (k * 13 + j) = ⟨g, k * 13 + j, none⟩ := by unfold Addr.add; split <;> simp_all
  rw [hadd] at this
  exact this
theorem all13 {L : List (Array Value)} (h : ∀ c ∈ L, c.size = 13) (k : Nat) : ∀ c ∈ L ++ List.replicate k mv, c.size = 13 := fun c hc => by
  rcases List.mem_append.1 hc with hc | hc
  · exact h c hc
  · rw [List.eq_of_mem_replicate hc]
    rfl
theorem Ltv.tin {w : World} {lo hi : Nat} {t : Tv} {c : Array Value} (h : Ltv w lo hi t c) : Tin w t c := by
  induction h with
  | mk t gy cy gk ck gi ci L hbd hy hgy hkk hgk hkl hks hv hgi hil hL h13 _ ih =>
    refine Tin.of hy.bsl (ssl_lent hkk hkl hks) ⟨⟨_, ci, rfl, ⟨?_, fun h => by cases h⟩, .inr ⟨gi, 0, rfl, fun i u hu => ?_⟩⟩, by omega⟩ hbd
    · rcases hv.2 with ⟨e, _⟩ | ⟨g', cap', cur, e, _, _, h1, _⟩
      · cases e
      · injection e with _ _ e
        subst e
        omega
    · have hil2 := (List.getElem?_eq_some_iff.1 hu).1
      have hc : L[i]? = some (L[i]'(by omega)) := List.getElem?_eq_getElem (by omega)
      refine ⟨_, ih i u _ hu hc, fun j v hj => ?_⟩
      rw [Nat.zero_add]
      refine own_val hv (all13 h13 9) ?_ j v hj
      rw [List.getElem?_append_left (by omega)]
      exact hc
end
section
open Go.RowKit Go
/-- A row of texts that lies in blocks of its own reads as these texts, whatever became of the rest. -/
theorem SSl.own {w : World} {base n : Nat} {v : Value} {ks : List ByteArray} (h : w.ownsRow base 9 1 v n (sv ks)) (hn : n = ks.length) (hm : ks.length ≤ 140737488351232) (hs : ∀ s ∈ ks, s.size ≤ 140737488351232) : SSl w v ks := by
  subst hn
  rcases id h.2 with ⟨hv, he⟩ | ⟨g, cap, cur, hv, _, _, h1, _⟩
  · subst hv
    have e : ks = [] := List.length_eq_zero_iff.1 he
    subst e
    exact ⟨⟨none, 0, rfl, ⟨by simp, fun _ => rfl⟩, .inl rfl⟩, hm, hs⟩
  · subst hv
    refine ⟨⟨_, cap, rfl, ⟨by omega, fun h => by cases h⟩, .inr ⟨g, 0, rfl, fun j s hj => ?_⟩⟩, hm, hs⟩
    rw [Nat.zero_add]
    exact (own_cell h (sv_get hj)).1
set_option maxRecDepth 1000000 in
set_option maxHeartbeats 400000 in
theorem copyStrings_any (w : World) (v : Value) (ks : List ByteArray) (hsl : SSl w v ks) (hlen : ks.length < 1099511627776) :
    Calls Tryz.prog 93 #[v] w fun e w' => ∃ v', e = .returned v' ∧ w'.ownsRow w.heap.size 9 1 v' ks.length (sv ks) ∧ Below w.heap.size w w' := by
  have HSL := hide hsl
  have HL := hide hlen
  obtain ⟨⟨a, cap, rfl, hn, hc⟩, hmax, hb⟩ := hsl
  clear hn hc hb hlen
  go_enter Tryz.func93, Tryz.ntmps93
  go_wp2_with (at_builtin; refine append_ssl rfl _ _ rfl w.heap.size _ 0 [] rfl (World.ownsRow_nil _ _ _ _) _ ks rfl HSL.out ?b1 ?b2 ?_)
  case b1 => have := HL.out; omega
  case b2 => exact Nat.le_refl _
  intro v1 w1 ho1 hg1
  have hb1 : Below w.heap.size w w1 := (Below.refl _ _).grown hg1 (Nat.le_refl _) (fun q hq => by cases hq)
  have HO1 := hide ho1
  have HB1 := hide hb1
  clear ho1 hb1 hg1
  go_wp2
  go_ret
  exact ⟨_, rfl, by simpa using HO1.out, HB1.out⟩
end
section
open Go.RowKit Go
/-- A value in new memory: each of its rows lies in blocks of its own from lo on and below hi. -/
inductive Ntv (w : World) (lo hi : Nat) : Tv → Array Value → Prop
  | mk (t : Tv) (vy vk vi : Value) (L : List (Array Value)) (hbd : Tbd t) (hyb : ∀ x ∈ t.y, x < 256) (hy : w.ownsRow lo 5 1 vy t.y.length (bv t.y)) (hgy : ∀ q, vy.ownBlock = some q → q < hi) (hk : w.ownsRow lo 9 1 vk t.ks.length (sv t.ks)) (hgk : ∀ q, vk.ownBlock = some q → q < hi) (hkl : t.ks.length ≤ 140737488351232) (hks : ∀ s ∈ t.ks, s.size ≤ 140737488351232)
      (hv : w.ownsRow lo 55 13 vi t.is.length (vfl L)) (hgi : ∀ q, vi.ownBlock = some q → q < hi) (hil : t.is.length ≤ 140737488351232) (hL : L.length = t.is.length) (h13 : ∀ c ∈ L, c.size = 13) (hcs : ∀ (i : Nat) (u : Tv) (c : Array Value), t.is[i]? = some u → L[i]? = some c → Ntv w lo hi u c) :
      Ntv w lo hi t (vcs t vy vk vi)
theorem own_one1 {w : World} {B e s n : Nat} {v : Value} {xs : List Value} (h : w.ownsRow B e s v n xs) : v.oneCell' = true := by
  rcases h.2 with ⟨e, _⟩ | ⟨g, c, cur, e, _⟩ <;> (rw [e]; rfl)
theorem Ntv.size {w : World} {lo hi : Nat} {t : Tv} {c : Array Value} (h : Ntv w lo hi t c) : c.size = 13 := by
  cases h
  rfl
theorem Ntv.one {w : World} {lo hi : Nat} {t : Tv} {c : Array Value} (h : Ntv w lo hi t c) : one13 c := by
  cases h with
  | mk _ vy vk vi L hbd hyb hy hgy hk hgk hkl hks hv hgi hil hL h13 hcs =>
  refine ⟨rfl, fun u hu => ?_⟩
  simp only [vcs, List.mem_cons, List.not_mem_nil, or_false] at hu
  rcases hu with rfl | rfl | rfl | rfl | rfl | rfl | rfl | rfl | rfl | rfl | rfl | rfl | rfl <;> first | rfl | exact own_one1 hy | exact own_one1 hk | exact own_one1 hv
theorem Ntv.kp {w w' : World} {lo hi : Nat} {t : Tv} {c : Array Value} {S : Nat → Prop} (h : Ntv w lo hi t c) (hk : Kp S w w') (hs : ∀ q, lo ≤ q → q < hi → ¬ S q) : Ntv w' lo hi t c := by
  induction h with
  | mk t vy vk vi L hbd hyb hy hgy hkk hgk hkl hks hv hgi hil hL h13 _ ih =>
    exact Ntv.mk t vy vk vi L hbd hyb (hk.owns hy (fun q hq => hs q (hy.lt q hq).1 (hgy q hq))) hgy (hk.owns hkk (fun q hq => hs q (hkk.lt q hq).1 (hgk q hq))) hgk hkl hks (hk.owns hv (fun q hq => hs q (hv.lt q hq).1 (hgi q hq))) hgi hil hL h13 ih
theorem Ntv.kept {w w' : World} {lo hi : Nat} {t : Tv} {c : Array Value} (h : Ntv w lo hi t c) (hb : Below w.heap.size w w') : Ntv w' lo hi t c := h.kp (Kp.of_below (S := fun _ => False) hb) (fun _ _ _ h => h)
theorem Ntv.mono {w : World} {lo hi lo' hi' : Nat} {t : Tv} {c : Array Value} (h : Ntv w lo hi t c) (h1 : lo' ≤ lo) (h2 : hi ≤ hi') : Ntv w lo' hi' t c := by
  induction h with
  | mk t vy vk vi L hbd hyb hy hgy hkk hgk hkl hks hv hgi hil hL h13 _ ih =>
    exact Ntv.mk t vy vk vi L hbd hyb (own_mono hy h1) (fun q hq => Nat.lt_of_lt_of_le (hgy q hq) h2) (own_mono hkk h1) (fun q hq => Nat.lt_of_lt_of_le (hgk q hq) h2) hkl hks (own_mono hv h1) (fun q hq => Nat.lt_of_lt_of_le (hgi q hq) h2) hil hL h13 ih
theorem Ntv.tin {w : World} {lo hi : Nat} {t : Tv} {c : Array Value} (h : Ntv w lo hi t c) : Tin w t c := by
  induction h with
  | mk t vy vk vi L hbd hyb hy hgy hkk hgk hkl hks hv hgi hil hL h13 _ ih =>
    refine Tin.of (BSl.own hy hyb) (SSl.own hkk rfl hkl hks) ?_ hbd
    rcases id hv.2 with ⟨e, h0⟩ | ⟨g, cap, cur, e, _, _, h1, _⟩
    · subst e
      have e2 : t.is = [] := List.length_eq_zero_iff.1 h0
      refine ⟨⟨none, 0, by rw [h0], ⟨by omega, fun _ => rfl⟩, .inl e2⟩, hil⟩
    · subst e
      refine ⟨⟨_, cap, rfl, ⟨by omega, fun h => by cases h⟩, .inr ⟨g, 0, rfl, fun i u hu => ?_⟩⟩, hil⟩
      have hil2 := (List.getElem?_eq_some_iff.1 hu).1
      have hc : L[i]? = some (L[i]'(by omega)) := List.getElem?_eq_getElem (by omega)
      refine ⟨_, ih i u _ hu hc, fun j v hj => ?_⟩
      rw [Nat.zero_add]
      exact own_val hv h13 hc j v hj
end
end Go.Proofs.YtgcccndbahphaaaGreatDoor
