import Derived.Test.YtidglddjinfncaaGreatDoorJc
import Derived.Laws.StructEq
import Derived.SliceStrings
import Derived.LaidLaws
import Derived.Handed
import Derived.Lib.LaidTab
import Derived.Laws.ResultCell
import Derived.Laws.MakeOwn
import Derived.Lib.AppendZerosOnto
import Derived.Lib.SliceRun
import Derived.Laws.Concat
namespace Go.Proofs.YtidglddjinfncaaGreatDoor
section
open Go.RowKit Go
theorem nstr_sl (s : ByteArray) : nstr (sl s) = s := by
  obtain ⟨⟨l⟩⟩ := s
  have e : nstr (sl ⟨⟨l⟩⟩) = ⟨(nstr (sl ⟨⟨l⟩⟩)).data⟩ := rfl
  rw [e]
  congr 1
  apply Array.ext'
  simp only [nstr, sl, strOfNums_data, List.map_map]
  conv => rhs; rw [← List.map_id l]
  apply List.map_congr_left
  intro x _
  simp
theorem nstr_size {xs : List Nat} (h : ∀ x ∈ xs, x < 256) : (nstr xs).size = xs.length := by rw [← sl_len, sl_nstr h]
/-- A link's cells. -/
def lcs (l : Lk) : Array Value := #[.int .i64 l.v, .int .u64 (l.c : Nat), .int .u64 (l.h : Nat), .string (nstr l.d)]
theorem lkv_lcs (l : Lk) : lkv l = .agg (lcs l) := rfl
/-- A link that the program can hold. -/
structure Lkb (l : Lk) : Prop where
  c : l.c < 18446744073709551616
  h : l.h < 18446744073709551616
  d : ∀ x ∈ l.d, x < 256
  n : l.d.length ≤ 9223372036854775807
theorem Lkb.size {l : Lk} (h : Lkb l) : (nstr l.d).size = l.d.length := nstr_size h.d
theorem lk_ext {a b : Lk} : a = b ↔ a.v = b.v ∧ a.c = b.c ∧ a.h = b.h ∧ a.d = b.d := by
  constructor
  · rintro rfl
    exact ⟨rfl, rfl, rfl, rfl⟩
  · obtain ⟨_, _, _, _⟩ := a
    obtain ⟨_, _, _, _⟩ := b
    rintro ⟨h1, h2, h3, h4⟩
    simp only at h1 h2 h3 h4
    subst h1 h2 h3 h4
    rfl
instance : DecidableEq Lk := fun a b => decidable_of_iff _ (lk_ext (a := a) (b := b)).symm
theorem eqlk (w : World) {a b : Lk} (ha : ∀ x ∈ a.d, x < 256) (hb : ∀ x ∈ b.d, x < 256) : (Op.equalIn 10000 61 (.agg (lcs a)) (.agg (lcs b))).run Tryz.prog w = .ok (decide (a = b)) w := by
  have u3 := Tryz.underlying3
  have u9 := Tryz.underlying9
  have u33 := Tryz.underlying59
  have a3 := Tryz.isAgg3
  have a9 := Tryz.isAgg9
  have a33 := Tryz.isAgg59
  have z3 := Tryz.sizeOf3
  have z9 := Tryz.sizeOf9
  have z33 := Tryz.sizeOf59
  have hS : Tryz.prog.underlying 61 = some (.struct (Tryz.prog.fieldsOf 61)) := by kernel_rfl
  have hp : Tryz.prog.stoodInHeld 61 = false := by kernel_rfl
  have hs : ((nstr a.d).toList == (nstr b.d).toList) = decide (a.d = b.d) := by
    by_cases h : a.d = b.d
    · rw [h]; simp
    · rw [beq_eq_false_iff_ne.2 (fun e => h (nstr_inj ha hb e))]; simp [h]
  have hr : decide (a = b) = (decide (a.v = b.v) && (decide (a.c = b.c) && (decide (a.h = b.h) && decide (a.d = b.d)))) := by
    rw [Bool.eq_iff_iff]
    simp [lk_ext]
  rw [hr]
  unfold lcs
  rw [show (10000 : Nat) = 9999 + 1 from rfl, run_equalIn_agg w 9999 61 _ _ hS hp]
  simp only [Program.fieldsOf, Tryz.underlying61]
  go_simp
  by_cases h1 : a.v = b.v <;> by_cases h2 : a.c = b.c <;> by_cases h3 : a.h = b.h <;> by_cases h4 : a.d = b.d <;> first | (simp [h1, h2, h3, h4]; done) | (simp [h1, h2, h3, h4]; omega)

theorem eqg : Tryz.prog.eqGuardType Tryz.prog.depth 61 = false := by kernel_rfl
/-- A whole struct by value, as a step of a region that draws. -/
theorem qstep_link {C : World → Prop} {ops : Array Oper} {o : Oper} {a : Act} {K : Act → Prop} {p : Operand} (hgd : Region.wanted o (yielded ops a.tmps) = true) (ho : o.op = .load 61 p) (g : Nat) (cs : Array Value)
    (hp : a.eval p = .pointer (some ⟨g, 0, none⟩)) (hn : cs.size = 4) (hc : ∀ w, C w → w.heap[g]? = some (.cells cs 61 (0, 0)))
    (h : K (a.put o.dst (.agg cs))) : if Region.wanted o (yielded ops a.tmps) = true then o.quiet Tryz.prog a C K else K (a.put o.dst undef) := by
  rw [if_pos hgd]
  refine ⟨.agg cs, fun w hC => ?_, h⟩
  have hr : (Instr.loadAt 61 (.pointer (some ⟨g, 0, none⟩))).run Tryz.prog w = .ok (.agg cs) w := by
    simp only [Instr.loadAt, Instr.sureAddr, Sem.run_bind, Sem.run_pure, Result.andThen]
    exact run_loadVar_row (P := Tryz.prog) w g 61 61 cs (0, 0) _ (hc w hC) Tryz.underlying61 rfl (by rw [hn]; exact info61)
  unfold Oper.quietAt execOp
  simp only [ho, Sem.run_bind, hp, hr, Result.andThen_ok]
  exact ⟨rfl, rfl⟩

theorem wpList_wanted {P : Program} {ops : Array Oper} {Q : Exit → Act → World → Prop} {a : Act} {w : World} {rest : List Oper} {o : Oper} (hw : Region.wanted o (yielded ops a.tmps) = true)
    (h : ∀ K : Act → World → Prop, (∀ a w, wpList P ops Q rest a w → K a w) → o.wp P a w K Q) : wpList P ops Q (o :: rest) a w := wpList_step fun K hK => by rw [if_pos hw]; exact h K hK
/-- Two links held against each other. -/
theorem exec_eqlk {o : Oper} {a : Act} {x y : Operand} {T2 : TypeId} {A B : Array Value} {r : Bool} {w : World} (ho : o.op = .binOp .eql 61 x y T2) (hx : a.eval x = .agg A) (hy : a.eval y = .agg B) (he : (Op.equalIn 10000 61 (.agg A) (.agg B)).run Tryz.prog w = .ok r w) : (execOp a.eval o).run Tryz.prog w = .ok (.value (.bool r)) w := by
  unfold execOp
  simp only [ho, Sem.run_bind, hx, hy, run_eqGuard_agg w _ 61 x y A B eqg, run_eql_struct, he, Result.andThen_ok]
  rfl
theorem exec_nelk {o : Oper} {a : Act} {x y : Operand} {T2 : TypeId} {A B : Array Value} {r : Bool} {w : World} (ho : o.op = .binOp .neq 61 x y T2) (hx : a.eval x = .agg A) (hy : a.eval y = .agg B) (he : (Op.equalIn 10000 61 (.agg A) (.agg B)).run Tryz.prog w = .ok r w) : (execOp a.eval o).run Tryz.prog w = .ok (.value (.bool (!r))) w := by
  unfold execOp
  simp only [ho, Sem.run_bind, hx, hy, run_eqGuard_agg w _ 61 x y A B eqg, run_neq_struct, he, Result.andThen_ok]
  rfl
theorem qstep_eqlk {C : World → Prop} {ops : Array Oper} {o : Oper} {a : Act} {K : Act → Prop} {x y : Operand} {T2 : TypeId} (hgd : Region.wanted o (yielded ops a.tmps) = true) (ho : o.op = .binOp .eql 61 x y T2) (A B : Array Value) (r : Bool)
    (hx : a.eval x = .agg A) (hy : a.eval y = .agg B) (he : ∀ w, C w → (Op.equalIn 10000 61 (.agg A) (.agg B)).run Tryz.prog w = .ok r w)
    (h : K (a.put o.dst (.bool r))) : if Region.wanted o (yielded ops a.tmps) = true then o.quiet Tryz.prog a C K else K (a.put o.dst undef) := by
  rw [if_pos hgd]
  refine ⟨.bool r, fun w hC => ?_, h⟩
  unfold Oper.quietAt
  rw [exec_eqlk ho hx hy (he w hC)]
  exact ⟨rfl, rfl⟩
theorem wpList_eqlk {ops : Array Oper} {rest : List Oper} {o : Oper} {a : Act} {Q : Exit → Act → World → Prop} {w : World} {x y : Operand} {T2 : TypeId} (hgd : Region.wanted o (yielded ops a.tmps) = true) (ho : o.op = .binOp .eql 61 x y T2) (A B : Array Value) (r : Bool)
    (hx : a.eval x = .agg A) (hy : a.eval y = .agg B) (he : (Op.equalIn 10000 61 (.agg A) (.agg B)).run Tryz.prog w = .ok r w) (h : wpList Tryz.prog ops Q rest (a.put o.dst (.bool r)) w) : wpList Tryz.prog ops Q (o :: rest) a w := by
  refine wpList_wanted hgd fun K hK => ?_
  unfold Oper.wp
  rw [exec_eqlk ho hx hy he]
  exact hK _ _ h
theorem wpList_nelk {ops : Array Oper} {rest : List Oper} {o : Oper} {a : Act} {Q : Exit → Act → World → Prop} {w : World} {x y : Operand} {T2 : TypeId} (hgd : Region.wanted o (yielded ops a.tmps) = true) (ho : o.op = .binOp .neq 61 x y T2) (A B : Array Value) (r : Bool)
    (hx : a.eval x = .agg A) (hy : a.eval y = .agg B) (he : (Op.equalIn 10000 61 (.agg A) (.agg B)).run Tryz.prog w = .ok r w) (h : wpList Tryz.prog ops Q rest (a.put o.dst (.bool (!r))) w) : wpList Tryz.prog ops Q (o :: rest) a w := by
  refine wpList_wanted hgd fun K hK => ?_
  unfold Oper.wp
  rw [exec_nelk ho hx hy he]
  exact hK _ _ h
theorem wpList_loadLk {ops : Array Oper} {rest : List Oper} {o : Oper} {a : Act} {Q : Exit → Act → World → Prop} {w : World} {p : Operand} (hgd : Region.wanted o (yielded ops a.tmps) = true) (ho : o.op = .load 61 p) (g : Nat) (cs : Array Value)
    (hp : a.eval p = .pointer (some ⟨g, 0, none⟩)) (hn : cs.size = 4) (hg : w.heap[g]? = some (.cells cs 61 (0, 0))) (h : wpList Tryz.prog ops Q rest (a.put o.dst (.agg cs)) w) : wpList Tryz.prog ops Q (o :: rest) a w := by
  refine wpList_wanted hgd fun K hK => ?_
  unfold Oper.wp execOp
  have hr : (Instr.loadAt 61 (.pointer (some ⟨g, 0, none⟩))).run Tryz.prog w = .ok (.agg cs) w := by
    simp only [Instr.loadAt, Instr.sureAddr, Sem.run_bind, Sem.run_pure, Result.andThen]
    exact run_loadVar_row (P := Tryz.prog) w g 61 61 cs (0, 0) _ hg Tryz.underlying61 rfl (by rw [hn]; exact info61)
  simp only [ho, Sem.run_bind, hp, hr, Result.andThen_ok]
  exact hK _ _ h

set_option maxRecDepth 1000000 in
theorem old_any (w : World) (s : ByteArray) : Calls Tryz.prog 28 #[.string s] w fun e w' => e = .returned (.agg #[.int .i64 0, .int .u64 112, .int .u64 18, .string s]) ∧ Below w.heap.size w w' := by
  go_enter Tryz.func28, Tryz.ntmps28
  go_wp2_with fail
  exact bodyPost_ret (v := .agg #[.int .i64 0, .int .u64 112, .int .u64 18, .string s]) ((results_one (p := 2) (ty := 61) rfl _ _ _).trans (by go_simp; first | done | rfl)) rfl ⟨rfl, below_alloc4 w _⟩
set_option maxRecDepth 1000000 in
theorem fits4_any (w : World) (l : Lk) (hl : Lkb l) : Calls Tryz.prog 29 #[lkv l] w fun e w' => e = .returned (.bool (decide (okd l.h l.d))) ∧ Below w.heap.size w w' := by
  have hs := hl.size
  have hn := hl.n
  obtain ⟨v, c, h, d⟩ := l
  simp only at hs hn
  simp only [lkv]
  have HE : Hid (okd h d ↔ (h = 18 ∧ d.length = 32) ∨ (h = 0 ∧ d.length ≤ 64)) := Iff.rfl
  generalize hS : nstr d = S at *
  clear hS hl
  by_cases h1 : h = 18
  · subst h1
    have HR : Hid (decide (okd 18 d) = ((d.length : Int) == 32)) := by
      show _ = _
      rw [Bool.eq_iff_iff, decide_eq_true_iff, HE.out, beq_iff_eq]
      omega
    rw [HR.out]
    clear HE HR
    go_enter Tryz.func29, Tryz.ntmps29
    go_wp2_with fail
    go_ret
    exact ⟨rfl, below_alloc4 w _⟩
  · have g1 : ((h : Int) == 18) = false := beq_eq_false_iff_ne.2 (by omega)
    by_cases h2 : h = 0
    · subst h2
      have HR : Hid (decide (okd 0 d) = decide ((d.length : Int) ≤ 64)) := by
        show _ = _
        rw [Bool.eq_iff_iff, decide_eq_true_iff, HE.out, decide_eq_true_iff]
        omega
      rw [HR.out]
      clear HE HR
      go_enter Tryz.func29, Tryz.ntmps29
      go_wp2_with fail
      go_ret
      exact ⟨rfl, below_alloc4 w _⟩
    · have g2 : ((h : Int) == 0) = false := beq_eq_false_iff_ne.2 (by omega)
      have HR : Hid (decide (okd h d) = false) := by
        show _ = _
        rw [decide_eq_false_iff_not, HE.out]
        omega
      rw [HR.out]
      clear HE HR
      go_enter Tryz.func29, Tryz.ntmps29
      go_wp2_with fail
      go_ret
      exact ⟨rfl, below_alloc4 w _⟩
end
section
open Go.ChangeShapes Go.WideShapes Go.ChangeAt Go.RowKit Go.Deep Go.Joins Go
/-- A slice of links. -/
structure LinksIn (w : World) (v : Value) (len : Nat) : Prop where
  form : ∃ a cap, v = .slice a len cap ∧ (len = 0 ∨ ∃ b off, a = some ⟨b, off, none⟩ ∧ ∀ i, i < len → ∃ l : Lk, Lkb l ∧ ∀ j u, (lcs l)[j]? = some u → w.cell? ⟨b, off + i * 4 + j, none⟩ = some u)
  max : len ≤ 9223372036854775807
/-- A slice of strings. -/
structure StrsIn (w : World) (v : Value) (len : Nat) : Prop where
  form : ∃ a cap, v = .slice a len cap ∧ (len = 0 ∨ ∃ b off, a = some ⟨b, off, none⟩ ∧ ∀ i, i < len → ∃ s : ByteArray, s.size ≤ 9223372036854775807 ∧ w.cell? ⟨b, off + i, none⟩ = some (.string s))
  max : len ≤ 9223372036854775807
theorem Tryz.cellsLink : Tryz.prog.cellsOf 61 = 4 := by kernel_rfl
theorem Tryz.cells_int : Tryz.prog.cellsOf 3 = 1 := by kernel_rfl
theorem Tryz.cells_u64 : Tryz.prog.cellsOf 59 = 1 := by kernel_rfl
theorem Tryz.cells_str : Tryz.prog.cellsOf 9 = 1 := by kernel_rfl
set_option maxRecDepth 100000 in
theorem links_open {H : Type} {enc : TypeId × Value → H} {w : World} {base fuel : Nat} {held : Bool} {v : Value} {x : DataW H × List MemPlace} (h : DataW.trod enc Tryz.prog w base (fun _ => true) held fuel 22 [v] = some x) : ∃ len, LinksIn w v len := by
  rcases open_slice Tryz.underlying22 h with ⟨hcs, _⟩ | ⟨a, len, cap, m, n, D, Pl, hcs, _, hl, hm, hmm, hx, hel⟩
  · injection hcs with hcs _
    subst hcs
    exact ⟨0, ⟨none, 0, rfl, .inl rfl⟩, by omega⟩
  · injection hcs with hcs _
    subst hcs
    simp only [if_true] at hmm
    refine ⟨len, ⟨some a, cap, rfl, ?_⟩, by unfold maxLen at hm; omega⟩
    have each : ∀ i, i < len → ∃ l : Lk, Lkb l ∧ ∀ j u, (lcs l)[j]? = some u → w.cell? ((a.add (i * 4)).add j) = some u := by
      intro i hi
      obtain ⟨cs', h1, h2⟩ := hel i (by omega)
      rw [Tryz.cellsLink] at h1
      obtain ⟨_, hlen, hcell⟩ := World.cells?_some h1
      obtain ⟨y0, y1, y2, y3, k, hxy, _, g0, g1, g2, g3⟩ := trod_struct4 Tryz.underlying61 h2
      match cs', hlen with
      | [v0, v1, v2, v3], _ =>
        have e0 := hcell 0 (by omega)
        have e1 := hcell 1 (by omega)
        have e2 := hcell 2 (by omega)
        have e3 := hcell 3 (by omega)
        obtain ⟨n0, f0, _, w0⟩ := DataW.trod_int (fuel := k) (cs := [v0]) Tryz.underlying3 (by simpa [Tryz.cells_int] using g0)
        obtain ⟨n1, f1, _, w1⟩ := DataW.trod_int (fuel := k) (cs := [v1]) Tryz.underlying59 (by simpa [Tryz.cells_u64] using g1)
        obtain ⟨n2, f2, _, w2⟩ := DataW.trod_int (fuel := k) (cs := [v2]) Tryz.underlying59 (by simpa [Tryz.cells_u64] using g2)
        obtain ⟨s, f3, _, hs⟩ := DataW.trod_string (fuel := k) (cs := [v3]) Tryz.underlying9 (by simpa [Tryz.cells_str] using g3)
        injection f0 with f0 _
        injection f1 with f1 _
        injection f2 with f2 _
        injection f3 with f3 _
        subst f0 f1 f2 f3
        have b1 := bounds_u64 w1
        have b2 := bounds_u64 w2
        refine ⟨⟨n0, n1.toNat, n2.toNat, sl s⟩, ⟨by simp only; omega, by simp only; omega, sl_byte s, by simp only [sl_len]; unfold maxLen at hs; omega⟩, fun j u hu => ?_⟩
        have q1 : ((n1.toNat : Nat) : Int) = n1 := by omega
        have q2 : ((n2.toNat : Nat) : Int) = n2 := by omega
        simp only [lcs, nstr_sl, q1, q2] at hu
        match j, hu with
        | 0, hu => simp at hu; subst hu; simpa using e0
        | 1, hu => simp at hu; subst hu; simpa using e1
        | 2, hu => simp at hu; subst hu; simpa using e2
        | 3, hu => simp at hu; subst hu; simpa using e3
        | j + 4, hu => simp at hu
    by_cases hz : len = 0
    · exact .inl hz
    · obtain ⟨b, off, spot⟩ := a
      obtain ⟨l0, _, h1⟩ := each 0 (by omega)
      have hspot : spot = none := by
        have := h1 0 (.int .i64 l0.v) rfl
        simpa [Addr.add] using World.cell?_spot this
      subst hspot
      refine .inr ⟨b, off, rfl, fun i hi => ?_⟩
      obtain ⟨l, hl, hc⟩ := each i hi
      refine ⟨l, hl, fun j u hu => ?_⟩
      have := hc j u hu
      rw [addr_add, addr_add] at this
      exact this
theorem strs_open {H : Type} {enc : TypeId × Value → H} {w : World} {base fuel : Nat} {held : Bool} {v : Value} {x : DataW H × List MemPlace} (h : DataW.trod enc Tryz.prog w base (fun _ => true) held fuel 25 [v] = some x) : ∃ len, StrsIn w v len := by
  rcases open_strings Tryz.underlying25 Tryz.underlying9 Tryz.cells_str h with ⟨hcs, _⟩ | ⟨a, len, cap, ss, hcs, _, hl, hm, hmm, hx, hel, hsz⟩
  · injection hcs with hcs _
    subst hcs
    exact ⟨0, ⟨none, 0, rfl, .inl rfl⟩, by omega⟩
  · injection hcs with hcs _
    subst hcs
    simp only [if_true] at hmm
    refine ⟨len, ⟨some a, cap, rfl, ?_⟩, by unfold maxLen at hm; omega⟩
    by_cases hz : len = 0
    · exact .inl hz
    · obtain ⟨b, off, spot⟩ := a
      have hspot : spot = none := by
        have := hel 0 (by omega)
        simpa [Addr.add] using World.cell?_spot this
      subst hspot
      refine .inr ⟨b, off, rfl, fun i hi => ?_⟩
      have h1 := hel i (by omega)
      rw [addr_add] at h1
      refine ⟨_, ?_, h1⟩
      have hi2 : i < ss.length := by omega
      rw [List.getD_eq_getElem?_getD, List.getElem?_eq_getElem hi2]
      have := hsz _ (List.getElem_mem hi2)
      unfold maxLen at this
      exact this
section
variable {H : Type} {enc : TypeId × Value → H} {P : Program} {w : World} {base : Nat} {spare : Nat → Bool} {held : Bool}
/-- A struct of five fields of one cell. -/
theorem open_agg5 {r : Reach} {b0 : Nat} {t : TypeId} {f0 f1 f2 f3 f4 : Field} {v : Value} {d : DataW H} {p : List MemPlace} (hs : P.underlying t = some (.struct #[f0, f1, f2, f3, f4])) (hone : oneCellFields P #[f0, f1, f2, f3, f4] = true) (hC : P.cellsOf t = 5)
    (hv : Value.okWide P w r b0 t v) (h : DataW.Trod enc P w base spare held t v d p) :
    ∃ (v0 v1 v2 v3 v4 : Value) (y0 y1 y2 y3 y4 : DataW H × List MemPlace) (n : Nat), v = .agg #[v0, v1, v2, v3, v4] ∧ d = .agg [y0.1, y1.1, y2.1, y3.1, y4.1] ∧
      DataW.trod enc P w base spare held n f0.type [v0] = some y0 ∧ DataW.trod enc P w base spare held n f1.type [v1] = some y1 ∧ DataW.trod enc P w base spare held n f2.type [v2] = some y2 ∧ DataW.trod enc P w base spare held n f3.type [v3] = some y3 ∧ DataW.trod enc P w base spare held n f4.type [v4] = some y4 := by
  obtain ⟨cs, rfl, hsz⟩ := okWide_struct hs hv
  obtain ⟨l⟩ := cs
  match l, hsz.trans hC with
  | [c0, c1, c2, c3, c4], _ =>
    obtain ⟨fuel, hf⟩ := h
    obtain ⟨xs, n, _, hx, hl, hlen, hff⟩ := DataW.trod_struct hs hf
    match xs, hlen with
    | [y0, y1, y2, y3, y4], _ =>
      obtain ⟨o0, k0⟩ := hone_of hone 0 f0 rfl
      obtain ⟨o1, k1⟩ := hone_of hone 1 f1 rfl
      obtain ⟨o2, k2⟩ := hone_of hone 2 f2 rfl
      obtain ⟨o3, k3⟩ := hone_of hone 3 f3 rfl
      obtain ⟨o4, k4⟩ := hone_of hone 4 f4 rfl
      have h0 := hff 0 f0 rfl
      have h1 := hff 1 f1 rfl
      have h2 := hff 2 f2 rfl
      have h3 := hff 3 f3 rfl
      have h4 := hff 4 f4 rfl
      simp only [Prod.mk.injEq] at hx
      exact ⟨c0, c1, c2, c3, c4, y0, y1, y2, y3, y4, n, rfl, by simpa using hx.1, by simpa [Value.cells, o0, k0] using h0, by simpa [Value.cells, o1, k1] using h1, by simpa [Value.cells, o2, k2] using h2, by simpa [Value.cells, o3, k3] using h3, by simpa [Value.cells, o4, k4] using h4⟩
end
end
section
open Go.ChangeShapes Go.WideShapes Go.ChangeAt Go.RowKit Go
/-- What the rows lay. -/
def kki : List Int := kk.map fun n => ((n : Nat) : Int)
theorem cbN : Tryz.prog.globalNamed "trellis/digest.cubes" = some 0 := by kernel_rfl
theorem cbT : (Tryz.prog.globals[0]?).map (·.type) = some 190 := by kernel_rfl
theorem cellsU32 : Tryz.prog.cellsOf 180 = 1 := by kernel_rfl
theorem cells64 : Tryz.prog.cellsOf 190 = 64 := by kernel_rfl
theorem cb_of_laid {W : World} (h : laidMet Tryz.prog [("trellis/digest.cubes", Rows.laid_trellis_digest_cubes)] W) : Cb W := by
  have h' : laidMet Tryz.prog (("trellis/digest.cubes", Lib.tabData .u32 kki) :: []) W := h
  have t := Lib.tabIs_of_head cbN cbT Tryz.underlying190 Tryz.underlying180 cellsU32 cells64 h'
  refine ⟨fun i hi => ?_⟩
  have hc := t.cell cbN i (by rw [kki, List.length_map]; exact hi)
  rw [hc]
  congr 2
  simp only [kki, List.getD_eq_getElem?_getD, List.getElem?_map]
  have hl : i < kk.length := hi
  rw [List.getElem?_eq_getElem hl]
  rfl
/-- The settled world, the table laid. -/
noncomputable def laidWorld (os : Os) : World :=
  let w0 := World.holding Tryz.prog os ⟨#[], #[], []⟩
  { w0 with heap := w0.heap.modify 0 fun
      | .cells _ t frozen => .cells (wv kk).toArray t frozen
      | o => o }
theorem laid_met (os : Os) (args : Array Value) : laidMet Tryz.prog [("trellis/digest.cubes", Rows.laid_trellis_digest_cubes)] ((laidWorld os).forCall (fun _ _ => 0) ⟨#[], args, []⟩).memory :=
  laidMet_of_run' 8 (by kernel_rfl) (by kernel_rfl)
end
section
open Go.ChangeShapes Go.WideShapes Go.ChangeAt Go.RowKit Go.Deep Go.Joins Go
theorem Tryz.cellsLinks : Tryz.prog.cellsOf 28 = 5 := by kernel_rfl
set_option maxRecDepth 1000000 in
/-- The argument opened. -/
theorem links_arg {H : Type} {enc : TypeId × Value → H} {W : World} {base : Nat} {r : Reach} {b0 : Nat} {held : Bool} {v0 : Value} {d0 : DataW H} {p : List MemPlace} (hv : Value.okWide Tryz.prog W r b0 28 v0)
    (h0 : DataW.Trod enc Tryz.prog W base (fun _ => true) held 28 v0 d0 p) (hsz : (d0.weights Tryz.prog 28).all (· ≤ reachBytes) = true) :
    ∃ aL nL cL v1 aB nB cB aS nS cS v4, v0 = .agg #[.slice aL nL cL, v1, .slice aB nB cB, .slice aS nS cS, v4] ∧ LinksIn W (.slice aL nL cL) nL ∧ RowsIn W (.slice aB nB cB) nB ∧ StrsIn W (.slice aS nS cS) nS := by
  obtain ⟨c0, c1, c2, c3, c4, y0, y1, y2, y3, y4, m, rfl, hd, hy0, hy1, hy2, hy3, hy4⟩ := open_agg5 Tryz.underlying28 (by kernel_rfl) Tryz.cellsLinks hv h0
  subst hd
  have hs2 : (DataW.weightsEach Tryz.prog [22, 23, 24, 25, 26] [y0.1, y1.1, y2.1, y3.1, y4.1]).all (· ≤ reachBytes) = true := by
    simp only [DataW.weights, Tryz.underlying28] at hsz
    exact hsz
  obtain ⟨nL, hL⟩ := links_open hy0
  obtain ⟨nB, hB⟩ := rows_open hy2 hs2 (j := 2) rfl rfl
  obtain ⟨nS, hS⟩ := strs_open hy3
  obtain ⟨aL, cL, rfl, _⟩ := id hL.form
  obtain ⟨aB, cB, rfl, _⟩ := id hB.form
  obtain ⟨aS, cS, rfl, _⟩ := id hS.form
  exact ⟨aL, nL, cL, c1, aB, nB, cB, aS, nS, cS, c4, rfl, hL, hB, hS⟩
end
section
open Go.RowKit Go
set_option maxRecDepth 1000000 in
set_option maxHeartbeats 1000000 in
theorem check_any (w : World) (l : Lk) (hl : Lkb l) : Calls Tryz.prog 7 #[lkv l] w fun e w' => e = .returned (.int .i64 (if lok l then 0 else 40)) ∧ Below w.heap.size w w' := by
  generalize hR : (if lok l then (0 : Int) else 40) = R
  have HR := hide hR
  clear hR
  have HL := hide hl
  have HLO : Hid (∀ x ∈ (⟨0, 112, 18, l.d⟩ : Lk).d, x < 256) := hl.d
  have HOL : Hid (lcs ⟨0, 112, 18, l.d⟩ = #[.int .i64 0, .int .u64 112, .int .u64 18, .string (nstr l.d)]) := rfl
  have HT : Hid ((w.alloc (.cells #[.int .i64 l.v, .int .u64 (l.c : Nat), .int .u64 (l.h : Nat), .string (nstr l.d)] 61)).heap[w.heap.size]? = some (.cells (lcs l) 61 (0, 0))) := heap_alloc_new w _
  have HB := hide (below_alloc4 w (.cells #[.int .i64 l.v, .int .u64 (l.c : Nat), .int .u64 (l.h : Nat), .string (nstr l.d)] 61))
  simp only [lkv]
  go_enter Tryz.func7, Tryz.ntmps7
  go_wp2_with fail
  generalize w.alloc (.cells #[.int .i64 l.v, .int .u64 (l.c : Nat), .int .u64 (l.h : Nat), .string (nstr l.d)] 61) = w0 at *
  go_cut [3] (fun c wx => c = .bool (decide (l = ⟨0, 112, 18, l.d⟩) && decide (okd l.h l.d)) ∧ Hid (Below w0.heap.size w0 wx))
  case first => as_aux_lemma =>
    have q3 : ∀ t : Ext w0, t.w'.cell? ⟨w.heap.size, 3, none⟩ = some (.string (nstr l.d)) := fun t => Ext.cell (blk_cell HT.out rfl) t
    have HQ : Hid (∀ wx, (∃ t : Ext w0, wx = t.w') → wx.heap[w.heap.size]? = some (.cells (lcs l) 61 (0, 0))) := by
      rintro _ ⟨t, rfl⟩
      exact (t.h.block _ (blk_lt HT.out)).trans HT.out
    have HCO : Hid (∀ t : Ext w0, Calls Tryz.prog 28 #[.string (nstr l.d)] t.w' fun e w'' => e = .returned (.agg (lcs ⟨0, 112, 18, l.d⟩)) ∧ ∃ t' : Ext w0, w'' = t'.w') := fun t => Calls.ext_below (old_any t.w' (nstr l.d))
    have HCF : Hid (∀ t : Ext w0, Calls Tryz.prog 29 #[.agg (lcs l)] t.w' fun e w'' => e = .returned (.bool (decide (okd l.h l.d))) ∧ ∃ t' : Ext w0, w'' = t'.w') := fun t => Calls.ext_below (fits4_any t.w' l HL.out)
    have HEQ : Hid (∀ wx, (∃ t : Ext w0, wx = t.w') → (Op.equalIn 10000 61 (.agg (lcs l)) (.agg (lcs ⟨0, 112, 18, l.d⟩))).run Tryz.prog wx = .ok (decide (l = ⟨0, 112, 18, l.d⟩)) wx) := fun wx _ => eqlk wx HL.out.d HLO.out
    generalize hbb : decide (l = ⟨0, 112, 18, l.d⟩) = bb at *
    generalize lcs ⟨0, 112, 18, l.d⟩ = ol at *
    have HCN : Hid ((lcs l).size = 4) := rfl
    generalize lcs l = cl at *
    clear hbb
    cases bb
    · refine region_ext (by kernel_rfl) (by kernel_rfl) ?_
      repeat (
        refine wpQuiet_step (fun K hK => ?_)
        first
          | (refine qstep_link rfl rfl w.heap.size cl rfl HCN.out HQ.out (hK _ ?_); clear hK K)
          | (refine qstep_eqlk rfl rfl cl ol false rfl rfl HEQ.out (hK _ ?_); clear hK K)
          | (go_simp
             first
               | (refine hK _ ?_; clear hK K)
               | (apply Exists.intro
                  refine ⟨fun _ => ?_, hK _ ?_⟩
                  (first
                    | (go_at_call 28; exact HCO.out _)
                    | (go_at_call 29; exact HCF.out _))
                  clear hK K)))
      refine wpQuiet_nil ?_
      rintro _ ⟨tq, rfl⟩
      go_wp2_with fail
      go_meet
      case rel => exact ⟨rfl, tq.h⟩
    · refine region_ext (by kernel_rfl) (by kernel_rfl) ?_
      repeat (
        refine wpQuiet_step (fun K hK => ?_)
        first
          | (refine qstep_link rfl rfl w.heap.size cl rfl HCN.out HQ.out (hK _ ?_); clear hK K)
          | (refine qstep_eqlk rfl rfl cl ol true rfl rfl HEQ.out (hK _ ?_); clear hK K)
          | (go_simp
             first
               | (refine hK _ ?_; clear hK K)
               | (apply Exists.intro
                  refine ⟨fun _ => ?_, hK _ ?_⟩
                  (first
                    | (go_at_call 28; exact HCO.out _)
                    | (go_at_call 29; exact HCF.out _))
                  clear hK K)))
      refine wpQuiet_nil ?_
      rintro _ ⟨tq, rfl⟩
      go_wp2_with fail
      go_meet
      case rel => exact ⟨rfl, tq.h⟩
  case rest => as_aux_lemma =>
    obtain ⟨rfl, hb1⟩ := hcut
    have HT1 : Hid (wc.heap[w.heap.size]? = some (.cells (lcs l) 61 (0, 0))) := (hb1.out.block _ (blk_lt HT.out)).trans HT.out
    have HB1 : Hid (Below w.heap.size w wc) := HB.out.trans (hb1.out.mono HB.out.size)
    have HK : Hid (lok l ↔ (l = ⟨0, 112, 18, l.d⟩ ∧ okd l.h l.d) ∨ (l.v = 1 ∧ l.c < 9223372036854775808 ∧ okd l.h l.d)) := by
      show _ ↔ _
      unfold lok
      rw [lk_ext]
      constructor
      · rintro (⟨h1, h2, h3, h4⟩ | h)
        · exact .inl ⟨⟨h1, h2, h3, rfl⟩, .inl ⟨h3, h4⟩⟩
        · exact .inr h
      · rintro (⟨⟨h1, h2, h3, _⟩, h | h⟩ | h)
        · exact .inl ⟨h1, h2, h3, h.2⟩
        · simp only at h1 h2 h3
          omega
        · exact .inr h
    clear hb1 HT HB HOL HLO
    by_cases hc1 : l = ⟨0, 112, 18, l.d⟩ ∧ okd l.h l.d
    · as_aux_lemma =>
      have e1 : (decide (l = ⟨0, 112, 18, l.d⟩) && decide (okd l.h l.d)) = true := by rw [decide_eq_true hc1.1, decide_eq_true hc1.2]; rfl
      have HZ : Hid (R = 0) := by show _ = _; rw [← HR.out, if_pos (HK.out.2 (.inl hc1))]
      rw [e1]
      clear e1 hc1 HR HK
      go_wp2_with fail
      go_ret
      exact ⟨by rw [HZ.out]; rfl, HB1.out⟩
    · have e1 : (decide (l = ⟨0, 112, 18, l.d⟩) && decide (okd l.h l.d)) = false := by
        rw [Bool.and_eq_false_iff, decide_eq_false_iff_not, decide_eq_false_iff_not]
        exact Decidable.not_and_iff_or_not.1 hc1
      rw [e1]
      have HE : Hid (lok l ↔ (l.v = 1 ∧ l.c < 9223372036854775808 ∧ okd l.h l.d)) := HK.out.trans ⟨fun h => h.resolve_left hc1, .inr⟩
      have q0 : wc.cell? ⟨w.heap.size, 0, none⟩ = some (.int .i64 l.v) := blk_cell HT1.out rfl
      have q1 : wc.cell? ⟨w.heap.size, 1, none⟩ = some (.int .u64 (l.c : Nat)) := blk_cell HT1.out rfl
      have q2 : wc.cell? ⟨w.heap.size, 2, none⟩ = some (.int .u64 (l.h : Nat)) := blk_cell HT1.out rfl
      have q3 : wc.cell? ⟨w.heap.size, 3, none⟩ = some (.string (nstr l.d)) := blk_cell HT1.out rfl
      have HF := hide (fits4_any wc l HL.out)
      simp only [lkv] at HF
      have HCL := hide HL.out.c
      clear e1 hc1 HK HL hl HT1
      generalize nstr l.d = S at *
      obtain ⟨v, c, h, d⟩ := l
      simp only at *
      by_cases hv : v = 1
      · subst hv
        generalize hn : (c : Int) = n at *
        have HN := hide hn
        clear hn
        by_cases hc63 : n < 9223372036854775808
        · as_aux_lemma =>
          have HZ : Hid (R = if okd h d then 0 else 40) := by
            show _ = _
            rw [← HR.out]
            have := HN.out
            by_cases hk : okd h d
            · rw [if_pos hk, if_pos (HE.out.2 ⟨rfl, by omega, hk⟩)]
            · rw [if_neg hk, if_neg (fun e => hk (HE.out.1 e).2.2)]
          clear HE HR HN
          go_wp2_with fail
          refine HF.out.mono ?_
          rintro e w2 ⟨rfl, hb2⟩
          have HB2 : Hid (Below w.heap.size w w2) := HB1.out.trans (hb2.mono HB1.out.size)
          clear hb2 HF
          by_cases hk : okd h d
          · rw [decide_eq_true hk]
            rw [if_pos hk] at HZ
            go_wp2_with fail
            go_ret
            exact ⟨by rw [HZ.out]; rfl, HB2.out⟩
          · rw [decide_eq_false hk]
            rw [if_neg hk] at HZ
            go_wp2_with fail
            go_ret
            exact ⟨by rw [HZ.out]; rfl, HB2.out⟩
        · as_aux_lemma =>
          have g2' : (9223372036854775808 : Int) ≤ n := by omega
          have HZ : Hid (R = 40) := by show _ = _; rw [← HR.out, if_neg (fun e => hc63 (by have := (HE.out.1 e).2.1; have := HN.out; omega))]
          clear HE HR HN hc63
          go_wp2_with fail
          go_ret
          exact ⟨by rw [HZ.out]; rfl, HB1.out⟩
      · as_aux_lemma =>
        have g1 : (v == 1) = false := beq_eq_false_iff_ne.2 hv
        have HZ : Hid (R = 40) := by show _ = _; rw [← HR.out, if_neg (fun e => hv (HE.out.1 e).1)]
        clear HE HR hv
        go_wp2_with fail
        go_ret
        exact ⟨by rw [HZ.out]; rfl, HB1.out⟩
end
section
open Go.RowKit Go
/-- How a function ends whose first result is a struct. -/
theorem end_c2 {fn : Func} {p q : Tmp} {T : TypeId} {fs : Array Field} {wx : World} {R : Nat} {cs : Array Value} {x : Value} {tmps : Array Value} (hf : fn.results = #[.cell p T, .tmp q]) (hu : Tryz.prog.underlying T = some (.struct fs)) {n : Nat} (hi : (Tryz.prog.info? T).map (·.size) = some n) (hn : cs.size = n)
    (hr : wx.heap[R]? = some (.cells cs T (0, 0))) (hp : tmps.getD p undef = .pointer (some ⟨R, 0, none⟩)) (hx : tmps.getD q undef = x) : (results fn tmps).run Tryz.prog wx = .ok (.tuple #[.agg cs, x]) wx := by
  refine (results_cell_tmp hf _ _ _).trans ?_
  rw [hp, hx]
  have h1 := run_loadVar_row (P := Tryz.prog) wx R T T cs (0, 0) _ hr hu rfl (by rw [hn]; exact hi)
  simp [asAddr, h1, Result.andThen]
theorem end_c3 {fn : Func} {p q s : Tmp} {T : TypeId} {fs : Array Field} {wx : World} {R : Nat} {cs : Array Value} {x y : Value} {tmps : Array Value} (hf : fn.results = #[.cell p T, .tmp q, .tmp s]) (hu : Tryz.prog.underlying T = some (.struct fs)) {n : Nat} (hi : (Tryz.prog.info? T).map (·.size) = some n) (hn : cs.size = n)
    (hr : wx.heap[R]? = some (.cells cs T (0, 0))) (hp : tmps.getD p undef = .pointer (some ⟨R, 0, none⟩)) (hx : tmps.getD q undef = x) (hy : tmps.getD s undef = y) : (results fn tmps).run Tryz.prog wx = .ok (.tuple #[.agg cs, x, y]) wx := by
  refine (results_c3 hf _ _ _).trans ?_
  rw [hp, hx, hy]
  have h1 := run_loadVar_row (P := Tryz.prog) wx R T T cs (0, 0) _ hr hu rfl (by rw [hn]; exact hi)
  simp [asAddr, h1, Result.andThen]
/-- A whole link is laid. -/
theorem wpList_storeLk {ops : Array Oper} {rest : List Oper} {o : Oper} {a : Act} {Q : Exit → Act → World → Prop} {w : World} {p x : Operand} (hgd : o.guard = none) (ho : o.op = .store 61 p x) (g : Nat) (old : Array Value) (l : Lk)
    (hp : a.eval p = .pointer (some ⟨g, 0, none⟩)) (hx : a.eval x = .agg (lcs l)) (hn : old.size = 4) (hg : w.heap[g]? = some (.cells old 61 (0, 0))) (h : wpList Tryz.prog ops Q rest (a.put o.dst undef) (w.setRow g (lcs l))) : wpList Tryz.prog ops Q (o :: rest) a w :=
  wpList_storeRow hgd ho g old (lcs l) 61 hp hx hg info61 (by rw [hn]; rfl) (by kernel_rfl) h
end
section
open Go.RowKit Go
/-- The digits as a string. -/
def s16 : ByteArray := ⟨#[48, 49, 50, 51, 52, 53, 54, 55, 56, 57, 97, 98, 99, 100, 101, 102]⟩
def s32 : ByteArray := ⟨#[97, 98, 99, 100, 101, 102, 103, 104, 105, 106, 107, 108, 109, 110, 111, 112, 113, 114, 115, 116, 117, 118, 119, 120, 121, 122, 50, 51, 52, 53, 54, 55]⟩
def s58 : ByteArray := ⟨#[49, 50, 51, 52, 53, 54, 55, 56, 57, 65, 66, 67, 68, 69, 70, 71, 72, 74, 75, 76, 77, 78, 80, 81, 82, 83, 84, 85, 86, 87, 88, 89, 90, 97, 98, 99, 100, 101, 102, 103, 104, 105, 106, 107, 109, 110, 111, 112, 113, 114, 115, 116, 117, 118, 119, 120, 121, 122]⟩
theorem sl16 : sl s16 = d16 := by decide
theorem sl32 : sl s32 = d32 := by decide
theorem sl58 : sl s58 = d58 := by decide
/-- A base of the landed code. -/
structure Bs where
  l : ByteArray
  t : ByteArray
  n : Nat
def Bs.cs (b : Bs) : Array Value := #[.string b.l, .string b.t, .int .i64 (b.n : Nat)]
def b16 : Bs := ⟨⟨#[102]⟩, s16, 4⟩
def b32 : Bs := ⟨⟨#[98]⟩, s32, 5⟩
def b58 : Bs := ⟨⟨#[122]⟩, s58, 0⟩
def b0 : Bs := ⟨⟨#[]⟩, ⟨#[]⟩, 0⟩
def bof (n : Int) : Bs := if n = 1 then b16 else if n = 2 then b32 else if n = 3 then b58 else b0
theorem infoB : (Tryz.prog.info? 108).map (·.size) = some 3 := by kernel_rfl
theorem wpList_storeB {ops : Array Oper} {rest : List Oper} {o : Oper} {a : Act} {Q : Exit → Act → World → Prop} {w : World} {p x : Operand} (hgd : o.guard = none) (ho : o.op = .store 108 p x) (g : Nat) (old : Array Value) (b : Bs)
    (hp : a.eval p = .pointer (some ⟨g, 0, none⟩)) (hx : a.eval x = .agg b.cs) (hn : old.size = 3) (hg : w.heap[g]? = some (.cells old 108 (0, 0))) (h : wpList Tryz.prog ops Q rest (a.put o.dst undef) (w.setRow g b.cs)) : wpList Tryz.prog ops Q (o :: rest) a w :=
  wpList_storeRow hgd ho g old b.cs 108 hp hx hg infoB (by rw [hn]; rfl) (by kernel_rfl) h
theorem wpList_loadB {ops : Array Oper} {rest : List Oper} {o : Oper} {a : Act} {Q : Exit → Act → World → Prop} {w : World} {p : Operand} (hgd : Region.wanted o (yielded ops a.tmps) = true) (ho : o.op = .load 108 p) (g : Nat) (cs : Array Value)
    (hp : a.eval p = .pointer (some ⟨g, 0, none⟩)) (hn : cs.size = 3) (hg : w.heap[g]? = some (.cells cs 108 (0, 0))) (h : wpList Tryz.prog ops Q rest (a.put o.dst (.agg cs)) w) : wpList Tryz.prog ops Q (o :: rest) a w := by
  refine wpList_wanted hgd fun K hK => ?_
  unfold Oper.wp execOp
  have hr : (Instr.loadAt 108 (.pointer (some ⟨g, 0, none⟩))).run Tryz.prog w = .ok (.agg cs) w := by
    simp only [Instr.loadAt, Instr.sureAddr, Sem.run_bind, Sem.run_pure, Result.andThen]
    exact run_loadVar_row (P := Tryz.prog) w g 108 108 cs (0, 0) _ hg Tryz.underlying108 rfl (by rw [hn]; exact infoB)
  simp only [ho, Sem.run_bind, hp, hr, Result.andThen_ok]
  exact hK _ _ h
set_option maxRecDepth 1000000 in
set_option maxHeartbeats 1000000 in
theorem baseOf_any (w : World) (n : Int) : Calls Tryz.prog 46 #[.int .i64 n] w fun e w' => e = .returned (.tuple #[.agg (bof n).cs, .bool (decide (n = 1 ∨ n = 2 ∨ n = 3))]) ∧ Below w.heap.size w w' := by
  have HR0 : Hid ((w.alloc (.cells #[.string ⟨#[]⟩, .string ⟨#[]⟩, .int .i64 0] 108)).heap[w.heap.size]? = some (.cells b0.cs 108 (0, 0))) := heap_alloc_new w _
  have HB0 := hide (below_alloc4 w (.cells #[.string ⟨#[]⟩, .string ⟨#[]⟩, .int .i64 0] 108))
  have HBW : Hid (∀ cs, Below w.heap.size w ((w.alloc (.cells #[.string ⟨#[]⟩, .string ⟨#[]⟩, .int .i64 0] 108)).setRow w.heap.size cs)) := fun cs => HB0.out.trans ((row_kp _ _ _).below HB0.out.size (fun q e => by omega))
  by_cases h1 : n = 1
  · subst h1
    go_enter Tryz.func46, Tryz.ntmps46
    go_wp2_with (refine wpList_storeB rfl rfl w.heap.size b0.cs b16 rfl rfl rfl HR0.out ?_)
    exact bodyPost_ret (end_c2 rfl Tryz.underlying108 infoB rfl (row_same HR0.out) rfl rfl) rfl ⟨rfl, HBW.out _⟩
  · have g1 : (n == 1) = false := beq_eq_false_iff_ne.2 h1
    by_cases h2 : n = 2
    · subst h2
      go_enter Tryz.func46, Tryz.ntmps46
      go_wp2_with (refine wpList_storeB rfl rfl w.heap.size b0.cs b32 rfl rfl rfl HR0.out ?_)
      exact bodyPost_ret (end_c2 rfl Tryz.underlying108 infoB rfl (row_same HR0.out) rfl rfl) rfl ⟨rfl, HBW.out _⟩
    · have g2 : (n == 2) = false := beq_eq_false_iff_ne.2 h2
      by_cases h3 : n = 3
      · subst h3
        go_enter Tryz.func46, Tryz.ntmps46
        go_wp2_with (refine wpList_storeB rfl rfl w.heap.size b0.cs b58 rfl rfl rfl HR0.out ?_)
        exact bodyPost_ret (end_c2 rfl Tryz.underlying108 infoB rfl (row_same HR0.out) rfl rfl) rfl ⟨rfl, HBW.out _⟩
      · have g3 : (n == 3) = false := beq_eq_false_iff_ne.2 h3
        have HE : Hid (bof n = b0 ∧ decide (n = 1 ∨ n = 2 ∨ n = 3) = false) := by
          refine ⟨?_, decide_eq_false (by omega)⟩
          unfold bof
          rw [if_neg h1, if_neg h2, if_neg h3]
        rw [HE.out.1, HE.out.2]
        clear h1 h2 h3
        go_enter Tryz.func46, Tryz.ntmps46
        go_wp2_with (refine wpList_storeB rfl rfl w.heap.size b0.cs b0 rfl rfl rfl HR0.out ?_)
        exact bodyPost_ret (end_c2 rfl Tryz.underlying108 infoB rfl (row_same HR0.out) rfl rfl) rfl ⟨rfl, HBW.out _⟩
end
section
open Go.RowKit Go
/-- Which digit each byte is, counted from 1, by the first k digits. -/
def plt (t : List Nat) : Nat → List Nat
  | 0 => List.replicate 256 0
  | k + 1 => (plt t k).set (t.getD k 0) (k + 1)
theorem plt_len (t : List Nat) : ∀ k, (plt t k).length = 256
  | 0 => List.length_replicate
  | k + 1 => by rw [plt, List.length_set, plt_len t k]
theorem bv_set (l : List Nat) (i x : Nat) : (bv l).toArray.setIfInBounds i (.int .u8 ((x : Nat) : Int)) = (bv (l.set i x)).toArray := by
  simp [bv, List.map_set]
theorem zero256 : Tryz.zeroCells188 = (bv (List.replicate 256 0)).toArray := by kernel_rfl
theorem info256 : (Tryz.prog.info? 188).map (·.size) = some 256 := by kernel_rfl
/-- How a function ends whose result is an array. -/
theorem end_a1 {fn : Func} {p : Tmp} {T e : TypeId} {m n : Nat} {wx : World} {R : Nat} {cs : Array Value} {tmps : Array Value} (hf : fn.results = #[.cell p T]) (hu : Tryz.prog.underlying T = some (.array m e)) (hi : (Tryz.prog.info? T).map (·.size) = some n) (hn : cs.size = n)
    (hr : wx.heap[R]? = some (.cells cs T (0, 0))) (hp : tmps.getD p undef = .pointer (some ⟨R, 0, none⟩)) : (results fn tmps).run Tryz.prog wx = .ok (.agg cs) wx := by
  refine (results_one hf _ _ _).trans ?_
  rw [hp]
  have h1 := run_loadVar_row (P := Tryz.prog) wx R T T cs (0, 0) _ hr hu rfl (by rw [hn]; exact hi)
  simp [asAddr, h1, Result.andThen]
theorem sl_at (D : ByteArray) (k : Nat) (h : k < D.size) : (sl D).getD k 0 = D[k].toNat := by
  rw [sl_get]
  congr 1
  have h2 : k < D.data.toList.length := by rw [Array.length_toList]; exact h
  rw [List.getD_eq_getElem?_getD, List.getElem?_eq_getElem h2]
  rfl
/-- What places has in hand. -/
structure Plw (w wx : World) (L D : ByteArray) (n : Int) (k : Nat) : Prop where
  r : wx.heap[w.heap.size]? = some (.cells #[.string L, .string D, .int .i64 n] 108 (0, 0))
  z : wx.heap[w.heap.size + 1]? = some (.cells (bv (List.replicate 256 0)).toArray 188 (0, 0))
  o : wx.heap[w.heap.size + 1 + 1]? = some (.cells (bv (plt (sl D) k)).toArray 188 (0, 0))
  b : Below w.heap.size w wx
set_option maxRecDepth 1000000 in
set_option maxHeartbeats 1000000 in
theorem places_any (w : World) (L D : ByteArray) (n : Int) (hD : D.size ≤ 58) :
    Calls Tryz.prog 108 #[.agg #[.string L, .string D, .int .i64 n]] w fun e w' => e = .returned (.agg (bv (plt (sl D) D.size)).toArray) ∧ Below w.heap.size w w' := by
  have HP : Hid (Plw w (((w.alloc (.cells #[.string L, .string D, .int .i64 n] 108)).alloc (.cells Tryz.zeroCells188 188)).alloc (.cells Tryz.zeroCells188 188)) L D n 0) := by
    rw [zero256]
    refine ⟨blk_alloc _ (blk_alloc _ (heap_alloc_new w _)), blk_alloc _ (alloc2_new w _ _), ?_, (below_alloc4 w _).trans (((below_alloc4 _ _).trans ((below_alloc4 _ _).mono (by simp))).mono (by simp))⟩
    have h := heap_alloc_new ((w.alloc (.cells #[.string L, .string D, .int .i64 n] 108)).alloc (.cells (bv (List.replicate 256 0)).toArray 188)) (.cells (bv (List.replicate 256 0)).toArray 188)
    have e : ((w.alloc (.cells #[.string L, .string D, .int .i64 n] 108)).alloc (.cells (bv (List.replicate 256 0)).toArray 188)).heap.size = w.heap.size + 1 + 1 := by simp
    rw [e] at h
    exact h
  go_enter Tryz.func108, Tryz.ntmps108
  go_wp2_with fail
  generalize ((w.alloc (.cells #[.string L, .string D, .int .i64 n] 108)).alloc (.cells Tryz.zeroCells188 188)).alloc (.cells Tryz.zeroCells188 188) = w0 at *
  go_loopw [8] (fun ii wx => ∃ k : Nat, k ≤ D.size ∧ ii = .int .i64 (k : Nat) ∧ Hid (Plw w wx L D n k)) (fun ii _ => D.size - (intOf ii).toNat)
  case atStart => exact ⟨0, by omega, rfl, HP⟩
  case round =>
    obtain ⟨k, hk, rfl, HI⟩ := hrel
    clear HP
    by_cases hlt : k < D.size
    · have g1 : (k : Int) < (D.size : Int) := by omega
      have q1 : wr.cell? ⟨w.heap.size, 1, none⟩ = some (.string D) := blk_cell HI.out.r rfl
      have HK := hide hk
      have HX := hide (sl_at D k hlt)
      have hx256 : (D[k].toNat : Int) < 256 := by have := (D[k]).toNat_lt; omega
      have HX2 : Hid (D[k].toNat < 256) := (D[k]).toNat_lt
      have q2 : wr.cell? ⟨w.heap.size + 1 + 1, D[k].toNat, none⟩ = some (.int .u8 (((plt (sl D) k).getD D[k].toNat 0 : Nat) : Int)) := blk_cell HI.out.o (by rw [List.getElem?_toArray]; exact bv_get (by rw [plt_len]; exact HX2.out))
      have f2 : wr.frozen? ⟨w.heap.size + 1 + 1, D[k].toNat, none⟩ = false := blk_frozen _ HI.out.o
      have HS : Hid (Plw w (wr.setCell ⟨w.heap.size + 1 + 1, D[k].toNat, none⟩ (.int .u8 ((k + 1 : Nat) : Int))) L D n (k + 1)) := by
        have hk2 : Kp (fun q => q = w.heap.size + 1 + 1) wr (wr.setCell ⟨w.heap.size + 1 + 1, D[k].toNat, none⟩ (.int .u8 ((k + 1 : Nat) : Int))) := (Kp.refl _ _).setCell _ _ (fun _ => rfl)
        refine ⟨(hk2.block _ (blk_lt HI.out.r) (by omega)).trans HI.out.r, (hk2.block _ (blk_lt HI.out.z) (by omega)).trans HI.out.z, ?_, HI.out.b.trans (hk2.below HI.out.b.size (fun q e => by omega))⟩
        rw [plt, HX.out, ← bv_set]
        exact blk_set _ _ HI.out.o
      have hk58 : (k : Int) + 1 < 256 := by omega
      have HKE : Hid (((k + 1 : Nat) : Int) = (k : Int) + 1) := by show _ = _; omega
      rw [HKE.out] at HS
      clear hk HI HX HX2 hD
      go_wp2_with fail
      go_roundw
      case rel => exact ⟨k + 1, by omega, by go_num, HS⟩
      case measure => simp [intOf]; omega
    · have hkd : k = D.size := by omega
      have g1 : ¬ (k : Int) < (D.size : Int) := by omega
      have HO := hide HI.out.o
      have HZ := hide HI.out.z
      have HB := hide HI.out.b
      have H56 : Hid ((bv (plt (sl D) k)).toArray.size = 256) := by show _ = _; rw [List.size_toArray, bv_len, plt_len]
      have HI6 : Hid ((Tryz.prog.info? 188).map (·.size) = some (bv (plt (sl D) k)).toArray.size) := by show _ = _; rw [H56.out]; exact info256
      have HON : Hid ((bv (plt (sl D) k)).toArray.all (·.oneCell') = true) := by
        show _ = _
        rw [List.all_toArray, List.all_eq_true]
        exact bv_one _
      have HDK : Hid (k = D.size) := hkd
      clear hk hkd HI hlt
      go_wp2_with (first
        | (refine wpList_loadRow rfl rfl (w.heap.size + 1 + 1) 256 (bv (plt (sl D) k)).toArray 188 rfl HO.out Tryz.underlying188 HI6.out ?_)
        | (refine wpList_storeRow rfl rfl (w.heap.size + 1) _ (bv (plt (sl D) k)).toArray 188 rfl rfl HZ.out HI6.out (by rw [H56.out]; simp [bv]) HON.out ?_))
      have HL := hide (row_same HZ.out (cs := (bv (plt (sl D) k)).toArray))
      have HBL := hide (HB.out.trans ((row_kp wr (w.heap.size + 1) (bv (plt (sl D) k)).toArray).below HB.out.size (fun q e => by omega)))
      exact bodyPost_ret (end_a1 rfl Tryz.underlying188 info256 H56.out HL.out rfl) rfl ⟨by rw [← HDK.out], HBL.out⟩
end
section
open Go.RowKit Go
/-- Digits that the table tells. -/
def tells (t : List Nat) : Prop := ∀ c, c < 256 → (plt t t.length).getD c 0 = (match look t c with | some i => i + 1 | none => 0)
theorem tells16 : tells d16 := by unfold tells; decide +kernel
theorem tells32 : tells d32 := by unfold tells; decide +kernel
theorem tells58 : tells d58 := by unfold tells; decide +kernel
theorem looks_snoc (t : List Nat) : ∀ (s : List Nat) (c : Nat), looks t (s ++ [c]) = (looks t s).bind fun l => (look t c).map fun i => l ++ [i]
  | [], c => by
    simp only [List.nil_append, looks]
    cases look t c <;> rfl
  | x :: s, c => by
    simp only [List.cons_append, looks, looks_snoc t s c]
    cases look t x with
    | none => rfl
    | some i =>
      cases looks t s with
      | none => rfl
      | some l => cases look t c <;> rfl
theorem looks_len {t : List Nat} : ∀ {s l : List Nat}, looks t s = some l → l.length = s.length
  | [], l, h => by simp [looks] at h; subst h; rfl
  | x :: s, l, h => by
    unfold looks at h
    obtain ⟨i, _, h⟩ := Option.bind_eq_some_iff.1 h
    obtain ⟨m, hm, rfl⟩ := Option.map_eq_some_iff.1 h
    simp [looks_len hm]
theorem looks_none {t : List Nat} {s r : List Nat} (h : looks t s = none) : looks t (s ++ r) = none := by
  induction s with
  | nil => simp [looks] at h
  | cons x s ih =>
    unfold looks at h
    rw [List.cons_append, looks]
    cases hx : look t x with
    | none => rfl
    | some i =>
      rw [hx] at h
      simp only [Option.bind_some, Option.map_eq_none_iff] at h ⊢
      exact ih h
theorem bv_setL (l : List Nat) (i x : Nat) : (bv l).set i (.int .u8 ((x : Nat) : Int)) = bv (l.set i x) := by
  simp [bv, List.map_set]
theorem set_fill (ds : List Nat) (m x : Nat) (hm : 0 < m) : (ds ++ List.replicate m 0).set ds.length x = (ds ++ [x]) ++ List.replicate (m - 1) 0 := by
  obtain ⟨k, rfl⟩ : ∃ k, m = k + 1 := ⟨m - 1, by omega⟩
  rw [List.replicate_succ, List.set_append_right _ _ (Nat.le_refl _), Nat.sub_self, List.set_cons_zero]
  simp
theorem get_fill (ds : List Nat) (m : Nat) (hm : 0 < m) : (bv (ds ++ List.replicate m 0))[ds.length]? = some (.int .u8 0) := by
  obtain ⟨k, rfl⟩ : ∃ k, m = k + 1 := ⟨m - 1, by omega⟩
  simp [bv, List.replicate_succ]
theorem looks_lt {t s l : List Nat} (h : looks t s = some l) : ∀ i ∈ l, i < t.length := (looks_back h).2
theorem made_bv (c : Nat) : madeCells (Value.int .u8 0).cells c = (bv (List.replicate c 0)).toArray := by
  apply Array.ext'
  simp only [madeCells, Value.cells, bv, List.map_replicate]
  apply List.ext_getElem
  · simp
  · intro j h1 h2
    simp [Nat.mod_one]
/-- make([]byte, l, c). -/

theorem mk_bytes (w : World) (l c : Nat) (h : l ≤ c) (hc : c ≤ 1000000) : (Instr.makeSlice 56 (.int .i64 (l : Nat)) (.int .i64 (c : Nat))).run Tryz.prog w = .ok (.slice (some ⟨w.heap.size, 0, none⟩) l c) (w.alloc (.cells (bv (List.replicate c 0)).toArray 5)) := by
  obtain ⟨i5, hi, hz0, hz1, hz2⟩ := info5_ex
  have hr := run_make (P := Tryz.prog) w 56 5 i5 (.int .u8 0) Tryz.underlying56 hi hz0 .i64 .i64 l c (by omega) (by omega) (by rw [hz2]; omega) (by omega)
  simp only [Int.toNat_natCast, hz1, Nat.mul_one, made_bv] at hr
  exact hr
theorem mk_own (w : World) (B l c : Nat) (h : l ≤ c) (hc : c ≤ 1000000) (hB : B ≤ w.heap.size) : (w.alloc (.cells (bv (List.replicate c 0)).toArray 5)).ownsRow B 5 1 (.slice (some ⟨w.heap.size, 0, none⟩) l c) l (bv (List.replicate l 0)) := by
  refine ⟨by simp [bv], .inr ⟨w.heap.size, c, _, rfl, hB, heap_alloc_new w _, h, by unfold maxLen; omega, by simp [bv], ?_⟩⟩
  simp [bv, List.take_replicate, Nat.min_eq_left h]
/-- What numbers has in hand. -/
structure Nmw (w wx : World) (B : Nat) (tb : List Nat) (v : Value) (n : Nat) (ds : List Nat) : Prop where
  p : wx.heap[B]? = some (.cells (bv tb).toArray 188 (0, 0))
  o : wx.ownsRow w.heap.size 5 1 v n (bv (ds ++ List.replicate (n - ds.length) 0))
  b : Below w.heap.size w wx
set_option maxRecDepth 1000000 in
set_option maxHeartbeats 1000000 in
theorem numbers_any (w : World) (L D s : ByteArray) (m : Int) (hD : D.size ≤ 58) (hT : tells (sl D)) (hs : s.size ≤ 1000) :
    Calls Tryz.prog 82 #[.agg #[.string L, .string D, .int .i64 m], .string s] w fun e w' => ∃ v, e = .returned (.tuple #[v, .bool (looks (sl D) (sl s)).isSome]) ∧ w'.ownsRow w.heap.size 5 1 v ((looks (sl D) (sl s)).getD []).length (bv ((looks (sl D) (sl s)).getD [])) ∧ Below w.heap.size w w' := by
  have HT := hide hT
  have HD := hide hD
  have HB0 := hide (below_alloc4 w (.cells #[.string L, .string D, .int .i64 m] 108))
  clear hT hD
  go_enter Tryz.func82, Tryz.ntmps82
  go_wp2_with fail
  generalize w.alloc (.cells #[.string L, .string D, .int .i64 m] 108) = w0 at *
  refine (places_any w0 L D m HD.out).mono ?_
  rintro e w1 ⟨rfl, hb1⟩
  have HTB : Hid (∀ c, c < 256 → (plt (sl D) D.size).getD c 0 = (match look (sl D) c with | some i => i + 1 | none => 0)) := by
    have h := HT.out
    unfold tells at h
    rw [sl_len] at h
    exact h
  have HPL := hide (plt_len (sl D) D.size)
  have HB1 : Hid (Below w.heap.size w w1) := HB0.out.trans (hb1.mono HB0.out.size)
  clear hb1 HB0
  generalize plt (sl D) D.size = tb at *
  have H56 : Hid ((bv tb).toArray.size = 256) := by show _ = _; rw [List.size_toArray, bv_len, HPL.out]
  have HI6 : Hid ((Tryz.prog.info? 188).map (·.size) = some (bv tb).toArray.size) := by show _ = _; rw [H56.out]; exact info256
  have HON : Hid ((bv tb).toArray.all (·.oneCell') = true) := by
    show _ = _
    rw [List.all_toArray, List.all_eq_true]
    exact bv_one _
  have HP2 : Hid ((w1.alloc (.cells (bv tb).toArray 188)).heap[w1.heap.size]? = some (.cells (bv tb).toArray 188 (0, 0))) := heap_alloc_new w1 _
  have HB2 : Hid (Below w.heap.size w (w1.alloc (.cells (bv tb).toArray 188))) := HB1.out.trans ((below_alloc4 w1 _).mono HB1.out.size)
  have hmk := mk_bytes (w1.alloc (.cells (bv tb).toArray 188)) s.size s.size (Nat.le_refl _) (by omega)
  have HNW : Hid (Nmw w ((w1.alloc (.cells (bv tb).toArray 188)).alloc (.cells (bv (List.replicate s.size 0)).toArray 5)) w1.heap.size tb (.slice (some ⟨(w1.alloc (.cells (bv tb).toArray 188)).heap.size, 0, none⟩) s.size s.size) s.size []) :=
    ⟨blk_alloc _ HP2.out, mk_own _ _ _ _ (Nat.le_refl _) (by omega) HB2.out.size, HB2.out.trans ((below_alloc4 _ _).mono HB2.out.size)⟩
  have hz2 : (w1.alloc (.cells (bv tb).toArray 188)).heap.size = w1.heap.size + 1 := by simp
  rw [hz2] at hmk HNW
  clear HB1 HB2 HP2 hz2
  go_wp2_with (first
    | (refine wpList_storeRow rfl rfl w1.heap.size _ (bv tb).toArray 188 rfl rfl (heap_alloc_new w1 _) HI6.out (by rw [H56.out, zero256]; simp [bv]) HON.out ?_; rw [World.setRow_alloc_new]))
  clear hmk
  generalize (w1.alloc (.cells (bv tb).toArray 188)).alloc (.cells (bv (List.replicate s.size 0)).toArray 5) = w4 at *
  generalize w1.heap.size = B at *
  go_loopw [17] (fun ii wx => ∃ (k : Nat) (ds : List Nat), k ≤ s.size ∧ ii = .int .i64 (k : Nat) ∧ Hid (looks (sl D) ((sl s).take k) = some ds) ∧ Hid (Nmw w wx B tb (.slice (some ⟨B + 1, 0, none⟩) s.size s.size) s.size ds)) (fun ii _ => s.size - (intOf ii).toNat)
  case atStart => exact ⟨0, [], by omega, rfl, rfl, HNW⟩
  case round =>
    obtain ⟨k, ds, hk, rfl, HLK, HI⟩ := hrel
    clear HNW
    by_cases hlt : k < s.size
    · have g1 : (k : Int) < (s.size : Int) := by omega
      have HX := hide (sl_at s k hlt)
      have hx256 : (s[k].toNat : Int) < 256 := by have := (s[k]).toNat_lt; omega
      have HX2 : Hid (s[k].toNat < 256) := (s[k]).toNat_lt
      have q2 : wr.cell? ⟨B, s[k].toNat, none⟩ = some (.int .u8 ((tb.getD s[k].toNat 0 : Nat) : Int)) := blk_cell HI.out.p (by rw [List.getElem?_toArray]; exact bv_get (by rw [HPL.out]; exact HX2.out))
      have HSN : Hid ((sl s).take (k + 1) = (sl s).take k ++ [s[k].toNat]) := by
        show _ = _
        have h1 : k < (sl s).length := by rw [sl_len]; exact hlt
        rw [List.take_succ_eq_append_getElem h1]
        have h2 := HX.out
        rw [List.getD_eq_getElem?_getD, List.getElem?_eq_getElem h1] at h2
        simp at h2
        rw [h2]
      have HDL : Hid (ds.length = k) := by
        have h := looks_len HLK.out
        rw [List.length_take, sl_len] at h
        show _ = _
        omega
      have hTB := HTB.out s[k].toNat HX2.out
      cases hlo : look (sl D) s[k].toNat with
      | none =>
        as_aux_lemma =>
        rw [hlo] at hTB
        simp only at hTB
        rw [hTB] at q2
        have HN : Hid (looks (sl D) (sl s) = none) := by
          have h1 : looks (sl D) ((sl s).take (k + 1)) = none := by rw [HSN.out, looks_snoc, HLK.out, hlo]; rfl
          have h2 := looks_none (r := (sl s).drop (k + 1)) h1
          rw [List.take_append_drop] at h2
          exact h2
        have HB := hide HI.out.b
        clear hlo hTB
        go_wp2_with fail
        go_ret2
        exact ⟨_, by rw [HN.out]; rfl, by rw [HN.out]; exact World.ownsRow_nil _ _ _ _, HB.out⟩
      | some i =>
        as_aux_lemma =>
        rw [hlo] at hTB
        simp only at hTB
        rw [hTB] at q2
        have HLK2 : Hid (looks (sl D) ((sl s).take (k + 1)) = some (ds ++ [i])) := by show _ = _; rw [HSN.out, looks_snoc, HLK.out, hlo]; rfl
        have hi58 : i < 58 := by
          have h1 := looks_lt HLK2.out i (by simp)
          rw [sl_len] at h1
          have := HD.out
          omega
        have hcf := own_cell HI.out.o (get_fill ds (s.size - ds.length) (by have := HDL.out; omega))
        rw [HDL.out] at hcf
        obtain ⟨c3, f3⟩ := hcf
        have HS : Hid (Nmw w (wr.setCell ⟨B + 1, k, none⟩ (.int .u8 ((i : Nat) : Int))) B tb (.slice (some ⟨B + 1, 0, none⟩) s.size s.size) s.size (ds ++ [i])) := by
          have hk2 : Kp (fun q => q = B + 1) wr (wr.setCell ⟨B + 1, k, none⟩ (.int .u8 ((i : Nat) : Int))) := (Kp.refl _ _).setCell _ _ (fun _ => rfl)
          have ho := own_set (j := k) (.int .u8 ((i : Nat) : Int)) HI.out.o
          have hge := (HI.out.o.lt (B + 1) rfl).1
          refine ⟨(hk2.block _ (blk_lt HI.out.p) (by omega)).trans HI.out.p, ?_, HI.out.b.trans (hk2.below HI.out.b.size (fun q e => by omega))⟩
          rw [bv_setL] at ho
          have hsf := set_fill ds (s.size - ds.length) i (by have := HDL.out; omega)
          rw [HDL.out] at hsf
          rw [HDL.out, hsf] at ho
          rw [List.length_append, HDL.out, List.length_singleton]
          have e : s.size - (k + 1) = s.size - k - 1 := by omega
          rw [e]
          exact ho
        have g5 : (((i + 1 : Nat) : Int) == 0) = false := beq_eq_false_iff_ne.2 (by omega)
        have g6 : ((i + 1 : Nat) : Int) - 1 = (i : Int) := by omega
        have g7 : ((i + 1 : Nat) : Int) < 256 := by omega
        clear hlo hTB HI HLK HX HX2 HSN HDL
        generalize ((i + 1 : Nat) : Int) = i1 at *
        go_wp2_with fail
        go_roundw
        case rel => exact ⟨k + 1, ds ++ [i], by omega, by go_num, HLK2, HS⟩
        case measure => simp [intOf]; omega
    · have hks : k = s.size := by omega
      have g1 : ¬ (k : Int) < (s.size : Int) := by omega
      have HLA : Hid (looks (sl D) (sl s) = some ds) := by
        have h := HLK.out
        rw [List.take_of_length_le (by rw [sl_len]; omega)] at h
        exact h
      have HDL : Hid (ds.length = s.size) := by
        have h := looks_len HLA.out
        rw [sl_len] at h
        exact h
      have HO : Hid (wr.ownsRow w.heap.size 5 1 (.slice (some ⟨B + 1, 0, none⟩) s.size s.size) ds.length (bv ds)) := by
        have h := HI.out.o
        rw [HDL.out, Nat.sub_self, List.replicate_zero, List.append_nil] at h
        show World.ownsRow _ _ _ _ _ _ _
        rw [HDL.out]
        exact h
      have HB := hide HI.out.b
      clear hk hks HI HLK hlt
      go_wp2_with fail
      go_ret2
      exact ⟨_, by rw [HLA.out]; rfl, by rw [HLA.out]; exact HO.out, HB.out⟩
end
section
open Go.RowKit Go
/-- Turned from both ends so far. -/
def revd (xs : List Nat) (k : Nat) : List Nat := (List.range xs.length).map fun j => if j < k ∨ xs.length - k ≤ j then xs.getD (xs.length - 1 - j) 0 else xs.getD j 0
theorem revd_len (xs : List Nat) (k : Nat) : (revd xs k).length = xs.length := by simp [revd]
theorem revd_get (xs : List Nat) (k j : Nat) (h : j < xs.length) : (revd xs k).getD j 0 = if j < k ∨ xs.length - k ≤ j then xs.getD (xs.length - 1 - j) 0 else xs.getD j 0 := by
  simp [revd, List.getD, h]
theorem ext_getD {xs ys : List Nat} (hl : xs.length = ys.length) (h : ∀ j, j < xs.length → xs.getD j 0 = ys.getD j 0) : xs = ys := by
  apply List.ext_getElem hl
  intro j h1 h2
  have := h j h1
  simpa [List.getD, h1, h2] using this
theorem getD_set (xs : List Nat) (i j x : Nat) (h : j < xs.length) : (xs.set i x).getD j 0 = if i = j then x else xs.getD j 0 := by
  simp only [List.getD, List.getElem?_set]
  by_cases e : i = j
  · subst e
    simp [h]
  · simp [e]
theorem revd_zero (xs : List Nat) : revd xs 0 = xs := ext_getD (revd_len _ _) (fun j hj => by
  rw [revd_len] at hj
  rw [revd_get xs 0 j hj, if_neg (by omega)])
theorem revd_end (xs : List Nat) {k : Nat} (h : xs.length ≤ 2 * k + 1) : revd xs k = xs.reverse := ext_getD (by rw [revd_len, List.length_reverse]) (fun j hj => by
  rw [revd_len] at hj
  have hr : xs.reverse.getD j 0 = xs.getD (xs.length - 1 - j) 0 := by
    rw [List.getD_eq_getElem?_getD, List.getElem?_reverse hj, List.getD_eq_getElem?_getD]
  rw [revd_get xs k j hj, hr]
  split
  · rfl
  · have : xs.length - 1 - j = j := by omega
    rw [this])
theorem revd_step (xs : List Nat) {k : Nat} (h : 2 * k + 1 < xs.length) : ((revd xs k).set k ((revd xs k).getD (xs.length - 1 - k) 0)).set (xs.length - 1 - k) ((revd xs k).getD k 0) = revd xs (k + 1) := ext_getD (by simp [revd_len]) (fun j hj => by
  rw [List.length_set, List.length_set, revd_len] at hj
  rw [getD_set _ _ _ _ (by rw [List.length_set, revd_len]; exact hj), getD_set _ _ _ _ (by rw [revd_len]; exact hj), revd_get xs k k (by omega), revd_get xs k (xs.length - 1 - k) (by omega), revd_get xs k j hj, revd_get xs (k + 1) j hj]
  by_cases h1 : xs.length - 1 - k = j
  · subst h1
    rw [if_pos rfl, if_neg (by omega), if_pos (by omega)]
    congr 1
    omega
  · rw [if_neg h1]
    by_cases h2 : k = j
    · subst h2
      rw [if_pos rfl, if_neg (by omega), if_pos (by omega)]
    · rw [if_neg h2]
      by_cases h3 : j < k ∨ xs.length - k ≤ j
      · rw [if_pos h3, if_pos (by omega)]
      · rw [if_neg h3, if_neg (by omega)])
set_option maxRecDepth 1000000 in
set_option maxHeartbeats 1000000 in
/-- slices.Reverse. -/
theorem reverse_any {w : World} {B : Nat} {v : Value} {xs : List Nat} (h : w.ownsRow B 5 1 v xs.length (bv xs)) (hl : xs.length ≤ 100000) :
    Calls Tryz.prog 109 #[v] w fun e w' => e = .returned (.tuple #[]) ∧ w'.ownsRow B 5 1 v xs.length (bv xs.reverse) ∧ Kp (fun k => v.ownBlock = some k) w w' := by
  have HH := hide h
  obtain ⟨a, cap, rfl, _, _, ha⟩ := own_form h
  have HA := hide ha
  clear h ha
  go_enter Tryz.func109, Tryz.ntmps109
  go_wp2_with fail
  go_loopw [2, 3] (fun ii jj wx => ∃ k : Nat, 2 * k ≤ xs.length ∧ ii = .int .i64 (k : Nat) ∧ jj = .int .i64 ((xs.length : Int) - 1 - (k : Nat)) ∧ Hid (wx.ownsRow B 5 1 (.slice a xs.length cap) xs.length (bv (revd xs k))) ∧ Hid (Kp (fun q => (Value.slice a xs.length cap).ownBlock = some q) w wx)) (fun ii _ _ => xs.length - (intOf ii).toNat)
  case atStart => exact ⟨0, by omega, rfl, by simp, by rw [revd_zero]; exact HH, Kp.refl _ _⟩
  case round =>
    obtain ⟨k, hk, rfl, rfl, HO, HK⟩ := hrel
    by_cases hlt : 2 * k + 1 < xs.length
    · have g1 : (k : Int) < (xs.length : Int) - 1 - (k : Int) := by omega
      obtain ⟨g, rfl, _⟩ := HA.out 0 _ (bv_get (by omega))
      have ek : ((xs.length : Int) - 1 - (k : Int)) = ((xs.length - 1 - k : Nat) : Int) := by omega
      obtain ⟨c1, f1⟩ := own_cell HO.out (bv_get (xs := revd xs k) (j := k) (by rw [revd_len]; omega))
      obtain ⟨c2, f2⟩ := own_cell HO.out (bv_get (xs := revd xs k) (j := xs.length - 1 - k) (by rw [revd_len]; omega))
      have HS := hide (revd_step xs hlt)
      have hne : ¬ k = xs.length - 1 - k := by omega
      have hj1 : xs.length - 1 - k < xs.length := by omega
      rw [ek] at g1 ⊢
      generalize (revd xs k).getD k 0 = x1 at *
      generalize (revd xs k).getD (xs.length - 1 - k) 0 = x2 at *
      have HO2 : Hid (((wr.setCell ⟨g, k, none⟩ (.int .u8 (x2 : Nat))).setCell ⟨g, xs.length - 1 - k, none⟩ (.int .u8 (x1 : Nat))).ownsRow B 5 1 (.slice (some ⟨g, 0, none⟩) xs.length cap) xs.length (bv (revd xs (k + 1)))) := by
        have h1 := own_set (j := k) (.int .u8 ((x2 : Nat) : Int)) HO.out
        have h2 := own_set (j := xs.length - 1 - k) (.int .u8 ((x1 : Nat) : Int)) h1
        rw [bv_setL, bv_setL, HS.out] at h2
        exact h2
      have hjj : ((xs.length - 1 - k : Nat) : Int) < (xs.length : Int) := by omega
      have hkk : (k : Int) < (xs.length : Int) := by omega
      have HJ : Hid ((xs.length : Int) - 1 - ((k + 1 : Nat) : Int) = ((xs.length - 1 - k : Nat) : Int) - 1) := by show _ = _; omega
      clear hne HS ek
      have hkj : k < xs.length - 1 - k := by omega
      generalize hjn : xs.length - 1 - k = j at *
      clear hjn
      have hne2 : ¬ k = j := by omega
      have hne3 : ¬ j = k := by omega
      generalize hLL : xs.length = LL at *
      clear HO HH HA
      go_wp2_with fail
      go_region
      go_wp2_with fail
      go_roundw
      case rel => exact ⟨k + 1, by omega, by go_num, by rw [HJ.out], HO2.out, ((HK.out.setCell ⟨g, k, none⟩ _ (fun _ => rfl)).setCell ⟨g, j, none⟩ _ (fun _ => rfl)).drew⟩
      case measure => simp [intOf]; omega
    · have g1 : ¬ (k : Int) < (xs.length : Int) - 1 - (k : Int) := by omega
      have HE := hide (revd_end xs (k := k) (by omega))
      go_wp2_with fail
      go_end0
      exact ⟨rfl, by rw [← HE.out]; exact HO.out, HK.out⟩
end
section
open Go.RowKit Go
theorem take_at (xs : List Nat) (k : Nat) (h : k < xs.length) : xs.take (k + 1) = xs.take k ++ [xs.getD k 0] := by
  rw [List.take_succ_eq_append_getElem h, List.getD_eq_getElem?_getD, List.getElem?_eq_getElem h]
  rfl
theorem i64_or_nat (a b : Nat) (ha : a < 4294967296) (hb : b < 4294967296) : bits .or .i64 (a : Int) (b : Int) = ((a ||| b : Nat) : Int) := by
  have hx : a ||| b < 2 ^ 32 := Nat.or_lt_two_pow (by omega) (by omega)
  show IntKind.i64.wrap ((BitVec.ofInt 64 (a : Int) ||| BitVec.ofInt 64 (b : Int)).toNat : Int) = _
  rw [BitVec.toNat_or, ofInt_u64 a (by omega), ofInt_u64 b (by omega), IntKind.wrap_i64]
  omega
theorem i64_and_nat (a b : Nat) (ha : a < 4294967296) (hb : b < 4294967296) : bits .and .i64 (a : Int) (b : Int) = ((a &&& b : Nat) : Int) := by
  have hx : a &&& b < 2 ^ 32 := Nat.and_lt_two_pow _ (by omega)
  show IntKind.i64.wrap ((BitVec.ofInt 64 (a : Int) &&& BitVec.ofInt 64 (b : Int)).toNat : Int) = _
  rw [BitVec.toNat_and, ofInt_u64 a (by omega), ofInt_u64 b (by omega), IntKind.wrap_i64]
  omega
theorem pow_le8 {f : Nat} (h : f ≤ 8) : 2 ^ f ≤ 256 := Nat.pow_le_pow_right (n := 2) (by decide) h
theorem rg_small {R : List Nat} (h : ∀ x ∈ R, x < 2) {t : Nat} (hl : R.length < t) (ht : t ≤ 8) : valB 2 R < 128 := by
  have h1 := valB_lt (b := 2) (by decide) h
  have h2 : 2 ^ R.length ≤ 2 ^ 7 := Nat.pow_le_pow_right (by decide) (by omega)
  omega
theorem or_more {R : List Nat} {f x t : Nat} (h : ∀ y ∈ R, y < 2) (hl : R.length < t) (ht : t ≤ 8) (hf : f ≤ 8) (hx : x < 2 ^ f) : bits .or .i64 (wrap64 ((valB 2 R : Nat) * 2 ^ f)) (wrap64 (x : Int)) = ((valB 2 (R ++ bitsW f x) : Nat) : Int) := by
  have h1 := rg_small h hl ht
  have h2 := pow_le8 hf
  have h3 : valB 2 R * 2 ^ f ≤ 128 * 256 := Nat.mul_le_mul (by omega) h2
  have e1 : ((valB 2 R : Nat) : Int) * 2 ^ f = ((valB 2 R * 2 ^ f : Nat) : Int) := by rw [Int.natCast_mul, Int.natCast_pow]; rfl
  rw [e1]
  have e2 : wrap64 ((valB 2 R * 2 ^ f : Nat) : Int) = ((valB 2 R * 2 ^ f : Nat) : Int) := by unfold wrap64; omega
  have e3 : wrap64 (x : Int) = (x : Int) := by unfold wrap64; omega
  rw [e2, e3, i64_or_nat _ _ (by omega) (by omega), nat_join f _ x (Nat.mul_mod_left _ _) hx, rest_more hx]
theorem and_left {V m : Nat} (hV : V < 65536) (hm : m ≤ 16) : bits .and .i64 (V : Int) (wrap64 (wrap64 (2 ^ m) - 1)) = ((V % 2 ^ m : Nat) : Int) := by
  have h1 : 2 ^ m ≤ 2 ^ 16 := Nat.pow_le_pow_right (by decide) hm
  have h0 : 0 < 2 ^ m := Nat.pow_pos (by decide)
  have e1 : (2 : Int) ^ m = ((2 ^ m : Nat) : Int) := by rw [Int.natCast_pow]; rfl
  have e2 : wrap64 (wrap64 (2 ^ m) - 1) = ((2 ^ m - 1 : Nat) : Int) := by
    rw [e1]
    unfold wrap64
    omega
  rw [e2, i64_and_nat _ _ (by omega) (by omega), Nat.and_two_pow_sub_one_eq_mod]
theorem Rg.len {tt : Nat} {B out R : List Nat} (h : Rg tt B out R) : out.length * tt + R.length = B.length := by
  have := congrArg List.length h.e
  rw [List.length_append, flat_len] at this
  omega
/-- What regroup has in hand. -/
structure Rgw (w wx : World) (f t : Nat) (xs : List Nat) (k : Nat) (vo : Value) (out R : List Nat) : Prop where
  g : Rg t ((xs.take k).flatMap (bitsW f)) out R
  o : wx.ownsRow w.heap.size 5 1 vo out.length (bv out)
  b : Below w.heap.size w wx
set_option maxRecDepth 1000000 in
set_option maxHeartbeats 1000000 in
theorem regroup_any (w : World) (v : Value) (xs : List Nat) (f t : Nat) (hb : BSl w v xs) (hf : 0 < f) (hf8 : f ≤ 8) (ht : 0 < t) (ht8 : t ≤ 8) (hx : ∀ x ∈ xs, x < 2 ^ f) (hl : xs.length ≤ 1000) :
    Calls Tryz.prog 84 #[v, .int .i64 (f : Nat), .int .i64 (t : Nat)] w fun e w' => ∃ vo out R, e = .returned (.tuple #[vo, .int .i64 (valB 2 R : Nat), .int .i64 (R.length : Nat)]) ∧ Rg t (xs.flatMap (bitsW f)) out R ∧ R.length < t ∧ w'.ownsRow w.heap.size 5 1 vo out.length (bv out) ∧ Below w.heap.size w w' := by
  have HB := hide hb
  have HX := hide hx
  obtain ⟨⟨a, cap, rfl, hn, hc⟩, hmax, hby⟩ := hb
  have HC := hide hc
  clear hn hc hby hx
  go_enter Tryz.func84, Tryz.ntmps84
  go_wp2_with fail
  go_loopw [6, 7, 8, 13] (fun vo rr ll ii wx => ∃ (k : Nat) (out R : List Nat), k ≤ xs.length ∧ ii = .int .i64 (k : Nat) ∧ rr = .int .i64 (valB 2 R : Nat) ∧ ll = .int .i64 (R.length : Nat) ∧ R.length < t ∧ Hid (Rgw w wx f t xs k vo out R)) (fun _ _ _ ii _ => xs.length - (intOf ii).toNat)
  case atStart => exact ⟨0, [], [], by omega, rfl, rfl, rfl, ht, ⟨Rg.start t, World.ownsRow_nil _ _ _ _, Below.refl _ _⟩⟩
  case round =>
    obtain ⟨k, out, R, hk, rfl, rfl, rfl, hRt, HI⟩ := hrel
    by_cases hlt : k < xs.length
    · have g1 : (k : Int) < (xs.length : Int) := by omega
      obtain ⟨b, off, rfl, hcc⟩ := HC.out.resolve_left (by intro e; rw [e] at hlt; simp at hlt)
      have cx := keep_below HI.out.b _ _ (hcc k hlt)
      have HXK : Hid (xs.getD k 0 < 2 ^ f) := by
        refine HX.out _ ?_
        rw [List.getD_eq_getElem?_getD, List.getElem?_eq_getElem hlt]
        exact List.getElem_mem hlt
      have HTK := hide (take_at xs k hlt)
      generalize xs.getD k 0 = x at *
      have hor := or_more HI.out.g.r hRt ht8 hf8 HXK.out
      have HRR : Hid (∀ y ∈ R ++ bitsW f x, y < 2) := fun y hy => by
        rcases List.mem_append.1 hy with h | h
        · exact HI.out.g.r y h
        · exact bitsW_lt f x y h
      have HL16 : Hid ((R ++ bitsW f x).length = R.length + f) := by show _ = _; rw [List.length_append, bitsW_len]
      have HG0 : Hid (Rgw w wr f t xs (k + 1) u6 out (R ++ bitsW f x)) := ⟨by rw [HTK.out, List.flatMap_append, List.flatMap_singleton]; exact HI.out.g.more, HI.out.o, HI.out.b⟩
      clear HI HX hcc
      go_wp2_with fail
      have hle : ((R.length : Int) + (f : Int)) = (((R ++ bitsW f x).length : Nat) : Int) := by have := HL16.out; omega
      rw [hle]
      have hR16 : (R ++ bitsW f x).length < 16 := by have := HL16.out; omega
      clear hle hor
      generalize R ++ bitsW f x = R0 at *
      go_loopw [6, 7, 8] (fun vo rr ll wx => ∃ out2 R2 : List Nat, R2.length < 16 ∧ rr = .int .i64 (valB 2 R2 : Nat) ∧ ll = .int .i64 (R2.length : Nat) ∧ Hid (Rgw w wx f t xs (k + 1) vo out2 R2)) (fun _ _ ll _ => (intOf ll).toNat)
      case atStart => exact ⟨out, R0, hR16, rfl, rfl, HG0⟩
      case round => as_aux_lemma =>
        rename World => wz
        obtain ⟨out2, R2, hR2, rfl, rfl, HG⟩ := hrel
        by_cases hge : t ≤ R2.length
        · have g5 : (t : Int) ≤ (R2.length : Int) := by omega
          obtain ⟨a2, c2, hv2, _⟩ := own_form HG.out.o
          subst hv2
          have hsh := rest_shift (tt := t) HG.out.g.r
          have hdiv : ((valB 2 R2 : Nat) : Int) / 2 ^ (R2.length - t) % 256 = ((valB 2 (R2.take t) : Nat) : Int) := by
            have h1 := HG.out.g.take hge
            have h2 := h1.o (valB 2 (R2.take t)) (by simp)
            have h3 := pow_le8 ht8
            have e1 : ((valB 2 R2 : Nat) : Int) / 2 ^ (R2.length - t) = ((valB 2 R2 / 2 ^ (R2.length - t) : Nat) : Int) := by rw [Int.natCast_ediv, Int.natCast_pow]; rfl
            rw [e1, hsh.1]
            omega
          have HTL : Hid (valB 2 (R2.take t) < 256) := by
            have h1 := HG.out.g.take hge
            have h2 := h1.o (valB 2 (R2.take t)) (by simp)
            have h3 := pow_le8 ht8
            show _ < _
            omega
          have HGT := hide (HG.out.g.take hge)
          have HGL : Hid (out2.length * t + R2.length = (k + 1) * f) := by
            have h := HG.out.g.len
            rw [flat_len, List.length_take, Nat.min_eq_left (by omega)] at h
            exact h
          have HDL : Hid ((R2.drop t).length = R2.length - t) := List.length_drop
          have HV2 : Hid (valB 2 R2 < 65536) := by
            have h1 := valB_lt (b := 2) (by decide) HG.out.g.r
            have h2 : 2 ^ R2.length ≤ 2 ^ 16 := Nat.pow_le_pow_right (by decide) (by omega)
            show _ < _
            omega
          have HSH := hide hsh.2
          clear hsh
          generalize hTT : valB 2 (R2.take t) = T2 at *
          clear hTT
          have HL1 := hide (one_bsl wz T2 HTL.out)
          have HA1 := hide (HG.out.o.alloc (.cells #[.int .u8 ((T2 : Nat) : Int)] 5))
          have HZ1 : Hid (out2.length + ([T2] : List Nat).length ≤ 140737488355328) := by
            have h1 := HGL.out
            have h2 : out2.length * 1 ≤ out2.length * t := Nat.mul_le_mul_left _ ht
            have h3 : (k + 1) * f ≤ 1000 * 8 := Nat.mul_le_mul (by omega) hf8
            show _ ≤ _
            rw [List.length_singleton]
            omega
          have HBZ : Hid (w.heap.size ≤ (wz.alloc (.cells #[.int .u8 ((T2 : Nat) : Int)] 5)).heap.size) := by have := HG.out.b.size; show _ ≤ _; simp; omega
          have HBA : Hid (Below w.heap.size w (wz.alloc (.cells #[.int .u8 ((T2 : Nat) : Int)] 5))) := HG.out.b.alloc HG.out.b.size _
          go_wp2_with (at_builtin; refine append_bsl rfl _ _ rfl w.heap.size _ out2.length out2 rfl HA1.out _ [T2] rfl HL1.out HZ1.out HBZ.out ?_)
          intro v7 w7 ho7 hg7
          have HB7 : Hid (Below w.heap.size w w7) := HBA.out.grown hg7 HBZ.out (fun g hg => (HA1.out.lt g hg).1)
          have HO7 : Hid (w7.ownsRow w.heap.size 5 1 v7 (out2 ++ [T2]).length (bv (out2 ++ [T2]))) := by show World.ownsRow _ _ _ _ _ _ _; rw [List.length_append]; exact ho7
          obtain ⟨a7, c7, hv7, _⟩ := own_form ho7
          subst hv7
          have HAN : Hid (bits .and .i64 ((valB 2 R2 : Nat) : Int) (wrap64 (wrap64 (2 ^ (R2.length - t)) - 1)) = ((valB 2 (R2.drop t) : Nat) : Int)) := by
            show _ = _
            rw [and_left HV2.out (by omega), HSH.out]
          clear ho7 hg7 HA1 HL1 HBA HG hdiv
          go_wp2_with fail
          go_roundw
          case rel => exact ⟨out2 ++ [T2], R2.drop t, by have := HDL.out; omega, by rw [HAN.out], by have := HDL.out; congr 1; omega, ⟨HGT.out, HO7.out, HB7.out⟩⟩
          case measure => simp [intOf]; omega
        · have g5 : ¬ (t : Int) ≤ (R2.length : Int) := by omega
          obtain ⟨a2, c2, hv2, _⟩ := own_form HG.out.o
          subst hv2
          go_wp2_with fail
          go_roundw
          case rel => exact ⟨k + 1, out2, R2, by omega, by go_num, rfl, rfl, by omega, HG⟩
          case measure => simp [intOf]; omega
    · have hkx : k = xs.length := by omega
      have g1 : ¬ (k : Int) < (xs.length : Int) := by omega
      obtain ⟨a2, c2, hv2, _⟩ := own_form HI.out.o
      subst hv2
      have HTA : Hid (xs.take k = xs) := List.take_of_length_le (by omega)
      have HG : Hid (Rg t (xs.flatMap (bitsW f)) out R) := by
        have h := HI.out.g
        rw [HTA.out] at h
        exact h
      have HO := hide HI.out.o
      have HBW := hide HI.out.b
      clear hk hkx hlt HI
      go_wp2_with fail
      go_ret3
      exact ⟨_, out, R, rfl, HG.out, hRt, HO.out, HBW.out⟩
end
section
open Go.RowKit Go
/-- The digits so far, the lowest first, of the number that digits make. -/
structure Rcd (fr tt : Nat) (p L : List Nat) : Prop where
  v : valL tt L = valB fr p
  d : ∀ x ∈ L, x < tt
  n : L = [] ∨ tt ^ (L.length - 1) ≤ valL tt L
theorem Rcd.start (fr tt : Nat) : Rcd fr tt [] [] := ⟨rfl, by simp, .inl rfl⟩
/-- One round under way: the first i digits are new, the carry. -/
structure Rcm (fr tt n : Nat) (L M : List Nat) (i cy : Nat) : Prop where
  l : M.length = L.length
  q : i ≤ L.length
  r : M.drop i = L.drop i
  v : valL tt (M.take i) + tt ^ i * cy = n + fr * valL tt (L.take i)
  d : ∀ x ∈ M, x < tt
  c : cy < 65536
theorem Rcm.start {fr tt n : Nat} {L : List Nat} (hd : ∀ x ∈ L, x < tt) (hn : n < 256) : Rcm fr tt n L L 0 n := ⟨rfl, Nat.zero_le _, rfl, by simp [valL], hd, by omega⟩
theorem Rcm.step {fr tt n : Nat} {L M : List Nat} {i cy : Nat} (h : Rcm fr tt n L M i cy) (hi : i < L.length) (ht : 2 ≤ tt) (ht2 : tt ≤ 256) (hf2 : fr ≤ 256) :
    Rcm fr tt n L (M.set i ((cy + M.getD i 0 * fr) % tt)) (i + 1) ((cy + M.getD i 0 * fr) / tt) := by
  have hiM : i < M.length := by rw [h.l]; exact hi
  have hg : M.getD i 0 = L.getD i 0 := by
    have h1 := congrArg List.head? h.r
    rw [List.head?_drop, List.head?_drop] at h1
    rw [List.getD_eq_getElem?_getD, List.getD_eq_getElem?_getD, h1]
  have hx : M.getD i 0 < tt := by
    rw [List.getD_eq_getElem?_getD, List.getElem?_eq_getElem hiM]
    exact h.d _ (List.getElem_mem hiM)
  have hxf : M.getD i 0 * fr ≤ 255 * 256 := Nat.mul_le_mul (by omega) hf2
  have hs : cy + M.getD i 0 * fr < 131072 := by have := h.c; omega
  refine ⟨by rw [List.length_set]; exact h.l, hi, ?_, ?_, ?_, ?_⟩
  · rw [List.drop_set_of_lt (by omega)]
    have h1 := congrArg List.tail h.r
    rw [List.tail_drop, List.tail_drop] at h1
    exact h1
  · have e1 : (M.set i ((cy + M.getD i 0 * fr) % tt)).take (i + 1) = M.take i ++ [(cy + M.getD i 0 * fr) % tt] := by
      rw [List.take_succ_eq_append_getElem (by rw [List.length_set]; exact hiM), List.take_set_of_le (Nat.le_refl _)]
      simp
    have e2 : L.take (i + 1) = L.take i ++ [L.getD i 0] := take_at L i hi
    have l1 : (M.take i).length = i := by rw [List.length_take]; omega
    have l2 : (L.take i).length = i := by rw [List.length_take]; omega
    rw [e1, e2, valL_app, valL_app, l1, l2, ← hg]
    simp only [valL, Nat.mul_zero, Nat.add_zero]
    have hv := h.v
    have hdm := Nat.mod_add_div (cy + M.getD i 0 * fr) tt
    generalize (cy + M.getD i 0 * fr) % tt = a at *
    generalize (cy + M.getD i 0 * fr) / tt = b at *
    generalize M.getD i 0 = x at *
    have e3 : tt ^ i * a + tt ^ (i + 1) * b = tt ^ i * (cy + x * fr) := by rw [Nat.pow_succ, Nat.mul_assoc, ← Nat.mul_add, hdm]
    rw [Nat.mul_add] at e3
    have e4 : fr * (valL tt (L.take i) + tt ^ i * x) = fr * valL tt (L.take i) + tt ^ i * (x * fr) := by
      rw [Nat.mul_add]
      congr 1
      rw [Nat.mul_comm x fr]
      ac_rfl
    omega
  · intro y hy
    rcases List.mem_or_eq_of_mem_set hy with h1 | h1
    · exact h.d y h1
    · subst h1
      exact Nat.mod_lt _ (by omega)
  · have : (cy + M.getD i 0 * fr) / tt ≤ (cy + M.getD i 0 * fr) / 2 := Nat.div_le_div_left ht (by decide)
    omega
/-- The carry that is left is laid on. -/
structure Rce (tt N : Nat) (M : List Nat) (cy : Nat) : Prop where
  v : valL tt M + tt ^ M.length * cy = N
  d : ∀ x ∈ M, x < tt
  c : cy < 65536
  n : cy = 0 → M = [] ∨ tt ^ (M.length - 1) ≤ N
theorem Rce.step {tt N : Nat} {M : List Nat} {cy : Nat} (h : Rce tt N M cy) (hc : 0 < cy) (ht : 2 ≤ tt) : Rce tt N (M ++ [cy % tt]) (cy / tt) := by
  have hdm := Nat.mod_add_div cy tt
  refine ⟨?_, ?_, ?_, ?_⟩
  · rw [valL_app, List.length_append, List.length_singleton, Nat.pow_succ, Nat.mul_assoc]
    simp only [valL, Nat.mul_zero, Nat.add_zero]
    rw [Nat.add_assoc, ← Nat.mul_add, hdm]
    exact h.v
  · intro y hy
    rcases List.mem_append.1 hy with h1 | h1
    · exact h.d y h1
    · simp only [List.mem_singleton] at h1
      subst h1
      exact Nat.mod_lt _ (by omega)
  · have : cy / tt ≤ cy := Nat.div_le_self _ _
    have := h.c
    omega
  · intro _
    right
    rw [List.length_append, List.length_singleton, Nat.add_sub_cancel]
    have h1 := h.v
    have h2 : tt ^ M.length * 1 ≤ tt ^ M.length * cy := Nat.mul_le_mul_left _ hc
    omega
theorem Rce.done {fr tt : Nat} {p M : List Nat} (h : Rce tt (valB fr p) M 0) : Rcd fr tt p M := by
  have hv := h.v
  rw [Nat.mul_zero, Nat.add_zero] at hv
  exact ⟨hv, h.d, by rw [hv]; exact h.n rfl⟩
theorem Rcm.done {fr tt n : Nat} {p L M : List Nat} {cy : Nat} (hL : Rcd fr tt p L) (h : Rcm fr tt n L M L.length cy) (hf : 1 ≤ fr) : Rce tt (valB fr (p ++ [n])) M cy := by
  have hM : M.take L.length = M := List.take_of_length_le (by rw [h.l]; omega)
  have hv := h.v
  rw [hM, List.take_length, hL.v, ← h.l] at hv
  have hN : valB fr (p ++ [n]) = n + fr * valB fr p := by rw [valB_snoc, Nat.mul_comm]; omega
  refine ⟨by rw [hN]; exact hv, h.d, h.c, fun _ => ?_⟩
  rcases hL.n with h1 | h1
  · left
    have := h.l
    rw [h1] at this
    exact List.eq_nil_of_length_eq_zero this
  · right
    rw [hN, h.l]
    rw [hL.v] at h1
    have : 1 * valB fr p ≤ fr * valB fr p := Nat.mul_le_mul_right _ hf
    omega
/-- How many noughts stand at the front. -/
def nz (p : List Nat) : Nat := (p.takeWhile (· == 0)).length
theorem Rcd.nil {fr tt : Nat} {p L : List Nat} (h : Rcd fr tt p L) (ht : 2 ≤ tt) : L = [] ↔ valB fr p = 0 := by
  constructor
  · intro e
    rw [← h.v, e]
    rfl
  · intro e
    rcases h.n with h1 | h1
    · exact h1
    · exfalso
      have := Nat.pow_pos (n := L.length - 1) (show 0 < tt by omega)
      rw [h.v, e] at h1
      omega
theorem Rcd.zeros {fr tt : Nat} {p L : List Nat} {n : Nat} (h : Rcd fr tt (p ++ [n]) L) (ht : 2 ≤ tt) (hf : 0 < fr) : nz (p ++ [n]) = if L = [] then nz p + 1 else nz p := by
  unfold nz
  rw [tw_snoc hf]
  by_cases e : L = []
  · rw [if_pos e, if_pos ((h.nil ht).1 e)]
  · rw [if_neg e, if_neg (fun h0 => e ((h.nil ht).2 h0))]
theorem Rcd.conv {fr tt : Nat} {p L : List Nat} (h : Rcd fr tt p L) (ht : 2 ≤ tt) : conv fr tt p = List.replicate (nz p) 0 ++ L.reverse := by
  rw [conv_val, valL_digB ht h.d h.n, h.v]
  rfl
theorem nz_le (p : List Nat) : nz p ≤ p.length := (List.takeWhile_prefix _).length_le
end
section
open Go.RowKit Go
theorem val_pow {fr tt : Nat} {p : List Nat} (hp : ∀ x ∈ p, x < fr) (hf : 2 ≤ fr) (hf2 : fr ≤ 256) (ht : 2 ≤ tt) : valB fr p < tt ^ (8 * p.length) := by
  have h1 := valB_lt (b := fr) (by omega) hp
  have h2 : fr ^ p.length ≤ 256 ^ p.length := Nat.pow_le_pow_left hf2 _
  have h3 : 256 ^ p.length = 2 ^ (8 * p.length) := by rw [Nat.pow_mul]
  have h4 : 2 ^ (8 * p.length) ≤ tt ^ (8 * p.length) := Nat.pow_le_pow_left ht _
  omega
theorem Rcd.len {fr tt : Nat} {p L : List Nat} (h : Rcd fr tt p L) (hp : ∀ x ∈ p, x < fr) (hf : 2 ≤ fr) (hf2 : fr ≤ 256) (ht : 2 ≤ tt) : L.length ≤ 8 * p.length := by
  rcases h.n with h1 | h1
  · rw [h1]
    simp
  · have h2 := val_pow hp hf hf2 ht
    rw [h.v] at h1
    have := (Nat.pow_lt_pow_iff_right (a := tt) (by omega)).1 (Nat.lt_of_le_of_lt h1 h2)
    omega
theorem Rce.len {fr tt : Nat} {p M : List Nat} {cy : Nat} (h : Rce tt (valB fr p) M cy) (hc : 0 < cy) (hp : ∀ x ∈ p, x < fr) (hf : 2 ≤ fr) (hf2 : fr ≤ 256) (ht : 2 ≤ tt) : M.length < 8 * p.length := by
  have h1 := h.v
  have h2 := val_pow hp hf hf2 ht
  have h3 : tt ^ M.length * 1 ≤ tt ^ M.length * cy := Nat.mul_le_mul_left _ hc
  exact (Nat.pow_lt_pow_iff_right (a := tt) (by omega)).1 (by omega)
theorem rc_sum {cy d fr : Nat} (hc : cy < 65536) (hd : d < 256) (hf : fr ≤ 256) : wrap64 ((cy : Int) + wrap64 (wrap64 (d : Int) * (fr : Int))) = ((cy + d * fr : Nat) : Int) := by
  have h1 : d * fr ≤ 255 * 256 := Nat.mul_le_mul (by omega) hf
  have e1 : wrap64 (d : Int) = (d : Int) := by unfold wrap64; omega
  rw [e1, ← Int.natCast_mul]
  generalize d * fr = m at *
  unfold wrap64
  omega
theorem rc_lt {cy d fr : Nat} (hc : cy < 65536) (hd : d < 256) (hf : fr ≤ 256) : cy + d * fr < 131072 := by
  have h1 : d * fr ≤ 255 * 256 := Nat.mul_le_mul (by omega) hf
  omega
theorem rc_div {s tt : Nat} (hs : s < 131072) : wrap64 ((s : Int).tdiv (tt : Int)) = ((s / tt : Nat) : Int) := by
  have e : (s : Int).tdiv (tt : Int) = ((s / tt : Nat) : Int) := rfl
  have h : s / tt ≤ s := Nat.div_le_self _ _
  rw [e]
  generalize s / tt = q at *
  unfold wrap64
  omega
theorem rc_mod {s tt : Nat} (ht : 2 ≤ tt) (ht2 : tt ≤ 256) : (s : Int).tmod (tt : Int) % 256 = ((s % tt : Nat) : Int) := by
  have e : (s : Int).tmod (tt : Int) = ((s % tt : Nat) : Int) := rfl
  have h : s % tt < tt := Nat.mod_lt _ (by omega)
  rw [e]
  omega
/-- What recast has in hand. -/
structure Rcw (w wx : World) (vl : Value) (M : List Nat) : Prop where
  o : wx.ownsRow w.heap.size 5 1 vl M.length (bv M)
  b : Below w.heap.size w wx
set_option maxRecDepth 1000000 in
set_option maxHeartbeats 1000000 in
theorem recast_any (w : World) (v : Value) (xs : List Nat) (fr tt : Nat) (hb : BSl w v xs) (hf : 2 ≤ fr) (hf2 : fr ≤ 256) (ht : 2 ≤ tt) (ht2 : tt ≤ 256) (hx : ∀ x ∈ xs, x < fr) (hl : xs.length ≤ 1000) :
    Calls Tryz.prog 83 #[v, .int .i64 (fr : Nat), .int .i64 (tt : Nat)] w fun e w' => ∃ vo, e = .returned vo ∧ w'.ownsRow w.heap.size 5 1 vo (conv fr tt xs).length (bv (conv fr tt xs)) ∧ Below w.heap.size w w' := by
  have HB := hide hb
  have HX := hide hx
  obtain ⟨⟨a, cap, rfl, hn, hc⟩, hmax, hby⟩ := hb
  have HC := hide hc
  clear hn hc hby hx
  go_enter Tryz.func83, Tryz.ntmps83
  go_wp2_with fail
  go_loopw [7, 8, 16] (fun zz vl ii wx => ∃ (k : Nat) (L : List Nat), k ≤ xs.length ∧ ii = .int .i64 (k : Nat) ∧ zz = .int .i64 (nz (xs.take k) : Nat) ∧ Hid (Rcd fr tt (xs.take k) L) ∧ Hid (Rcw w wx vl L)) (fun _ _ ii _ => xs.length - (intOf ii).toNat)
  case atStart => exact ⟨0, [], by omega, rfl, rfl, Rcd.start fr tt, ⟨World.ownsRow_nil _ _ _ _, Below.refl _ _⟩⟩
  case round =>
    obtain ⟨k, L, hk, rfl, rfl, HR, HI⟩ := hrel
    have HPX : Hid (∀ x ∈ xs.take k, x < fr) := fun x hx => HX.out x (List.mem_of_mem_take hx)
    have HLL : Hid (L.length ≤ 8 * k) := by
      have h := HR.out.len HPX.out hf hf2 ht
      rw [List.length_take] at h
      show _ ≤ _
      omega
    obtain ⟨a2, c2, hv2, hcp, _⟩ := own_form HI.out.o
    subst hv2
    by_cases hlt : k < xs.length
    · have g1 : (k : Int) < (xs.length : Int) := by omega
      obtain ⟨b, off, rfl, hcc⟩ := HC.out.resolve_left (by intro e; rw [e] at hlt; simp at hlt)
      have cx := keep_below HI.out.b _ _ (hcc k hlt)
      have HXK : Hid (xs.getD k 0 < fr) := by
        refine HX.out _ ?_
        rw [List.getD_eq_getElem?_getD, List.getElem?_eq_getElem hlt]
        exact List.getElem_mem hlt
      have HTK := hide (take_at xs k hlt)
      have hLm : L.length ≤ 8000 := by have := HLL.out; omega
      have HP2 : Hid (∀ x ∈ xs.take (k + 1), x < fr) := fun x hx => HX.out x (List.mem_of_mem_take hx)
      have HL2 : Hid ((xs.take (k + 1)).length = k + 1) := by show _ = _; rw [List.length_take]; omega
      generalize xs.getD k 0 = x at *
      have hx256 : (x : Int) < 256 := by have := HXK.out; omega
      have hwx : wrap64 (x : Int) = (x : Int) := by unfold wrap64; omega
      clear hcc
      go_wp2_with fail
      go_loopw [11, 24] (fun cc jj wx => ∃ (i cy : Nat) (M : List Nat), jj = .int .i64 (i : Nat) ∧ cc = .int .i64 (cy : Nat) ∧ Hid (Rcm fr tt x L M i cy) ∧ Hid (Rcw w wx (.slice a2 L.length c2) M)) (fun _ jj _ => L.length - (intOf jj).toNat)
      case atStart => exact ⟨0, x, L, rfl, rfl, Rcm.start HR.out.d (by omega), HI⟩
      case round =>
        rename World => wz
        obtain ⟨i, cy, M, rfl, rfl, HM, HJ⟩ := hrel
        have hML := HM.out.l
        have hcy := HM.out.c
        by_cases hil : i < L.length
        · have g3 : (i : Int) < (L.length : Int) := by omega
          have ho := HJ.out.o
          obtain ⟨a3, c3, hv3, _, _, hcl⟩ := own_form ho
          injection hv3 with e1 e2 e3
          subst e1
          obtain ⟨g, rfl, _⟩ := hcl i _ (bv_get (by omega))
          rw [hML] at ho
          obtain ⟨q1, f1⟩ := own_cell ho (bv_get (xs := M) (j := i) (by omega))
          have HST := hide (HM.out.step hil ht ht2 hf2)
          have HMD : Hid (M.getD i 0 < tt) := by
            rw [List.getD_eq_getElem?_getD, List.getElem?_eq_getElem (by omega)]
            exact HM.out.d _ (List.getElem_mem (by omega))
          have HML := hide hML
          clear hcl e2 e3 hML
          generalize M.getD i 0 = d at *
          have HMD2 : Hid (d < 256) := Nat.lt_of_lt_of_le HMD.out ht2
          have hsum := rc_sum (cy := cy) (d := d) (fr := fr) hcy HMD2.out hf2
          have HSS : Hid (cy + d * fr < 131072) := rc_lt hcy HMD2.out hf2
          have hdv := rc_div (s := cy + d * fr) (tt := tt) HSS.out
          have hmd := rc_mod (s := cy + d * fr) ht ht2
          have HOS : Hid (Rcw w (wz.setCell ⟨g, i, none⟩ (.int .u8 (((cy + d * fr) % tt : Nat) : Int))) (.slice (some ⟨g, 0, none⟩) L.length c2) (M.set i ((cy + d * fr) % tt))) := by
            have h1 := own_set (j := i) (.int .u8 (((cy + d * fr) % tt : Nat) : Int)) ho
            rw [bv_setL] at h1
            have hge := (ho.lt g rfl).1
            exact ⟨by rw [List.length_set, HML.out]; exact h1, HJ.out.b.trans (((Kp.refl (fun q => q = g) wz).setCell _ _ (fun _ => rfl)).below HJ.out.b.size (fun q e => by omega))⟩
          have HS := hide hsum
          have HD := hide hdv
          have HMO := hide hmd
          clear ho hsum hdv hmd HI HJ HM
          generalize cy + d * fr = sm at *
          generalize sm % tt = m at *
          generalize sm / tt = q at *
          as_aux_lemma =>
          go_wp2_with fail
          go_roundw
          case rel => exact ⟨i + 1, q, M.set i m, by go_num, by rw [HS.out, HD.out], HST, by rw [HS.out, HMO.out]; exact HOS⟩
          case measure => simp [intOf]; omega
        · have hie : i = L.length := by have := HM.out.q; omega
          have g3 : ¬ (i : Int) < (L.length : Int) := by omega
          subst hie
          have HE0 : Hid (Rce tt (valB fr (xs.take (k + 1))) M cy) := by
            rw [HTK.out]
            exact HM.out.done HR.out (by omega)
          clear hML hcy HM
          go_wp2_with fail
          go_loopw [8, 11] (fun vl cc wx => ∃ (cy2 : Nat) (M2 : List Nat), cc = .int .i64 (cy2 : Nat) ∧ Hid (Rce tt (valB fr (xs.take (k + 1))) M2 cy2) ∧ Hid (Rcw w wx vl M2)) (fun _ cc _ => (intOf cc).toNat)
          case atStart => exact ⟨cy, M, rfl, HE0, HJ⟩
          case round => as_aux_lemma =>
            rename World => wv
            obtain ⟨cy2, M2, rfl, HE, HW⟩ := hrel
            clear HE0 HJ HI
            obtain ⟨a4, c4, hv4, _⟩ := own_form HW.out.o
            subst hv4
            have hcy2 := HE.out.c
            by_cases hp : 0 < cy2
            · have g7 : (0 : Int) < (cy2 : Int) := by omega
              have HLN := hide (HE.out.len hp HP2.out hf hf2 ht)
              rw [HL2.out] at HLN
              have HST := hide (HE.out.step hp ht)
              have hdv : (cy2 : Int) / (tt : Int) = ((cy2 / tt : Nat) : Int) := (Int.natCast_ediv cy2 tt).symm
              have hmd : (cy2 : Int) % (tt : Int) % 256 = ((cy2 % tt : Nat) : Int) := by
                have h := Nat.mod_lt cy2 (show 0 < tt by omega)
                rw [← Int.natCast_emod]
                omega
              have hm256 : cy2 % tt < 256 := by have := Nat.mod_lt cy2 (show 0 < tt by omega); omega
              have hdl : cy2 / tt < cy2 := Nat.div_lt_self hp (by omega)
              generalize cy2 % tt = m at *
              generalize cy2 / tt = q at *
              have HL1 := hide (one_bsl wv m hm256)
              have HA1 := hide (HW.out.o.alloc (.cells #[.int .u8 ((m : Nat) : Int)] 5))
              have HZ1 : Hid (M2.length + ([m] : List Nat).length ≤ 140737488355328) := by have := HLN.out; show _ ≤ _; rw [List.length_singleton]; omega
              have HBZ : Hid (w.heap.size ≤ (wv.alloc (.cells #[.int .u8 ((m : Nat) : Int)] 5)).heap.size) := by have := HW.out.b.size; show _ ≤ _; simp; omega
              have HBA : Hid (Below w.heap.size w (wv.alloc (.cells #[.int .u8 ((m : Nat) : Int)] 5))) := HW.out.b.alloc HW.out.b.size _
              go_wp2_with (at_builtin; refine append_bsl rfl _ _ rfl w.heap.size _ M2.length M2 rfl HA1.out _ [m] rfl HL1.out HZ1.out HBZ.out ?_)
              intro v7 w7 ho7 hg7
              have HB7 : Hid (Below w.heap.size w w7) := HBA.out.grown hg7 HBZ.out (fun g hg => (HA1.out.lt g hg).1)
              have HO7 : Hid (w7.ownsRow w.heap.size 5 1 v7 (M2 ++ [m]).length (bv (M2 ++ [m]))) := by show World.ownsRow _ _ _ _ _ _ _; rw [List.length_append]; exact ho7
              obtain ⟨a7, c7, hv7, _⟩ := own_form ho7
              subst hv7
              clear ho7 hg7 HA1 HL1 HBA HW
              go_wp2_with fail
              go_roundw
              case rel => exact ⟨q, M2 ++ [m], rfl, HST, ⟨HO7.out, HB7.out⟩⟩
              case measure => simp [intOf]; omega
            · have hz : cy2 = 0 := by omega
              subst hz
              have HRD : Hid (Rcd fr tt (xs.take (k + 1)) M2) := HE.out.done
              have HZR : Hid (nz (xs.take (k + 1)) = if M2 = [] then nz (xs.take k) + 1 else nz (xs.take k)) := by
                have h := HRD.out
                rw [HTK.out] at h
                show _ = _
                rw [HTK.out]
                exact h.zeros ht (by omega)
              have hnz : nz (xs.take k) ≤ 1000 := by have h := nz_le (xs.take k); rw [List.length_take] at h; omega
              clear HE hcy2
              by_cases hm : M2 = []
              · subst hm
                rw [if_pos rfl] at HZR
                simp only [List.length_nil] at HW ⊢
                go_wp2_with fail
                go_roundw
                case rel => exact ⟨k + 1, [], by omega, by go_num, by rw [HZR.out]; go_num, HRD, HW⟩
                case measure => simp [intOf]; omega
              · rw [if_neg hm] at HZR
                have g9 : ((M2.length : Int) == 0) = false := beq_eq_false_iff_ne.2 (by have := List.length_pos_iff.2 hm; omega)
                go_wp2_with fail
                go_roundw
                case rel => exact ⟨k + 1, M2, by omega, by go_num, by rw [HZR.out], HRD, HW⟩
                case measure => simp [intOf]; omega
    · have hkx : k = xs.length := by omega
      have g1 : ¬ (k : Int) < (xs.length : Int) := by omega
      have HTA : Hid (xs.take k = xs) := List.take_of_length_le (by omega)
      rw [HTA.out] at HR ⊢
      have HCV := hide (HR.out.conv ht)
      have HRD := hide HR.out.d
      have hLm : L.length ≤ 8000 := by have := HLL.out; omega
      have hzm : nz xs ≤ 1000 := by have := nz_le xs; omega
      clear HLL HPX hkx hlt HR hk HTA
      go_wp2_with fail
      refine (reverse_any HI.out.o (by omega)).mono ?_
      rintro e w1 ⟨rfl, ho1, hk1⟩
      have HO1 := hide ho1
      have HB1 : Hid (Below w.heap.size w w1) := HI.out.b.trans (hk1.below HI.out.b.size (fun q e => (HI.out.o.lt q e).1))
      have hmk := mk_bytes w1 (nz xs) (nz xs + L.length) (by omega) (by omega)
      have HM0 := hide (mk_own w1 w.heap.size (nz xs) (nz xs + L.length) (by omega) (by omega) HB1.out.size)
      have HB2 : Hid (Below w.heap.size w (w1.alloc (.cells (bv (List.replicate (nz xs + L.length) 0)).toArray 5))) := HB1.out.trans ((below_alloc4 w1 _).mono HB1.out.size)
      have HRB : Hid (∀ y ∈ L.reverse, y < 256) := fun y hy => by have := HRD.out y (List.mem_reverse.1 hy); omega
      have ho2 : w1.ownsRow w.heap.size 5 1 (.slice a2 L.length c2) L.reverse.length (bv L.reverse) := by rw [List.length_reverse]; exact HO1.out
      have HV2 := hide ((BSl.own ho2 HRB.out).move (keep_below (below_alloc4 w1 (.cells (bv (List.replicate (nz xs + L.length) 0)).toArray 5))))
      have HZ2 : Hid (nz xs + L.reverse.length ≤ 140737488355328) := by show _ ≤ _; rw [List.length_reverse]; omega
      have hcs : ((nz xs + L.length : Nat) : Int) = (nz xs : Int) + (L.length : Int) := by omega
      rw [hcs] at hmk
      clear ho1 hk1 ho2 hcs HO1 HI
      go_wp2_with (at_builtin; refine append_bsl rfl _ _ rfl w.heap.size _ (nz xs) (List.replicate (nz xs) 0) rfl HM0.out _ L.reverse rfl HV2.out HZ2.out HB2.out.size ?_)
      intro v7 w7 ho7 hg7
      have HB7 : Hid (Below w.heap.size w w7) := HB2.out.grown hg7 HB2.out.size (fun g hg => (HM0.out.lt g hg).1)
      have HO7 : Hid (w7.ownsRow w.heap.size 5 1 v7 (conv fr tt xs).length (bv (conv fr tt xs))) := by
        show World.ownsRow _ _ _ _ _ _ _
        rw [HCV.out, List.length_append, List.length_replicate]
        rw [List.length_reverse]
        exact ho7
      obtain ⟨a7, c7, hv7, _⟩ := own_form ho7
      subst hv7
      clear ho7 hg7 HM0 HV2
      go_wp2_with fail
      go_ret
      exact ⟨_, rfl, HO7.out, HB7.out⟩
end
section
open Go.RowKit Go
/-- A row's digits in a base. -/
def cutd (b : Bs) (xs : List Nat) : List Nat := if b.n = 0 then conv 256 b.t.size xs else encW b.n xs
/-- A base that may be. -/
structure Bok (b : Bs) : Prop where
  n : b.n ≤ 8
  t : 2 ≤ b.t.size
  t2 : b.t.size ≤ 58
  e : b.n ≠ 0 → 2 ^ b.n = b.t.size
  w : tells (sl b.t)
  z : b.l.size ≤ 8
theorem bok16 : Bok b16 := ⟨by decide, by decide, by decide, fun _ => by decide, by show tells (sl s16); rw [sl16]; exact tells16, by decide⟩
theorem bok32 : Bok b32 := ⟨by decide, by decide, by decide, fun _ => by decide, by show tells (sl s32); rw [sl32]; exact tells32, by decide⟩
theorem bok58 : Bok b58 := ⟨by decide, by decide, by decide, fun h => absurd rfl h, by show tells (sl s58); rw [sl58]; exact tells58, by decide⟩
theorem cutd_lt {b : Bs} (hb : Bok b) (xs : List Nat) : ∀ x ∈ cutd b xs, x < b.t.size := by
  unfold cutd
  split
  · exact conv_lt hb.t xs
  · rename_i h
    rw [← hb.e h]
    exact encW_lt (by omega) xs
theorem byte8 {xs : List Nat} (h : ∀ x ∈ xs, x < 256) : ∀ x ∈ xs, x < 2 ^ 8 := h
set_option maxRecDepth 1000000 in
set_option maxHeartbeats 1000000 in
theorem cut_any (w : World) (b : Bs) (v : Value) (xs : List Nat) (hb : Bok b) (hv : BSl w v xs) (hl : xs.length ≤ 1000) :
    Calls Tryz.prog 81 #[.agg b.cs, v] w fun e w' => ∃ vo, e = .returned vo ∧ w'.ownsRow w.heap.size 5 1 vo (cutd b xs).length (bv (cutd b xs)) ∧ Below w.heap.size w w' := by
  have HV := hide hv
  have HB := hide hb
  have HL := hide hl
  obtain ⟨⟨a, cap, rfl, hn, hc⟩, hmax, hby⟩ := hv
  have HBY := hide hby
  clear hn hc hby hb hl
  obtain ⟨bl, bt, bn⟩ := b
  have HT : Hid ((w.alloc (.cells #[.string bl, .string bt, .int .i64 (bn : Nat)] 108)).heap[w.heap.size]? = some (.cells #[.string bl, .string bt, .int .i64 (bn : Nat)] 108 (0, 0))) := heap_alloc_new w _
  have HB0 := hide (below_alloc4 w (.cells #[.string bl, .string bt, .int .i64 (bn : Nat)] 108))
  have HV0 := hide (HV.out.move (keep_below HB0.out))
  simp only [Bs.cs]
  by_cases h0 : bn = 0
  · subst h0
    have HCU : Hid (cutd ⟨bl, bt, 0⟩ xs = conv 256 bt.size xs) := rfl
    rw [HCU.out]
    go_enter Tryz.func81, Tryz.ntmps81
    go_wp2_with fail
    have HT0 : Hid ((w.alloc (.cells #[.string bl, .string bt, .int .i64 0] 108)).heap[w.heap.size]? = some (.cells #[.string bl, .string bt, .int .i64 0] 108 (0, 0))) := heap_alloc_new w _
    have HBX : Hid (Below w.heap.size w (w.alloc (.cells #[.string bl, .string bt, .int .i64 0] 108))) := below_alloc4 w _
    have HVX := hide (HV.out.move (keep_below HBX.out))
    clear HT HB0 HV0
    generalize w.alloc (.cells #[.string bl, .string bt, .int .i64 0] 108) = w0 at *
    have HRC : Calls Tryz.prog 83 #[.slice a xs.length cap, .int .i64 256, .int .i64 (bt.size : Nat)] w0 _ := recast_any w0 _ xs 256 bt.size HVX.out (by decide) (by decide) HB.out.t (Nat.le_trans HB.out.t2 (by decide)) HBY.out HL.out
    refine HRC.mono ?_
    rintro e w1 ⟨vo, rfl, ho, hb1⟩
    have HO := hide (own_mono4 ho HBX.out.size)
    have HB1 : Hid (Below w.heap.size w w1) := HBX.out.trans (hb1.mono HBX.out.size)
    obtain ⟨a2, c2, hv2, _⟩ := own_form ho
    subst hv2
    clear ho hb1
    go_wp2_with fail
    go_ret
    exact ⟨_, rfl, HO.out, HB1.out⟩
  · have HCU : Hid (cutd ⟨bl, bt, bn⟩ xs = encW bn xs) := by show _ = _; unfold cutd; rw [if_neg h0]
    rw [HCU.out]
    have g0 : ((bn : Int) == 0) = false := beq_eq_false_iff_ne.2 (by omega)
    have hn8 : bn ≤ 8 := HB.out.n
    have h0' : 0 < bn := by omega
    have q2 : (w.alloc (.cells #[.string bl, .string bt, .int .i64 (bn : Nat)] 108)).cell? ⟨w.heap.size, 2, none⟩ = some (.int .i64 (bn : Nat)) := blk_cell HT.out rfl
    clear h0
    go_enter Tryz.func81, Tryz.ntmps81
    go_wp2_with fail
    generalize w.alloc (.cells #[.string bl, .string bt, .int .i64 (bn : Nat)] 108) = w0 at *
    have HRC : Calls Tryz.prog 84 #[.slice a xs.length cap, .int .i64 8, .int .i64 (bn : Nat)] w0 _ := regroup_any w0 _ xs 8 bn HV0.out (by decide) (by decide) h0' hn8 (byte8 HBY.out) HL.out
    refine HRC.mono ?_
    rintro e w1 ⟨vo, out, R, rfl, hg, hR, ho, hb1⟩
    have HEN := hide (encW_rg h0' hg hR)
    have HRS : Hid (valB 2 R < 2 ^ R.length) := valB_lt (b := 2) (by decide) hg.r
    have HOL : Hid (out.length ≤ 8000) := by
      have h := hg.len
      rw [flat_len] at h
      have h2 : out.length * 1 ≤ out.length * bn := Nat.mul_le_mul_left _ h0'
      have := HL.out
      show _ ≤ _
      omega
    have HO := hide (own_mono4 ho HB0.out.size)
    have HB1 : Hid (Below w.heap.size w w1) := HB0.out.trans (hb1.mono HB0.out.size)
    have q3 : w1.cell? ⟨w.heap.size, 2, none⟩ = some (.int .i64 (bn : Nat)) := keep_below hb1 _ _ q2
    obtain ⟨a2, c2, hv2, _⟩ := own_form ho
    subst hv2
    clear ho hb1 hg q2 HV0 HT
    by_cases hR0 : R = []
    · as_aux_lemma =>
      rw [if_pos hR0, List.append_nil] at HEN
      subst hR0
      simp only [List.length_nil]
      go_wp2_with fail
      go_ret
      exact ⟨_, rfl, by rw [HEN.out]; exact HO.out, HB1.out⟩
    · as_aux_lemma =>
      rw [if_neg hR0] at HEN
      have hRp : 0 < R.length := List.length_pos_iff.2 hR0
      have g1 : (0 : Int) < (R.length : Int) := by omega
      have hV : valB 2 R * 2 ^ (bn - R.length) < 256 := by
        have h1 : (valB 2 R + 1) * 2 ^ (bn - R.length) ≤ 2 ^ R.length * 2 ^ (bn - R.length) := Nat.mul_le_mul_right _ HRS.out
        rw [← Nat.pow_add] at h1
        have e : R.length + (bn - R.length) = bn := by omega
        rw [e, Nat.add_mul, Nat.one_mul] at h1
        have h2 := pow_le8 hn8
        have h3 : 0 < 2 ^ (bn - R.length) := Nat.pow_pos (by decide)
        omega
      generalize hX : valB 2 R * 2 ^ (bn - R.length) = X at *
      have hXI : ((valB 2 R : Nat) : Int) * 2 ^ (bn - R.length) = (X : Int) := by rw [← hX, Int.natCast_mul, Int.natCast_pow]; rfl
      have HL1 := hide (one_bsl w1 X hV)
      have HA1 := hide (HO.out.alloc (.cells #[.int .u8 ((X : Nat) : Int)] 5))
      have HZ1 : Hid (out.length + ([X] : List Nat).length ≤ 140737488355328) := by have := HOL.out; show _ ≤ _; rw [List.length_singleton]; omega
      have HBZ : Hid (w.heap.size ≤ (w1.alloc (.cells #[.int .u8 ((X : Nat) : Int)] 5)).heap.size) := by have := HB1.out.size; show _ ≤ _; simp; omega
      have HBA : Hid (Below w.heap.size w (w1.alloc (.cells #[.int .u8 ((X : Nat) : Int)] 5))) := HB1.out.alloc HB1.out.size _
      clear hX hR0
      go_wp2_with (at_builtin; refine append_bsl rfl _ _ rfl w.heap.size _ out.length out rfl HA1.out _ [X] rfl HL1.out HZ1.out HBZ.out ?_)
      intro v7 w7 ho7 hg7
      have HB7 : Hid (Below w.heap.size w w7) := HBA.out.grown hg7 HBZ.out (fun g hg => (HA1.out.lt g hg).1)
      have HO7 : Hid (w7.ownsRow w.heap.size 5 1 v7 (out ++ [X]).length (bv (out ++ [X]))) := by show World.ownsRow _ _ _ _ _ _ _; rw [List.length_append]; exact ho7
      obtain ⟨a7, c7, hv7, _⟩ := own_form ho7
      subst hv7
      clear ho7 hg7 HA1 HL1 HBA
      go_wp2_with fail
      go_ret
      exact ⟨_, rfl, by rw [HEN.out]; exact HO7.out, HB7.out⟩
end
section
open Go.RowKit Go
/-- A row's text in a base. -/
def btext (b : Bs) (xs : List Nat) : List Nat := (cutd b xs).map fun d => (sl b.t).getD d 0
theorem btext_byte (b : Bs) (xs : List Nat) : ∀ x ∈ btext b xs, x < 256 := by
  intro x hx
  obtain ⟨d, _, rfl⟩ := List.mem_map.1 hx
  exact getD_lt (sl_byte b.t) d
theorem map_step (ds : List Nat) (f : Nat → Nat) (k : Nat) (hk : k < ds.length) : ((ds.take k).map f ++ ds.drop k).set k (f (ds.getD k 0)) = (ds.take (k + 1)).map f ++ ds.drop (k + 1) := by
  rw [take_at ds k hk, List.map_append, List.drop_eq_getElem_cons hk, List.set_append_right _ _ (by simp; omega)]
  have hl : ((ds.take k).map f).length = k := by rw [List.length_map, List.length_take]; omega
  rw [hl, Nat.sub_self, List.set_cons_zero]
  simp
theorem map_get (ds : List Nat) (f : Nat → Nat) (k : Nat) (hk : k < ds.length) : ((ds.take k).map f ++ ds.drop k).getD k 0 = ds.getD k 0 := by
  have hl : ((ds.take k).map f).length = k := by rw [List.length_map, List.length_take]; omega
  rw [List.getD_eq_getElem?_getD, List.getElem?_append_right (by omega), hl, Nat.sub_self, List.getElem?_drop, Nat.add_zero, ← List.getD_eq_getElem?_getD]
theorem map_len (ds : List Nat) (f : Nat → Nat) (k : Nat) (hk : k ≤ ds.length) : ((ds.take k).map f ++ ds.drop k).length = ds.length := by
  rw [List.length_append, List.length_map, List.length_take, List.length_drop]
  omega
theorem cutd_len {b : Bs} (hb : Bok b) {xs : List Nat} (h : ∀ x ∈ xs, x < 256) : (cutd b xs).length ≤ 9 * xs.length + 9 := by
  unfold cutd
  split
  · unfold conv
    rw [List.length_append, List.length_replicate]
    have hd : ∀ x ∈ xs.dropWhile (· == 0), x < 256 := fun x hx => h x ((List.dropWhile_suffix _).subset hx)
    have h1 := digB_len hb.t _ _ (val_pow hd (by decide) (by decide) hb.t)
    have h2 := congrArg List.length (List.takeWhile_append_dropWhile (p := (· == 0)) (l := xs))
    rw [List.length_append] at h2
    omega
  · rename_i h0
    unfold encW
    rw [grp_len (by omega) _ _ (Nat.le_refl _), List.length_append, flat_len, List.length_replicate]
    have h1 := Nat.mod_lt (b.n - xs.length * 8 % b.n) (show 0 < b.n by omega)
    have h2 := hb.n
    have h3 := Nat.div_le_self (xs.length * 8 + (b.n - xs.length * 8 % b.n) % b.n) b.n
    omega
set_option maxRecDepth 1000000 in
set_option maxHeartbeats 1000000 in
theorem text_any (w : World) (b : Bs) (v : Value) (xs : List Nat) (hb : Bok b) (hv : BSl w v xs) (hl : xs.length ≤ 1000) :
    Calls Tryz.prog 47 #[.agg b.cs, v] w fun e w' => e = .returned (.string (nstr (btext b xs))) ∧ Below w.heap.size w w' := by
  have HV := hide hv
  have HB := hide hb
  have HL := hide hl
  obtain ⟨⟨a, cap, rfl, hn, hc⟩, hmax, hby⟩ := hv
  have HBY := hide hby
  have HCL : Hid ((cutd b xs).length ≤ 10000) := by have := cutd_len hb hby; show _ ≤ _; omega
  have HCD := hide (cutd_lt hb xs)
  have HBT : Hid (btext b xs = (cutd b xs).map fun d => (sl b.t).getD d 0) := rfl
  have HBB := hide (btext_byte b xs)
  clear hn hc hby hb hl
  obtain ⟨bl, bt, bn⟩ := b
  have HT : Hid ((w.alloc (.cells #[.string bl, .string bt, .int .i64 (bn : Nat)] 108)).heap[w.heap.size]? = some (.cells (Bs.cs ⟨bl, bt, bn⟩) 108 (0, 0))) := heap_alloc_new w _
  have HB0 := hide (below_alloc4 w (.cells #[.string bl, .string bt, .int .i64 (bn : Nat)] 108))
  have HV0 := hide (HV.out.move (keep_below HB0.out))
  simp only [Bs.cs]
  go_enter Tryz.func47, Tryz.ntmps47
  go_wp2_with fail
  generalize w.alloc (.cells #[.string bl, .string bt, .int .i64 (bn : Nat)] 108) = w0 at *
  refine (cut_any w0 ⟨bl, bt, bn⟩ _ xs HB.out HV0.out HL.out).mono ?_
  rintro e w1 ⟨vo, rfl, ho, hb1⟩
  have HO := hide (own_mono4 ho HB0.out.size)
  have HB1 : Hid (Below w.heap.size w w1) := HB0.out.trans (hb1.mono HB0.out.size)
  have HT1 : Hid (w1.heap[w.heap.size]? = some (.cells (Bs.cs ⟨bl, bt, bn⟩) 108 (0, 0))) := (hb1.block _ (blk_lt HT.out)).trans HT.out
  have HGE : Hid (∀ g, vo.ownBlock = some g → ¬ g = w.heap.size) := fun g hg e => by have := (ho.lt g hg).1; have := blk_lt HT.out; omega
  obtain ⟨a2, c2, hv2, hcp, hq0⟩ := own_form ho
  subst hv2
  clear hq0 ho hb1 HT HV0 HB0
  generalize hDS : cutd ⟨bl, bt, bn⟩ xs = ds at *
  generalize hBX : btext ⟨bl, bt, bn⟩ xs = bx at *
  have HBXE := hide hBX
  clear hDS hBX
  go_wp2_with fail
  go_loopw [13] (fun ii wx => ∃ k : Nat, k ≤ ds.length ∧ ii = .int .i64 (k : Nat) ∧ Hid (wx.ownsRow w.heap.size 5 1 (.slice a2 ds.length c2) ds.length (bv ((ds.take k).map (fun d => (sl bt).getD d 0) ++ ds.drop k))) ∧ Hid (wx.heap[w.heap.size]? = some (.cells (Bs.cs ⟨bl, bt, bn⟩) 108 (0, 0))) ∧ Hid (Below w.heap.size w wx)) (fun ii _ => ds.length - (intOf ii).toNat)
  case atStart => exact ⟨0, by omega, rfl, HO, HT1, HB1⟩
  case round =>
    obtain ⟨k, hk, rfl, HI, HTI, HBI⟩ := hrel
    have hdl : ds.length ≤ 10000 := HCL.out
    by_cases hlt : k < ds.length
    · have g1 : (k : Int) < (ds.length : Int) := by omega
      obtain ⟨a3, c3, hv3, hq1, hq2, hcl⟩ := own_form HI.out
      injection hv3 with e1 e2 e3
      subst e1
      obtain ⟨g, rfl, hq3⟩ := hcl k _ (bv_get (by rw [map_len _ _ _ (by omega)]; exact hlt))
      obtain ⟨q1, f1⟩ := own_cell HI.out (bv_get (xs := (ds.take k).map (fun d => (sl bt).getD d 0) ++ ds.drop k) (j := k) (by rw [map_len _ _ _ (by omega)]; exact hlt))
      rw [map_get ds _ k hlt] at q1
      have hDX : ds.getD k 0 < bt.size := by
        rw [List.getD_eq_getElem?_getD, List.getElem?_eq_getElem hlt]
        exact HCD.out _ (List.getElem_mem hlt)
      have hDX2 : (ds.getD k 0 : Int) < (bt.size : Int) := by omega
      have c1 : wr.cell? ⟨w.heap.size, 1, none⟩ = some (.string bt) := blk_cell HTI.out rfl
      have HMS := hide (map_step ds (fun d => (sl bt).getD d 0) k hlt)
      have HSA := hide (sl_at bt (ds.getD k 0) hDX)
      have HGN : Hid (¬ g = w.heap.size) := HGE.out g rfl
      have hgn : ¬ g = w.heap.size := HGN.out
      clear hcl e2 e3 hq1 hq2 hq3
      generalize ds.getD k 0 = d at *
      have HSV : Hid (wr.setCell ⟨g, k, none⟩ (.int .u8 (bt[d].toNat : Int)) = wr.setCell ⟨g, k, none⟩ (.int .u8 (((sl bt).getD d 0 : Nat) : Int))) := by show _ = _; rw [HSA.out]
      go_wp2_with fail
      go_roundw
      case rel => 
        refine ⟨k + 1, by omega, by go_num, ?_, ?_, ?_⟩
        · show World.ownsRow _ _ _ _ _ _ _
          rw [HSV.out, ← HMS.out, ← bv_setL]
          exact own_set _ HI.out
        · exact blk_other _ _ HTI.out (fun e => hgn e.symm)
        · exact HBI.out.trans (((Kp.refl (fun q => q = g) wr).setCell ⟨g, k, none⟩ _ (fun _ => rfl)).below HBI.out.size (fun q e => by subst e; exact (HI.out.lt q rfl).1))
      case measure => simp [intOf]; omega
    · have hke : k = ds.length := by omega
      have g1 : ¬ (k : Int) < (ds.length : Int) := by omega
      have ho := HI.out
      rw [List.take_of_length_le (by omega), List.drop_of_length_le (by omega), List.append_nil, ← HBT.out] at ho
      have hbl : bx.length = ds.length := by rw [HBT.out, List.length_map]
      rw [← hbl] at ho
      have HBS := hide (BSl.own ho HBB.out)
      rw [hbl] at HBS
      have cv := HBS.out.text
      clear ho hbl hke hlt
      go_wp2_with fail
      go_ret
      exact ⟨by rw [HBXE.out]; rfl, HBI.out⟩
end
section
open Go.RowKit Go
set_option maxRecDepth 1000000 in
set_option maxHeartbeats 1000000 in
/-- slices.Grow of nil. -/
theorem grow_any (w : World) (n : Nat) (h0 : 0 < n) (hn : n ≤ 1000) :
    Calls Tryz.prog 51 #[.slice none 0 0, .int .i64 (n : Nat)] w fun e w' => ∃ v, e = .returned v ∧ w'.ownsRow w.heap.size 5 1 v 0 (bv []) ∧ Below w.heap.size w w' := by
  obtain ⟨i5, hi, hz0, hz1, hz2⟩ := info5_ex
  have hold : (Builtin.firstCells i5.size 0 (.slice none 0 0)).run Tryz.prog w.drew = .ok ([] : List Value).toArray w.drew := run_firstCells_none w.drew i5.size 0 0 0
  have hrz : ∀ ty, (Builtin.append_ #[56, 3] ty #[.slice none 0 0, .int .i64 (n : Nat)]).run Tryz.prog w = .ok (.slice (some ⟨w.heap.size, 0, none⟩) n (grownCap w n 0 5)) (w.drew.alloc (.cells (Builtin.zeroCells (Value.int .u8 0).cells n ++ Builtin.zeroCells (Value.int .u8 0).cells (grownCap w n 0 5 - n)) 5)) := fun ty => by
    have h := Lib.run_append_grow_zeros w 56 3 ty 5 i5 (.int .u8 0) .i64 .i64 Tryz.underlying56 Tryz.underlying3 hi hz0 none 0 0 [] hold n h0 (by rw [hz1]; omega) (by omega) (by omega) (by rw [hz2]; omega) (growslice_fits (by omega) (by rw [hz2]; omega))
    simpa using h
  have hG := grownCap_ge w n 0 5
  have hM := grownCap_le_maxLen w n 0 5 (by unfold maxLen; omega)
  have HO : Hid ((w.drew.alloc (.cells (Builtin.zeroCells (Value.int .u8 0).cells n ++ Builtin.zeroCells (Value.int .u8 0).cells (grownCap w n 0 5 - n)) 5)).ownsRow w.heap.size 5 1 (.slice (some ⟨w.heap.size, 0, none⟩) 0 (grownCap w n 0 5)) 0 (bv [])) := by
    refine ⟨rfl, .inr ⟨w.heap.size, grownCap w n 0 5, _, rfl, Nat.le_refl _, heap_alloc_new w.drew _, by omega, hM, ?_, by simp [bv]⟩⟩
    simp [Builtin.zeroCells, Value.cells]
    omega
  have HB : Hid (Below w.heap.size w (w.drew.alloc (.cells (Builtin.zeroCells (Value.int .u8 0).cells n ++ Builtin.zeroCells (Value.int .u8 0).cells (grownCap w n 0 5 - n)) 5))) := (Below.refl w.heap.size w).drew.alloc (Nat.le_refl _) _
  clear hold hi hz0 hz1 hz2
  have h1 : ¬ ((n : Int) < 0) := by omega
  have h4 : (n : Int) > 0 := by omega
  have hG63 : (grownCap w n 0 5 : Int) ≤ 9223372036854775807 := by unfold maxLen at hM; omega
  generalize grownCap w n 0 5 = G at *
  go_enter Tryz.func51, Tryz.ntmps51
  go_wp2_with (at_builtin; refine Lib.wpList_append_run _ rfl _ _ _ _ rfl _ _ rfl rfl _ _ (hrz _) ?_)
  go_ret
  exact ⟨_, rfl, HO.out, HB.out⟩
end
section
open Go.RowKit Go
/-- Rows of bytes in a block of slices. -/
structure Rws (w : World) (g : Nat) (vs : List Value) (xss : List (List Nat)) : Prop where
  n : vs.length = xss.length
  c : ∀ i, i < vs.length → w.cell? ⟨g, i, none⟩ = some (vs.getD i undef)
  b : ∀ i, i < vs.length → BSl w (vs.getD i undef) (xss.getD i [])
theorem Rws.below {w w' : World} {g : Nat} {vs : List Value} {xss : List (List Nat)} (h : Rws w g vs xss) (hb : Below w.heap.size w w') : Rws w' g vs xss :=
  ⟨h.n, fun i hi => keep_below hb _ _ (h.c i hi), fun i hi => (h.b i hi).move (keep_below hb)⟩
/-- How many bytes the first k rows have, and all bytes. -/
def fln (xss : List (List Nat)) (k : Nat) : Nat := (xss.take k).flatten.length
def fla (xss : List (List Nat)) (k : Nat) : List Nat := (xss.take k).flatten
theorem fla_len (xss : List (List Nat)) (k : Nat) : (fla xss k).length = fln xss k := rfl
theorem fla_succ (xss : List (List Nat)) (k : Nat) (hk : k < xss.length) : fla xss (k + 1) = fla xss k ++ xss.getD k [] := by
  unfold fla
  rw [List.take_succ_eq_append_getElem hk, List.flatten_append]
  simp [List.getD, hk]
theorem fln_succ (xss : List (List Nat)) (k : Nat) (hk : k < xss.length) : fln xss (k + 1) = fln xss k + (xss.getD k []).length := by
  rw [← fla_len, ← fla_len, fla_succ xss k hk, List.length_append]
theorem fln_le (xss : List (List Nat)) (k : Nat) : fln xss k ≤ fln xss xss.length := by
  unfold fln
  rw [List.take_length]
  conv => rhs; rw [← List.take_append_drop k xss, List.flatten_append, List.length_append]
  omega
theorem fla_all (xss : List (List Nat)) : fla xss xss.length = xss.flatten := by unfold fla; rw [List.take_length]
set_option maxRecDepth 1000000 in
set_option maxHeartbeats 1000000 in
/-- slices.Concat. -/
theorem concat_any (w : World) (g n : Nat) (vs : List Value) (xss : List (List Nat)) (hr : Rws w g vs xss) (hn : vs.length = n) (hn0 : n ≤ 100) (h0 : 0 < fln xss n) (hl : fln xss n ≤ 1000) :
    Calls Tryz.prog 32 #[.slice (some ⟨g, 0, none⟩) n n] w fun e w' => ∃ v, e = .returned v ∧ w'.ownsRow w.heap.size 5 1 v (fln xss n) (bv (fla xss n)) ∧ Below w.heap.size w w' := by
  have HR := hide hr
  have HN := hide hn
  have HL := hide hl
  have H0 := hide h0
  have HX : Hid (xss.length = n) := by have := hr.n; show _ = _; omega
  clear hr hn hl h0
  go_enter Tryz.func32, Tryz.ntmps32
  go_wp2_with fail
  go_loopw [3, 11] (fun ss ii wx => wx = w ∧ ∃ k : Nat, k ≤ n ∧ ii = .int .i64 (k : Nat) ∧ ss = .int .i64 (fln xss k : Nat)) (fun _ ii _ => n - (intOf ii).toNat)
  case atStart => exact ⟨rfl, 0, by omega, rfl, rfl⟩
  case round =>
    obtain ⟨rfl, k, hk, rfl, rfl⟩ := hrel
    by_cases hlt : k < n
    · have g1 : (k : Int) < (n : Int) := by omega
      have q1 := HR.out.c k (by have := HN.out; omega)
      have HB1 := hide (HR.out.b k (by have := HN.out; omega))
      have HF := hide (fln_succ xss k (by have := HX.out; omega))
      have HF2 := hide (fln_le xss (k + 1))
      obtain ⟨⟨a, cap, hv, _⟩, _, _⟩ := HB1.out
      rw [hv] at q1
      have g3 : fln xss k + (xss.getD k []).length ≤ 1000 := by have := HF2.out; rw [HF.out, HX.out] at this; have := HL.out; omega
      have HSU : Hid (fln xss k + (xss.getD k []).length = fln xss (k + 1)) := HF.out.symm
      clear hv HF HF2
      generalize fln xss k = s1 at *
      generalize (xss.getD k []).length = s3 at *
      have g2 : ¬ ((s1 : Int) + (s3 : Int) < 0) := by omega
      go_wp2_with fail
      go_roundw
      case rel => exact ⟨trivial, k + 1, by omega, by go_num, by have := HSU.out; congr 1; omega⟩
      case measure => simp [intOf]; omega
    · have hkn : k = n := by omega
      subst hkn
      have g1 : ¬ (k : Int) < (k : Int) := by omega
      generalize hS : fln xss k = S at *
      have HS := hide hS
      clear hS hlt
      have h1 := H0.out
      have h2 := HL.out
      go_wp2_with fail
      refine (grow_any wr S h1 h2).mono ?_
      rintro e w1 ⟨v1, rfl, ho1, hb1⟩
      have HO1 := hide ho1
      have HB1 := hide hb1
      clear ho1 hb1
      obtain ⟨a1, c1, hv1, _⟩ := own_form HO1.out
      subst hv1
      go_wp2_with fail
      go_loopw [6, 27] (fun vv ii wx => ∃ j : Nat, j ≤ k ∧ ii = .int .i64 (j : Nat) ∧ Hid (wx.ownsRow wr.heap.size 5 1 vv (fln xss j) (bv (fla xss j))) ∧ Hid (Below wr.heap.size wr wx)) (fun _ ii _ => k - (intOf ii).toNat)
      case atStart => exact ⟨0, by omega, rfl, HO1, HB1⟩
      case round => as_aux_lemma =>
        rename World => wz
        obtain ⟨j, hj, rfl, HO, HB⟩ := hrel
        clear HO1 HB1
        by_cases hjl : j < k
        · have g5 : (j : Int) < (k : Int) := by omega
          have HR2 := hide (HR.out.below HB.out)
          have q1 := HR2.out.c j (by have := HN.out; omega)
          have HBL := hide (HR2.out.b j (by have := HN.out; omega))
          have HF := hide (fln_succ xss j (by have := HX.out; omega))
          have HFA := hide (fla_succ xss j (by have := HX.out; omega))
          have HF2 : Hid (fln xss (j + 1) ≤ 1000) := by have := fln_le xss (j + 1); rw [HX.out, HS.out] at this; exact Nat.le_trans this HL.out
          obtain ⟨⟨a, cap, hv, _⟩, _, _⟩ := HBL.out
          rw [hv] at q1 HBL
          obtain ⟨a2, c2, hv2, _⟩ := own_form HO.out
          subst hv2
          have HZ : Hid (fln xss j + (xss.getD j []).length ≤ 140737488355328) := by have := HF2.out; rw [HF.out] at this; show _ ≤ _; omega
          clear hv HR2
          go_wp2_with (at_builtin; refine append_bsl rfl _ _ rfl wr.heap.size _ (fln xss j) (fla xss j) rfl HO.out _ (xss.getD j []) rfl HBL.out HZ.out HB.out.size ?_)
          intro v7 w7 ho7 hg7
          have HB7 : Hid (Below wr.heap.size wr w7) := HB.out.grown hg7 HB.out.size (fun g hg => (HO.out.lt g hg).1)
          have HO7 : Hid (w7.ownsRow wr.heap.size 5 1 v7 (fln xss (j + 1)) (bv (fla xss (j + 1)))) := by show World.ownsRow _ _ _ _ _ _ _; rw [HF.out, HFA.out]; exact ho7
          clear ho7 hg7 HO HB HBL HF HFA HF2 HZ
          go_wp2_with fail
          go_roundw
          case rel => exact ⟨j + 1, by omega, by go_num, HO7, HB7⟩
          case measure => simp [intOf]; omega
        · have hjk : j = k := by omega
          subst hjk
          have g5 : ¬ (j : Int) < (j : Int) := by omega
          have ho := HO.out
          rw [HS.out] at ho
          obtain ⟨a2, c2, hv2, _⟩ := own_form ho
          subst hv2
          have HO2 := hide ho
          clear ho HO
          go_wp2_with fail
          go_ret
          exact ⟨_, rfl, by rw [HS.out]; exact HO2.out, HB.out⟩
end
section
open Go.RowKit Go
/-- What Bytes lays. -/
def lrow (l : Lk) : List Nat := if lok l then lbytes l else []
theorem lrow_byte {l : Lk} (h : ∀ x ∈ l.d, x < 256) : ∀ x ∈ lrow l, x < 256 := by
  unfold lrow
  split
  · exact lbytes_byte (by assumption) h
  · simp
theorem lrow_len (l : Lk) : (lrow l).length ≤ 76 := by
  unfold lrow
  split
  · exact lbytes_len (by assumption)
  · simp
set_option maxRecDepth 1000000 in
set_option maxHeartbeats 1000000 in
theorem bytes4_any (w : World) (l : Lk) (hl : Lkb l) :
    Calls Tryz.prog 9 #[lkv l] w fun e w' => ∃ v', e = .returned (.tuple #[v', .int .i64 (if lok l then 0 else 40)]) ∧ w'.ownsRow w.heap.size 5 1 v' (lrow l).length (bv (lrow l)) ∧ Below w.heap.size w w' := by
  have HL := hide hl
  have HT : Hid ((w.alloc (.cells #[.int .i64 l.v, .int .u64 (l.c : Nat), .int .u64 (l.h : Nat), .string (nstr l.d)] 61)).heap[w.heap.size]? = some (.cells (lcs l) 61 (0, 0))) := heap_alloc_new w _
  have HB := hide (below_alloc4 w (.cells #[.int .i64 l.v, .int .u64 (l.c : Nat), .int .u64 (l.h : Nat), .string (nstr l.d)] 61))
  simp only [lkv]
  by_cases hlk : lok l
  · have HLR : Hid (lrow l = lbytes l) := by show _ = _; unfold lrow; rw [if_pos hlk]
    rw [if_pos hlk, HLR.out]
    have HLK := hide hlk
    clear hlk hl
    go_enter Tryz.func9, Tryz.ntmps9
    go_wp2_with fail
    generalize w.alloc (.cells #[.int .i64 l.v, .int .u64 (l.c : Nat), .int .u64 (l.h : Nat), .string (nstr l.d)] 61) = w0 at *
    refine (check_any w0 l HL.out).mono ?_
    rintro e w1 ⟨rfl, hb1⟩
    rw [if_pos HLK.out]
    have q0 : w1.heap[w.heap.size]? = some (.cells (lcs l) 61 (0, 0)) := (hb1.block _ (blk_lt HT.out)).trans HT.out
    have HB1 : Hid (Below w.heap.size w w1) := HB.out.trans (hb1.mono HB.out.size)
    have c2 : w1.cell? ⟨w.heap.size, 2, none⟩ = some (.int .u64 (l.h : Nat)) := blk_cell q0 rfl
    have c3 : w1.cell? ⟨w.heap.size, 3, none⟩ = some (.string (nstr l.d)) := blk_cell q0 rfl
    have cv := conv_sb w1 (nstr l.d)
    go_wp2_with fail
    have HS1 : Hid (BSl (Lib.bytesWorld w1 5 (nstr l.d)) (.slice (some ⟨w1.heap.size, 0, none⟩) (nstr l.d).size (grownCap w1 (nstr l.d).size 0 5)) l.d) := by
      have h := conv_sb_bsl w1 (nstr l.d) (by rw [HL.out.size]; have := HL.out.n; omega)
      rw [sl_nstr HL.out.d] at h
      exact h
    have HB2 : Hid (Below w.heap.size w (Lib.bytesWorld w1 5 (nstr l.d))) := HB1.out.trans ((conv_sb_below w1 _).mono HB1.out.size)
    have HT2 : Hid ((Lib.bytesWorld w1 5 (nstr l.d)).heap[w.heap.size]? = some (.cells (lcs l) 61 (0, 0))) := (Lib.bytesWorld_at_old w1 5 _ _ (blk_lt q0)).trans q0
    clear cv c2 c3 q0 hb1
    generalize grownCap w1 (nstr l.d).size 0 5 = G at *
    generalize w1.heap.size = gg at *
    generalize Lib.bytesWorld w1 5 (nstr l.d) = w2 at *
    refine (dlay_any w2 l.h _ l.d HL.out.h HS1.out).mono ?_
    rintro e w3 ⟨vd, rfl, ho3, hb3⟩
    have HDL := hide (dlay_ok (lok_okd HLK.out))
    rw [HDL.out] at ho3 ⊢
    have HO3 := hide ho3
    have HB3 : Hid (Below w.heap.size w w3) := HB2.out.trans (hb3.mono HB2.out.size)
    have q3 : w3.heap[w.heap.size]? = some (.cells (lcs l) 61 (0, 0)) := (hb3.block _ (blk_lt HT2.out)).trans HT2.out
    have HWB : Hid (w.heap.size ≤ w2.heap.size) := HB2.out.size
    have c0 : w3.cell? ⟨w.heap.size, 0, none⟩ = some (.int .i64 l.v) := blk_cell q3 rfl
    have c1 : w3.cell? ⟨w.heap.size, 1, none⟩ = some (.int .u64 (l.c : Nat)) := blk_cell q3 rfl
    clear ho3 hb3 q3 HS1 HT2 HB2 HDL
    obtain ⟨ad, cd, hvd, _⟩ := own_form HO3.out
    subst hvd
    have HBYT : Hid (∀ x ∈ l.h :: l.d.length :: l.d, x < 256) := by
      have hk := lok_okd HLK.out
      intro x hx
      unfold okd at hk
      simp only [List.mem_cons] at hx
      rcases hx with e | e | e
      · omega
      · omega
      · exact HL.out.d x e
    have HRL : Hid ((l.h :: l.d.length :: l.d).length ≤ 66) := by
      have hk := lok_okd HLK.out
      unfold okd at hk
      show _ ≤ _
      simp
      omega
    by_cases hv0 : l.v = 0
    · as_aux_lemma =>
      have HBY : Hid (lbytes l = l.h :: l.d.length :: l.d) := by show _ = _; unfold lbytes; rw [if_pos hv0]
      rw [hv0] at c0 ⊢
      generalize l.h :: l.d.length :: l.d = rw3 at *
      go_wp2_with fail
      go_ret2
      exact ⟨_, rfl, by rw [HBY.out]; exact own_mono4 HO3.out HWB.out, HB3.out⟩
    · as_aux_lemma =>
      have hv1 : l.v = 1 := by
        rcases HLK.out with h1 | h1
        · exact absurd h1.1 hv0
        · exact h1.1
      have HC : Hid (l.c < 9223372036854775808) := by
        rcases HLK.out with h1 | h1
        · exact absurd h1.1 hv0
        · exact h1.2.1
      have HBY : Hid (lbytes l = 1 :: digs 9 l.c ++ (l.h :: l.d.length :: l.d)) := by show _ = _; unfold lbytes; rw [if_neg hv0]
      have HDB : Hid (∀ x ∈ digs 9 l.c, x < 256) := fun x hx => lbytes_byte HLK.out HL.out.d x (by rw [HBY.out]; simp [hx])
      rw [hv1] at c0 ⊢
      clear hv0 hv1
      generalize l.h :: l.d.length :: l.d = rw3 at *
      go_wp2_with fail
      refine (vlay_any (l.c : Nat) w3 (by omega) (by have := HC.out; omega)).mono ?_
      rintro e w4 ⟨vc, rfl, ho4, hb4⟩
      rw [Int.toNat_natCast] at ho4
      have HV4 := hide (BSl.own ho4 HDB.out)
      have HD4 := hide (BSl.own (own_below4 HO3.out hb4) HBYT.out)
      have HB4 : Hid (Below w.heap.size w w4) := HB3.out.trans (hb4.mono HB3.out.size)
      obtain ⟨ac, cc, hvc, _⟩ := own_form ho4
      subst hvc
      clear ho4 hb4 HO3 HB3 c0 c1
      have HDN := hide (digs_len 9 l.c)
      have hb5 := below_alloc4 w4 (.cells #[.int .u8 1] 5)
      have hb6 := hb5.trans ((below_alloc4 (w4.alloc (.cells #[.int .u8 1] 5)) (.cells #[.slice (some ⟨w4.heap.size, 0, none⟩) 1 1, .slice ac (digs 9 l.c).length cc, .slice ad rw3.length cd] 56)).mono hb5.size)
      have HRW : Hid (Rws ((w4.alloc (.cells #[.int .u8 1] 5)).alloc (.cells #[.slice (some ⟨w4.heap.size, 0, none⟩) 1 1, .slice ac (digs 9 l.c).length cc, .slice ad rw3.length cd] 56)) (w4.heap.size + 1) [.slice (some ⟨w4.heap.size, 0, none⟩) 1 1, .slice ac (digs 9 l.c).length cc, .slice ad rw3.length cd] [[1], digs 9 l.c, rw3]) := by
        have h1 := heap_alloc_new (w4.alloc (.cells #[.int .u8 1] 5)) (.cells #[.slice (some ⟨w4.heap.size, 0, none⟩) 1 1, .slice ac (digs 9 l.c).length cc, .slice ad rw3.length cd] 56)
        have e : (w4.alloc (.cells #[.int .u8 1] 5)).heap.size = w4.heap.size + 1 := by simp
        rw [e] at h1
        refine ⟨rfl, fun i hi => ?_, fun i hi => ?_⟩
        · match i, hi with
          | 0, _ => exact blk_cell h1 rfl
          | 1, _ => exact blk_cell h1 rfl
          | 2, _ => exact blk_cell h1 rfl
        · match i, hi with
          | 0, _ => exact (one_bsl w4 1 (by decide)).move (keep_alloc _ _)
          | 1, _ => exact HV4.out.move (keep_below hb6)
          | 2, _ => exact HD4.out.move (keep_below hb6)
      have HB6 : Hid (Below w.heap.size w ((w4.alloc (.cells #[.int .u8 1] 5)).alloc (.cells #[.slice (some ⟨w4.heap.size, 0, none⟩) 1 1, .slice ac (digs 9 l.c).length cc, .slice ad rw3.length cd] 56))) := HB4.out.trans (hb6.mono HB4.out.size)
      have HF3 : Hid (fla [[1], digs 9 l.c, rw3] 3 = lbytes l) := by show _ = _; rw [HBY.out]; unfold fla; simp
      have HN3 : Hid (fln [[1], digs 9 l.c, rw3] 3 = (lbytes l).length) := by show _ = _; rw [← fla_len, HF3.out]
      have HLN : Hid (0 < (lbytes l).length ∧ (lbytes l).length ≤ 1000) := by
        have h1 := lbytes_len HLK.out
        show _ ∧ _
        rw [HBY.out] at h1 ⊢
        refine ⟨by simp, by omega⟩
      clear hb5 hb6 HV4 HD4 HB4
      go_wp2_with fail
      generalize (w4.alloc (.cells #[.int .u8 1] 5)).alloc (.cells #[.slice (some ⟨w4.heap.size, 0, none⟩) 1 1, .slice ac (digs 9 l.c).length cc, .slice ad rw3.length cd] 56) = w6 at *
      refine (concat_any w6 (w4.heap.size + 1) 3 _ _ HRW.out rfl (by decide) (by rw [HN3.out]; exact HLN.out.1) (by rw [HN3.out]; exact HLN.out.2)).mono ?_
      rintro e w7 ⟨v7, rfl, ho7, hb7⟩
      rw [HF3.out, HN3.out] at ho7
      have HO7 := hide (own_mono4 ho7 HB6.out.size)
      have HB7 : Hid (Below w.heap.size w w7) := HB6.out.trans (hb7.mono HB6.out.size)
      obtain ⟨a7, c7, hv7, _⟩ := own_form ho7
      subst hv7
      clear ho7 hb7 HRW HB6
      go_wp2_with fail
      go_ret2
      exact ⟨_, rfl, HO7.out, HB7.out⟩
  · have HLR : Hid (lrow l = []) := by show _ = _; unfold lrow; rw [if_neg hlk]
    rw [if_neg hlk, HLR.out]
    have HLK := hide hlk
    clear hlk
    go_enter Tryz.func9, Tryz.ntmps9
    go_wp2_with fail
    generalize w.alloc (.cells #[.int .i64 l.v, .int .u64 (l.c : Nat), .int .u64 (l.h : Nat), .string (nstr l.d)] 61) = w0 at *
    refine (check_any w0 l HL.out).mono ?_
    rintro e w1 ⟨rfl, hb1⟩
    rw [if_neg HLK.out]
    have HB1 : Hid (Below w.heap.size w w1) := HB.out.trans (hb1.mono HB.out.size)
    clear hb1
    go_wp2_with fail
    go_ret2
    exact ⟨_, rfl, ⟨rfl, .inl ⟨rfl, rfl⟩⟩, HB1.out⟩
end
section
open Go.RowKit Go
theorem sl_map16 (l : List Nat) : (l.map fun d => (sl s16).getD d 0) = l.map (d16.getD · 0) := by rw [sl16]
theorem btext16 (xs : List Nat) : btext b16 xs = of16 xs := by
  show (encW 4 xs).map (fun d => (sl s16).getD d 0) = _
  rw [sl16]
  rfl
theorem btext32 (xs : List Nat) : btext b32 xs = of32 xs := by
  show (encW 5 xs).map (fun d => (sl s32).getD d 0) = _
  rw [sl32]
  rfl
theorem btext58 (xs : List Nat) : btext b58 xs = of58 xs := by
  show (conv 256 58 xs).map (fun d => (sl s58).getD d 0) = _
  rw [sl58]
  rfl
/-- What TextIn tells, and its error. -/
def ltin (l : Lk) (n : Int) : List Nat × Int := if lok l then (if l.v = 0 ∨ ¬ (n = 1 ∨ n = 2 ∨ n = 3) then ([], 45) else (sl (bof n).l ++ btext (bof n) (lbytes l), 0)) else ([], 40)
def lttx (l : Lk) : List Nat × Int := if lok l then (ltext l, 0) else ([], 40)
theorem bof_ok {n : Int} (h : n = 1 ∨ n = 2 ∨ n = 3) : Bok (bof n) := by
  rcases h with rfl | rfl | rfl
  · exact bok16
  · exact bok32
  · exact bok58
theorem ltin_text {l : Lk} (h : lok l) (hv : l.v ≠ 0) {n : Nat} (hn : n = 1 ∨ n = 2 ∨ n = 3) : ltin l n = (ltextin l n, 0) := by
  unfold ltin
  rw [if_pos h, if_neg (by omega)]
  rcases hn with rfl | rfl | rfl
  · show (sl b16.l ++ btext b16 _, _) = _
    rw [btext16]
    rfl
  · show (sl b32.l ++ btext b32 _, _) = _
    rw [btext32]
    rfl
  · show (sl b58.l ++ btext b58 _, _) = _
    rw [btext58]
    rfl
theorem add_str (a b : ByteArray) : sl (a ++ b) = sl a ++ sl b := by
  simp [sl]
end
section
open Go.RowKit Go
theorem nstr_cat (a : ByteArray) {xs : List Nat} (h : ∀ x ∈ xs, x < 256) : a ++ nstr xs = nstr (sl a ++ xs) := by
  rw [← nstr_sl (a ++ nstr xs), add_str, sl_nstr h]
theorem qstep_base {C : World → Prop} {ops : Array Oper} {o : Oper} {a : Act} {K : Act → Prop} {p : Operand} (hgd : Region.wanted o (yielded ops a.tmps) = true) (ho : o.op = .load 108 p) (g : Nat) (cs : Array Value)
    (hp : a.eval p = .pointer (some ⟨g, 0, none⟩)) (hn : cs.size = 3) (hc : ∀ w, C w → w.heap[g]? = some (.cells cs 108 (0, 0)))
    (h : K (a.put o.dst (.agg cs))) : if Region.wanted o (yielded ops a.tmps) = true then o.quiet Tryz.prog a C K else K (a.put o.dst undef) := by
  rw [if_pos hgd]
  refine ⟨.agg cs, fun w hC => ?_, h⟩
  have hr : (Instr.loadAt 108 (.pointer (some ⟨g, 0, none⟩))).run Tryz.prog w = .ok (.agg cs) w := by
    simp only [Instr.loadAt, Instr.sureAddr, Sem.run_bind, Sem.run_pure, Result.andThen]
    exact run_loadVar_row (P := Tryz.prog) w g 108 108 cs (0, 0) _ (hc w hC) Tryz.underlying108 rfl (by rw [hn]; exact infoB)
  unfold Oper.quietAt execOp
  simp only [ho, Sem.run_bind, hp, hr, Result.andThen_ok]
  exact ⟨rfl, rfl⟩
/-- Two strings joined, as a step of a region that draws. -/
theorem qstep_cat {C : World → Prop} {ops : Array Oper} {o : Oper} {a : Act} {K : Act → Prop} {x y : Operand} {T T2 : TypeId} (hgd : Region.wanted o (yielded ops a.tmps) = true) (ho : o.op = .binOp .add T x y T2) (A B : ByteArray)
    (hx : a.eval x = .string A) (hy : a.eval y = .string B) (hz : A.size + B.size ≤ 9223372036854775807)
    (h : K (a.put o.dst (.string (A ++ B)))) : if Region.wanted o (yielded ops a.tmps) = true then o.quiet Tryz.prog a C K else K (a.put o.dst undef) := by
  rw [if_pos hgd]
  refine ⟨.string (A ++ B), fun w hC => ?_, h⟩
  unfold Oper.quietAt execOp
  simp only [ho, Sem.run_bind, hx, hy, eqGuard_at_string, binOp_string_add, run_string_add_sum w A B (by omega), Result.andThen_ok, Sem.run_pure]
  exact ⟨rfl, rfl⟩
set_option maxRecDepth 1000000 in
set_option maxHeartbeats 1000000 in
theorem textin_any (w : World) (l : Lk) (n : Int) (hl : Lkb l) :
    Calls Tryz.prog 45 #[lkv l, .int .i64 n] w fun e w' => e = .returned (.tuple #[.string (nstr (ltin l n).1), .int .i64 (ltin l n).2]) ∧ Below w.heap.size w w' := by
  have HL := hide hl
  have HT : Hid ((w.alloc (.cells #[.int .i64 l.v, .int .u64 (l.c : Nat), .int .u64 (l.h : Nat), .string (nstr l.d)] 61)).heap[w.heap.size]? = some (.cells (lcs l) 61 (0, 0))) := heap_alloc_new w _
  have HB := hide (below_alloc4 w (.cells #[.int .i64 l.v, .int .u64 (l.c : Nat), .int .u64 (l.h : Nat), .string (nstr l.d)] 61))
  simp only [lkv]
  generalize hR : ltin l n = R
  have HR := hide hR
  clear hR hl
  go_enter Tryz.func45, Tryz.ntmps45
  go_wp2_with fail
  generalize w.alloc (.cells #[.int .i64 l.v, .int .u64 (l.c : Nat), .int .u64 (l.h : Nat), .string (nstr l.d)] 61) = w0 at *
  refine (bytes4_any w0 l HL.out).mono ?_
  rintro e w1 ⟨v1, rfl, ho1, hb1⟩
  have HB1 : Hid (Below w.heap.size w w1) := HB.out.trans (hb1.mono HB.out.size)
  have HT1 : Hid (w1.heap[w.heap.size]? = some (.cells (lcs l) 61 (0, 0))) := (hb1.block _ (blk_lt HT.out)).trans HT.out
  have HV1 := hide (BSl.own ho1 (lrow_byte HL.out.d))
  have HRL := hide (lrow_len l)
  obtain ⟨a1, c1, hv1, hq1, hq2, hq3⟩ := own_form ho1
  subst hv1
  clear ho1 hb1 hq1 hq2 hq3 HT HB
  by_cases hlk : lok l
  · rw [if_pos hlk]
    have HLW : Hid (lrow l = lbytes l) := by show _ = _; unfold lrow; rw [if_pos hlk]
    have HR2 : Hid ((if l.v = 0 ∨ ¬ (n = 1 ∨ n = 2 ∨ n = 3) then ([], 45) else (sl (bof n).l ++ btext (bof n) (lrow l), (0 : Int))) = R) := by
      show _ = _
      rw [← HR.out]
      unfold ltin
      rw [if_pos hlk, HLW.out]
    clear HR hlk HLW
    generalize lrow l = lr at *
    go_wp2_with fail
    refine (baseOf_any w1 n).mono ?_
    rintro e w2 ⟨rfl, hb2⟩
    have HB2 : Hid (Below w.heap.size w w2) := HB1.out.trans (hb2.mono HB1.out.size)
    have HT2 : Hid (w2.heap[w.heap.size]? = some (.cells (lcs l) 61 (0, 0))) := (hb2.block _ (blk_lt HT1.out)).trans HT1.out
    have HV2 := hide (HV1.out.move (keep_below hb2))
    have HOK := hide (bof_ok (n := n))
    clear hb2 HB1 HT1 HV1
    generalize bof n = bb at *
    obtain ⟨bl, bt, bn⟩ := bb
    simp only [Bs.cs]
    have hb3 := below_alloc4 w2 (.cells #[.string bl, .string bt, .int .i64 (bn : Nat)] 108)
    have HB3 : Hid (Below w.heap.size w (w2.alloc (.cells #[.string bl, .string bt, .int .i64 (bn : Nat)] 108))) := HB2.out.trans (hb3.mono HB2.out.size)
    have HTB : Hid ((w2.alloc (.cells #[.string bl, .string bt, .int .i64 (bn : Nat)] 108)).heap[w2.heap.size]? = some (.cells (Bs.cs ⟨bl, bt, bn⟩) 108 (0, 0))) := heap_alloc_new w2 _
    have HV3 := hide (HV2.out.move (keep_below hb3))
    have c0 : (w2.alloc (.cells #[.string bl, .string bt, .int .i64 (bn : Nat)] 108)).cell? ⟨w.heap.size, 0, none⟩ = some (.int .i64 l.v) := keep_below hb3 _ _ (blk_cell HT2.out rfl)
    clear hb3 HB2 HT2 HV2
    by_cases hn : n = 1 ∨ n = 2 ∨ n = 3
    · rw [decide_eq_true hn]
      by_cases hv : l.v = 0
      · as_aux_lemma =>
        rw [if_pos (.inl hv)] at HR2
        rw [hv] at c0 ⊢
        clear hn
        go_wp2_with fail
        go_ret2
        exact ⟨by rw [← HR2.out]; rfl, HB3.out⟩
      · have g0 : (l.v == 0) = false := beq_eq_false_iff_ne.2 hv
        rw [if_neg (by rintro (h | h); exact hv h; exact h hn)] at HR2
        have HBO := hide (HOK.out hn)
        clear hn hv HOK
        have q0 : (w2.alloc (.cells #[.string bl, .string bt, .int .i64 (bn : Nat)] 108)).cell? ⟨w2.heap.size, 0, none⟩ = some (.string bl) := blk_cell HTB.out rfl
        go_wp2_with fail
        generalize w2.alloc (.cells #[.string bl, .string bt, .int .i64 (bn : Nat)] 108) = w3 at *
        generalize w2.heap.size = gB at *
        as_aux_lemma =>
        have k0 : ∀ t : Ext w3, t.w'.cell? ⟨gB, 0, none⟩ = some (.string bl) := fun t => Ext.cell q0 t
        have HQ : Hid (∀ wx, (∃ t : Ext w3, wx = t.w') → wx.heap[gB]? = some (.cells (Bs.cs ⟨bl, bt, bn⟩) 108 (0, 0))) := by
          rintro _ ⟨t, rfl⟩
          exact (t.h.block _ (blk_lt HTB.out)).trans HTB.out
        have HCT : Hid (∀ t : Ext w3, Calls Tryz.prog 47 #[.agg (Bs.cs ⟨bl, bt, bn⟩), .slice a1 lr.length c1] t.w' fun e w'' => e = .returned (.string (nstr (btext ⟨bl, bt, bn⟩ lr))) ∧ ∃ t' : Ext w3, w'' = t'.w') := fun t => Calls.ext_below (text_any t.w' ⟨bl, bt, bn⟩ _ lr HBO.out (Ext.bsl HV3.out t) (Nat.le_trans HRL.out (by decide)))
        have HCN : Hid ((Bs.cs ⟨bl, bt, bn⟩).size = 3) := rfl
        have HBX : Hid ((nstr (btext ⟨bl, bt, bn⟩ lr)).size ≤ 1000) := by
          show _ ≤ _
          rw [nstr_size (btext_byte _ _)]
          unfold btext
          rw [List.length_map]
          have h1 := cutd_len HBO.out HV3.out.byte
          have h2 := HRL.out
          omega
        have HSZ : Hid (bl.size + (nstr (btext ⟨bl, bt, bn⟩ lr)).size ≤ 9223372036854775807) := by have h1 := HBO.out.z; have h2 := HBX.out; simp only at h1; show _ ≤ _; omega
        have HNC := hide (nstr_cat bl (btext_byte ⟨bl, bt, bn⟩ lr))
        generalize hcl : Bs.cs ⟨bl, bt, bn⟩ = cl at *
        generalize btext ⟨bl, bt, bn⟩ lr = bx at *
        refine region_ext (by kernel_rfl) (by kernel_rfl) ?_
        repeat (
          refine wpQuiet_step (fun K hK => ?_)
          first
            | (refine qstep_base rfl rfl gB cl rfl HCN.out HQ.out (hK _ ?_); clear hK K)
            | (refine qstep_cat rfl rfl bl (nstr bx) rfl rfl HSZ.out (hK _ ?_); clear hK K)
            | (go_simp
               first
                 | (refine hK _ ?_; clear hK K)
                 | (apply Exists.intro
                    refine ⟨fun _ => ?_, hK _ ?_⟩
                    (go_at_call 47; exact HCT.out _)
                    clear hK K)))
        refine wpQuiet_nil ?_
        rintro _ ⟨tq, rfl⟩
        have HBF : Hid (Below w.heap.size w tq.w') := HB3.out.trans (tq.h.mono HB3.out.size)
        go_wp2_with fail
        go_ret2
        exact ⟨by rw [← HR2.out]; simp only; rw [← HNC.out]; rfl, HBF.out⟩
    · as_aux_lemma =>
      rw [decide_eq_false hn]
      rw [if_pos (.inr hn)] at HR2
      clear hn
      go_wp2_with fail
      go_ret2
      exact ⟨by rw [← HR2.out]; rfl, HB3.out⟩
  · as_aux_lemma =>
    rw [if_neg hlk]
    have HR2 : Hid (R = ([], 40)) := by show _ = _; rw [← HR.out]; unfold ltin; rw [if_neg hlk]
    clear HR hlk
    go_wp2_with fail
    go_ret2
    exact ⟨by rw [HR2.out]; rfl, HB1.out⟩
end
section
open Go.RowKit Go
/-- What ending tells. -/
def lend (xs : List Nat) : Nat × List Nat × Nat × Nat := if (dread xs).2.2.2 = 0 then dread xs else (0, [], 0, lerr (dread xs).2.2.2)
theorem lend_third (v : Int) (c at' : Nat) (b : List Nat) : lthird v c at' b = if (lend (b.drop at')).2.2.2 = 0 then (⟨v, c, (lend (b.drop at')).1, (lend (b.drop at')).2.1⟩, at' + (lend (b.drop at')).2.2.1, 0) else (Lk.none, 0, (lend (b.drop at')).2.2.2) := by
  unfold lthird lend
  by_cases h : (dread (b.drop at')).2.2.2 = 0
  · rw [if_pos h, if_pos h, if_pos h]
  · rw [if_neg h, if_neg h, if_neg]
    unfold lerr
    simp only
    split <;> omega
set_option maxRecDepth 1000000 in
set_option maxHeartbeats 1000000 in
theorem lending_any (w : World) (v : Value) (xs : List Nat) (hb : BSl w v xs) :
    Calls Tryz.prog 34 #[v] w fun e w' => ∃ v', e = .returned (.tuple #[.int .u64 ((lend xs).1 : Nat), v', .int .i64 ((lend xs).2.2.1 : Nat), .int .i64 ((lend xs).2.2.2 : Nat)]) ∧ w'.ownsRow w.heap.size 5 1 v' (lend xs).2.1.length (bv (lend xs).2.1) ∧ Below w.heap.size w w' := by
  have HB := hide hb
  obtain ⟨⟨a, cap, rfl, hn, hc⟩, hmax, hby⟩ := hb
  have HLE : Hid (lend xs = if (dread xs).2.2.2 = 0 then dread xs else (0, [], 0, lerr (dread xs).2.2.2)) := rfl
  clear hn hc hby
  go_enter Tryz.func34, Tryz.ntmps34
  go_wp2_with fail
  refine (dread_any w _ xs HB.out).mono ?_
  rintro e w1 ⟨v1, rfl, ho1, hb1⟩
  have HB1 := hide hb1
  generalize dread xs = r at *
  obtain ⟨rh, rdd, rn, re⟩ := r
  simp only at ho1 HLE ⊢
  have HO1 := hide ho1
  obtain ⟨a1, c1, hv1, _⟩ := own_form ho1
  subst hv1
  clear ho1 hb1
  by_cases h0 : re = 0
  · subst h0
    have HZ : Hid (lend xs = (rh, rdd, rn, 0)) := by show _ = _; rw [HLE.out, if_pos rfl]
    clear HLE
    go_wp2_with fail
    exact bodyPost_ret (results_four rfl _ _ _) rfl ⟨_, by rw [HZ.out]; rfl, by rw [HZ.out]; exact HO1.out, HB1.out⟩
  · have g0 : ((re : Int) == 0) = false := beq_eq_false_iff_ne.2 (by omega)
    by_cases h1 : re = 32
    · subst h1
      have HZ : Hid (lend xs = (0, [], 0, 42)) := by show _ = _; rw [HLE.out]; rfl
      clear HLE
      go_wp2_with fail
      exact bodyPost_ret (results_four rfl _ _ _) rfl ⟨_, by rw [HZ.out]; rfl, by rw [HZ.out]; exact World.ownsRow_nil _ _ _ _, HB1.out⟩
    · have g1 : ((re : Int) == 32) = false := beq_eq_false_iff_ne.2 (by omega)
      by_cases h2 : re = 33
      · subst h2
        have HZ : Hid (lend xs = (0, [], 0, 42)) := by show _ = _; rw [HLE.out]; rfl
        clear HLE
        go_wp2_with fail
        exact bodyPost_ret (results_four rfl _ _ _) rfl ⟨_, by rw [HZ.out]; rfl, by rw [HZ.out]; exact World.ownsRow_nil _ _ _ _, HB1.out⟩
      · have g2 : ((re : Int) == 33) = false := beq_eq_false_iff_ne.2 (by omega)
        have HZ : Hid (lend xs = (0, [], 0, 43)) := by show _ = _; rw [HLE.out, if_neg h0]; unfold lerr; rw [if_neg (by omega)]
        clear HLE
        go_wp2_with fail
        exact bodyPost_ret (results_four rfl _ _ _) rfl ⟨_, by rw [HZ.out]; rfl, by rw [HZ.out]; exact World.ownsRow_nil _ _ _ _, HB1.out⟩
end
section
open Go.RowKit Go
/-- A link's block that is none yet. -/
structure Fz (w wx : World) : Prop where
  r : wx.heap[w.heap.size]? = some (.cells zlk 61 (0, 0))
  b : Below w.heap.size w wx
theorem Fz.below {w wx wy : World} (h : Fz w wx) (hb : Below wx.heap.size wx wy) : Fz w wy := ⟨(hb.block _ (blk_lt h.r)).trans h.r, h.b.trans (hb.mono h.b.size)⟩
theorem Fz.start (w : World) : Fz w (w.alloc (.cells #[.int .i64 0, .int .u64 0, .int .u64 0, .string ⟨#[]⟩] 61)) := ⟨heap_alloc_new w _, below_alloc4 w _⟩
theorem rd_bound4 (xs : List Nat) (h : (rd 0 0 xs).2.2 = 0) : (rd 0 0 xs).1 < 9223372036854775808 ∧ (rd 0 0 xs).2.1 ≤ xs.length := by
  have h1 := dnum_bound xs
  unfold dnum at h1
  rw [if_pos h] at h1
  have := h1 h
  exact ⟨this.1, this.2.1⟩
theorem lend_bound (xs : List Nat) : (lend xs).2.2.1 ≤ xs.length := by
  unfold lend
  by_cases h0 : (dread xs).2.2.2 = 0
  · rw [if_pos h0]
    exact (dread_back h0).1
  · rw [if_neg h0]
    simp
theorem dread_first {xs : List Nat} (h : (dread xs).2.2.2 = 0) : (dread xs).1 = (dnum xs).1 := by
  unfold dread at h ⊢
  split
  · rename_i h1
    rw [if_pos h1] at h
    exact absurd h h1
  · rename_i h1
    rw [if_neg h1] at h
    split
    · rename_i h2
      rw [if_pos h2] at h
      exact absurd h h2
    · rename_i h2
      rw [if_neg h2] at h
      split
      · rename_i h3
        rw [if_pos h3] at h
        simp at h
      · rename_i h3
        rw [if_neg h3] at h
        split
        · rename_i h4
          rw [if_pos h4] at h
          simp at h
        · rename_i h4
          rw [if_neg h4] at h
          split
          · rename_i h5
            rw [if_pos h5] at h
            simp at h
          · rfl
theorem lend_byte {xs : List Nat} (h : ∀ x ∈ xs, x < 256) : ∀ x ∈ (lend xs).2.1, x < 256 := by
  unfold lend
  split
  · exact dread_bytes4 h
  · simp
set_option maxRecDepth 1000000 in
set_option maxHeartbeats 2000000 in
theorem first4_any (w : World) (v : Value) (b : List Nat) (hb : BSl w v b) :
    Calls Tryz.prog 15 #[v] w fun e w' => e = .returned (.tuple #[lkv (lfirst b).1, .int .i64 ((lfirst b).2.1 : Nat), .int .i64 ((lfirst b).2.2 : Nat)]) ∧ Below w.heap.size w w' := by
  have HB := hide hb
  obtain ⟨⟨a, cap, rfl, hn, hc⟩, hmax, hby⟩ := hb
  have HBY := hide hby
  have HF0 := hide (Fz.start w)
  have HBV := hide (HB.out.move (keep_below HF0.out.b))
  by_cases h18 : b.head? = some 18
  · obtain ⟨r, rfl⟩ : ∃ r, b = 18 :: r := by
      cases b with
      | nil => simp at h18
      | cons x r => simp at h18; exact ⟨r, by rw [h18]⟩
    obtain ⟨bb, off, rfl, hcell⟩ := hc.resolve_left (by simp)
    have hc0 := hcell 0 (by simp)
    rw [Nat.add_zero] at hc0
    have cx := keep_below HF0.out.b _ _ hc0
    have g00 : (0 : Int) < ((18 :: r).length : Int) := by simp
    have HLF : Hid (lfirst (18 :: r) = lthird 0 112 0 (18 :: r)) := by
      show _ = _
      unfold lfirst
      rw [if_pos (show (18 :: r).head? = some 18 from rfl)]
    have HLD : Hid (lthird 0 112 0 (18 :: r) = if (lend (18 :: r)).2.2.2 = 0 then (⟨0, 112, 18, (lend (18 :: r)).2.1⟩, (lend (18 :: r)).2.2.1, 0) else (Lk.none, 0, (lend (18 :: r)).2.2.2)) := by
      show _ = _
      rw [lend_third, List.drop_zero, Nat.zero_add]
      by_cases h0 : (lend (18 :: r)).2.2.2 = 0
      · rw [if_pos h0, if_pos h0]
        have : (lend (18 :: r)).1 = 18 := by
          unfold lend at h0 ⊢
          by_cases h1 : (dread (18 :: r)).2.2.2 = 0
          · rw [if_pos h1]
            rw [dread_first h1, dnum_small (by decide)]
          · rw [if_neg h1] at h0
            unfold lerr at h0
            simp only at h0
            split at h0 <;> omega
        rw [this]
      · rw [if_neg h0, if_neg h0]
    simp only [List.getD_cons_zero] at cx
    clear hc hcell hc0 h18 hn
    generalize hLL : (18 :: r).length = LL at *
    have HLL := hide hLL
    clear hLL
    generalize hBL : 18 :: r = bl at *
    have HBLE := hide hBL
    clear hBL
    go_enter Tryz.func15, Tryz.ntmps15
    go_wp2_with fail
    generalize w.alloc (.cells #[.int .i64 0, .int .u64 0, .int .u64 0, .string ⟨#[]⟩] 61) = w0 at *
    refine (lending_any w0 _ bl HBV.out).mono ?_
    rintro e w1 ⟨v1, rfl, ho1, hb1⟩
    have HF1 := hide (HF0.out.below hb1)
    have HV1 := hide (BSl.own ho1 (lend_byte HBY.out))
    obtain ⟨a1, c1, hv1, _⟩ := own_form ho1
    subst hv1
    have HBD := hide (lend_bound bl)
    clear ho1 hb1 cx
    generalize lend bl = le at *
    obtain ⟨lh, ld, lu, lee⟩ := le
    simp only at HV1 HLD HBD ⊢
    by_cases he : lee = 0
    · subst he
      as_aux_lemma =>
      rw [if_pos rfl] at HLD
      have cv := HV1.out.text
      go_wp2_with fail
      clear cv
      refine (old_any w1 (nstr ld)).mono ?_
      rintro e w2 ⟨rfl, hb2⟩
      have HF2 := hide (HF1.out.below hb2)
      have HR2 := hide HF2.out.r
      clear hb2
      go_wp2_with (refine wpList_storeLk rfl rfl w.heap.size zlk ⟨0, 112, 18, ld⟩ rfl rfl rfl HR2.out ?_)
      exact bodyPost_ret (end_c3 rfl Tryz.underlying61 info61 rfl (row_same HR2.out) rfl rfl rfl) rfl ⟨by rw [HLF.out, HLD.out]; rfl, HF2.out.b.trans ((row_kp _ _ _).below HF2.out.b.size (fun q e => by omega))⟩
    · as_aux_lemma =>
      rw [if_neg he] at HLD
      have g1 : ((lee : Int) == 0) = false := beq_eq_false_iff_ne.2 (by omega)
      have HR1 := hide HF1.out.r
      go_wp2_with (refine wpList_zero rfl rfl w.heap.size rfl rfl HR1.out ?_)
      exact bodyPost_ret (end_c3 rfl Tryz.underlying61 info61 rfl HR1.out rfl rfl rfl) rfl ⟨by rw [HLF.out, HLD.out]; rfl, HF1.out.b⟩
  · have HNE := hide h18
    have HDN : Hid (∀ xs : List Nat, (dnum xs).2.2 ≠ 0 ↔ (rd 0 0 xs).2.2 ≠ 0) := by
      intro xs
      unfold dnum
      by_cases h : (rd 0 0 xs).2.2 = 0
      · rw [if_pos h]
      · rw [if_neg h]
        simp only
        constructor
        · intro _
          exact h
        · intro _
          split <;> decide
    have HDE : Hid (∀ xs : List Nat, (rd 0 0 xs).2.2 = 0 → dnum xs = rd 0 0 xs) := by
      intro xs h
      unfold dnum
      rw [if_pos h]
    clear h18 hn hmax
    have HML := hide HB.out.max
    by_cases h0 : b = []
    · subst h0
      as_aux_lemma =>
      clear hc
      have HLF : Hid (lfirst [] = (Lk.none, 0, 42)) := rfl
      have HR1 := hide HF0.out.r
      have HV : Hid (rd 0 0 [] = (0, 0, 10)) := rfl
      simp only [List.length_nil] at HBV ⊢
      go_enter Tryz.func15, Tryz.ntmps15
      go_wp2_with fail
      generalize w.alloc (.cells #[.int .i64 0, .int .u64 0, .int .u64 0, .string ⟨#[]⟩] 61) = w0 at *
      refine HBV.out.vread.mono ?_
      rintro e w1 ⟨rfl, rfl⟩
      rw [HV.out]
      go_wp2_with (refine wpList_zero rfl rfl w.heap.size rfl rfl HR1.out ?_)
      exact bodyPost_ret (end_c3 rfl Tryz.underlying61 info61 rfl HR1.out rfl rfl rfl) rfl ⟨by rw [HLF.out]; rfl, HF0.out.b⟩
    have hpos : 0 < b.length := List.length_pos_iff.2 h0
    have g00 : (0 : Int) < (b.length : Int) := by omega
    obtain ⟨bb, off, rfl, hcell⟩ := hc.resolve_left h0
    have hc0 := hcell 0 hpos
    rw [Nat.add_zero] at hc0
    have cx := keep_below HF0.out.b _ _ hc0
    have g18 : (((b.getD 0 0 : Nat) : Int) == 18) = false := by
      have := HNE.out
      rw [beq_eq_false_iff_ne]
      cases b with
      | nil => exact absurd rfl h0
      | cons x r => simp at this ⊢; omega
    clear hc hcell hc0 hby h0 hpos
    generalize b.getD 0 0 = x0 at cx g18
    go_enter Tryz.func15, Tryz.ntmps15
    go_wp2_with fail
    generalize w.alloc (.cells #[.int .i64 0, .int .u64 0, .int .u64 0, .string ⟨#[]⟩] 61) = w0 at *
    refine HBV.out.vread.mono ?_
    rintro e w1 ⟨rfl, rfl⟩
    have HD1 := hide (HDN.out b)
    have HE1 := hide (HDE.out b)
    have HRB := hide (rd_bound4 b)
    obtain ⟨vn, un, en, hD⟩ : ∃ vn un en, rd 0 0 b = (vn, un, en) := ⟨_, _, _, rfl⟩
    rw [hD] at HD1 HE1 HRB ⊢
    clear hD
    simp only at HD1 HE1 HRB ⊢
    have HR1 := hide HF0.out.r
    by_cases hen : en = 0
    · subst hen
      have HE2 := hide (HE1.out rfl)
      have hrb := HRB.out rfl
      by_cases hvn : vn = 1
      · subst hvn
        have HUN : Hid (un ≤ b.length) := hrb.2
        clear hrb HRB HD1 HE1
        go_wp2_with (refine wpList_drop rfl 54 55 rfl _ b un rfl rfl HBV.out HUN.out ?_)
        intro ad1 nd1 cd1 hbd1 hnd1
        have HBD1 := hide hbd1
        clear hbd1 hnd1
        go_wp2_with fail
        refine HBD1.out.vread.mono ?_
        rintro e w2 ⟨rfl, rfl⟩
        have HD3 := hide (HDN.out (b.drop un))
        have HE3 := hide (HDE.out (b.drop un))
        have HRB := hide (rd_bound4 (b.drop un))
        obtain ⟨c2, u2, e2, hD2⟩ : ∃ c2 u2 e2, rd 0 0 (b.drop un) = (c2, u2, e2) := ⟨_, _, _, rfl⟩
        rw [hD2] at HD3 HE3 HRB ⊢
        clear hD2
        simp only at HD3 HE3 HRB ⊢
        by_cases he2 : e2 = 0
        · subst he2
          have HE4 := hide (HE3.out rfl)
          have hdb2 := HRB.out rfl
          have HLF : Hid (lfirst b = lthird 1 c2 (un + u2) b) := by
            show _ = _
            unfold lfirst
            rw [if_neg HNE.out, HE2.out]
            simp only [ne_eq, not_true_eq_false, if_false]
            rw [HE4.out]
            simp
          have HAT : Hid (un + u2 ≤ b.length) := by have h1 := hdb2.2; rw [List.length_drop] at h1; have := HUN.out; show _ ≤ _; omega
          have hun : (un : Int) + (u2 : Int) ≤ 9223372036854775807 := by have := HAT.out; have := HML.out; omega
          have hsum : (un : Int) + (u2 : Int) = ((un + u2 : Nat) : Int) := by omega
          have HLD := hide (lend_third 1 c2 (un + u2) b)
          clear HRB hdb2 HUN HNE HE3 HE4 HE2 HD3 HBD1
          generalize hat4 : un + u2 = at4 at HLF HAT hsum HLD
          clear hat4
          go_wp2_with (refine wpList_drop rfl 68 69 rfl _ b at4 rfl rfl HBV.out HAT.out ?_)
          intro ad nd cd hbd hnd
          have HBD := hide hbd
          clear hbd hnd
          go_wp2_with fail
          refine (lending_any w2 _ (b.drop at4) HBD.out).mono ?_
          rintro e w5 ⟨vd, rfl, ho5, hb5⟩
          have HF5 := hide (HF0.out.below hb5)
          have HVD := hide (BSl.own ho5 (lend_byte (fun x hx => HBY.out x (List.mem_of_mem_drop hx))))
          have HLB := hide (lend_bound (b.drop at4))
          rw [List.length_drop] at HLB
          obtain ⟨ae, ce, hve, _⟩ := own_form ho5
          subst hve
          clear ho5 hb5
          generalize lend (b.drop at4) = le at *
          obtain ⟨lh, ld, lu, lee⟩ := le
          simp only at HVD HLD HLB ⊢
          by_cases he : lee = 0
          · subst he
            as_aux_lemma =>
            rw [if_pos rfl] at HLD
            have cv := HVD.out.text
            have HR5 := hide HF5.out.r
            have hnr : (at4 : Int) + (lu : Int) ≤ 9223372036854775807 := by have := HLB.out; have := HAT.out; have := HML.out; omega
            go_wp2_with (refine wpList_storeLk rfl rfl w.heap.size zlk ⟨1, c2, lh, ld⟩ rfl rfl rfl HR5.out ?_)
            exact bodyPost_ret (end_c3 rfl Tryz.underlying61 info61 rfl (row_same HR5.out) rfl rfl rfl) rfl ⟨by rw [HLF.out, HLD.out]; simp only [Int.natCast_add]; rfl, HF5.out.b.trans ((row_kp _ _ _).below HF5.out.b.size (fun q e => by omega))⟩
          · as_aux_lemma =>
            rw [if_neg he] at HLD
            have g1 : ((lee : Int) == 0) = false := beq_eq_false_iff_ne.2 (by omega)
            have HR5 := hide HF5.out.r
            go_wp2_with (refine wpList_zero rfl rfl w.heap.size rfl rfl HR5.out ?_)
            exact bodyPost_ret (end_c3 rfl Tryz.underlying61 info61 rfl HR5.out rfl rfl rfl) rfl ⟨by rw [HLF.out, HLD.out]; rfl, HF5.out.b⟩
        · as_aux_lemma =>
          have HLF : Hid (lfirst b = (Lk.none, 0, 42)) := by
            show _ = _
            unfold lfirst
            rw [if_neg HNE.out, HE2.out]
            simp only [ne_eq, not_true_eq_false, if_false]
            rw [if_pos (HD3.out.2 he2)]
          have g2 : ((e2 : Int) == 0) = false := beq_eq_false_iff_ne.2 (by omega)
          clear HRB HD3 HE3 HNE HE2
          go_wp2_with (refine wpList_zero rfl rfl w.heap.size rfl rfl HR1.out ?_)
          exact bodyPost_ret (end_c3 rfl Tryz.underlying61 info61 rfl HR1.out rfl rfl rfl) rfl ⟨by rw [HLF.out]; rfl, HF0.out.b⟩
      · as_aux_lemma =>
        have HLF : Hid (lfirst b = (Lk.none, 0, 41)) := by
          show _ = _
          unfold lfirst
          rw [if_neg HNE.out, HE2.out]
          simp [hvn]
        have g2 : ((vn : Int) == 1) = false := beq_eq_false_iff_ne.2 (by omega)
        clear HRB HD1 HE1 HE2 HNE hrb
        go_wp2_with (refine wpList_zero rfl rfl w.heap.size rfl rfl HR1.out ?_)
        exact bodyPost_ret (end_c3 rfl Tryz.underlying61 info61 rfl HR1.out rfl rfl rfl) rfl ⟨by rw [HLF.out]; rfl, HF0.out.b⟩
    · as_aux_lemma =>
      have HLF : Hid (lfirst b = (Lk.none, 0, 42)) := by
        show _ = _
        unfold lfirst
        rw [if_neg HNE.out, if_pos (HD1.out.2 hen)]
      have g2 : ((en : Int) == 0) = false := beq_eq_false_iff_ne.2 (by omega)
      clear HRB HD1 HE1 HNE
      go_wp2_with (refine wpList_zero rfl rfl w.heap.size rfl rfl HR1.out ?_)
      exact bodyPost_ret (end_c3 rfl Tryz.underlying61 info61 rfl HR1.out rfl rfl rfl) rfl ⟨by rw [HLF.out]; rfl, HF0.out.b⟩
end
section
open Go.RowKit Go
theorem sl_extract (s : ByteArray) (i j : Nat) : sl (s.extract i j) = ((sl s).take j).drop i := by
  unfold sl
  rw [ByteArray.data_extract, Array.toList_extract, List.extract_eq_take_drop, List.map_take, List.map_drop, ← List.drop_take]
theorem sl_tail (s : ByteArray) : sl (s.extract 1 s.size) = (sl s).drop 1 := by
  rw [sl_extract, List.take_of_length_le (by rw [sl_len]; exact Nat.le_refl _)]
theorem ext_tail (s : ByteArray) : s.extract 1 s.size = nstr ((sl s).drop 1) := by
  rw [← sl_tail, nstr_sl]
theorem ext_head (s : ByteArray) {x : Nat} {r : List Nat} (h : sl s = x :: r) (c : UInt8) : ((s.extract 0 1).toList == [c]) = decide (x = c.toNat) := by
  have h1 : sl (s.extract 0 1) = [x] := by rw [sl_extract, h]; rfl
  have h2 : (s.extract 0 1).toList = (s.extract 0 1).data.toList := ByteArray.toList_eq _
  rw [h2]
  unfold sl at h1
  generalize (s.extract 0 1).data.toList = l at *
  cases l with
  | nil => simp at h1
  | cons u m =>
    simp only [List.map_cons, List.cons.injEq, List.map_eq_nil_iff] at h1
    obtain ⟨h3, rfl⟩ := h1
    subst h3
    rw [Bool.eq_iff_iff]
    simp [UInt8.toNat_inj]
theorem not_empty (s : ByteArray) {x : Nat} {r : List Nat} (h : sl s = x :: r) : s.toList.isEmpty = false := by
  rw [ByteArray.toList_eq]
  unfold sl at h
  cases hl : s.data.toList with
  | nil => rw [hl] at h; simp at h
  | cons u m => rfl
/-- What split tells. -/
def spl : List Nat → Bs × List Nat × Bool
  | [] => (b0, [], false)
  | x :: r => if x = 81 then (b58, x :: r, true) else if x = 102 then (b16, r, true) else if x = 98 then (b32, r, true) else if x = 122 then (b58, r, true) else (b0, r, false)
structure Bz (w wx : World) : Prop where
  r : wx.heap[w.heap.size]? = some (.cells b0.cs 108 (0, 0))
  b : Below w.heap.size w wx
theorem Bz.below {w wx wy : World} (h : Bz w wx) (hb : Below wx.heap.size wx wy) : Bz w wy := ⟨(hb.block _ (blk_lt h.r)).trans h.r, h.b.trans (hb.mono h.b.size)⟩
theorem Bz.start (w : World) : Bz w (w.alloc (.cells #[.string ⟨#[]⟩, .string ⟨#[]⟩, .int .i64 0] 108)) := ⟨heap_alloc_new w _, below_alloc4 w _⟩
theorem below_drewN (w : World) (n : Nat) : Below w.heap.size w (w.drewN n) := ((Kp.refl (fun _ => False) w).drewN n).below (Nat.le_refl _) (fun _ h => h.elim)
set_option maxRecDepth 1000000 in
set_option maxHeartbeats 2000000 in
theorem split_any (w : World) (s : ByteArray) (hs : s.size ≤ 1000) :
    Calls Tryz.prog 48 #[.string s] w fun e w' => e = .returned (.tuple #[.agg (spl (sl s)).1.cs, .string (nstr (spl (sl s)).2.1), .bool (spl (sl s)).2.2]) ∧ Below w.heap.size w w' := by
  have HZ0 := hide (Bz.start w)
  cases hsl : sl s with
  | nil =>
    have g0 : s.toList.isEmpty = true := by
      rw [ByteArray.toList_eq]
      unfold sl at hsl
      simpa using hsl
    have HR0 := hide HZ0.out.r
    clear hsl
    go_enter Tryz.func48, Tryz.ntmps48
    go_wp2_with (refine wpList_storeB rfl rfl w.heap.size b0.cs b0 rfl rfl rfl HR0.out ?_)
    exact bodyPost_ret (end_c3 rfl Tryz.underlying108 infoB rfl (row_same HR0.out) rfl rfl rfl) rfl ⟨rfl, HZ0.out.b.trans ((row_kp _ _ _).below HZ0.out.b.size (fun q e => by omega))⟩
  | cons x r =>
    have g0 := not_empty s hsl
    have HT : Hid (s.extract 1 s.size = nstr r) := by show _ = _; rw [ext_tail, hsl]; rfl
    have HSE : Hid (s = nstr (x :: r)) := by show _ = _; rw [← hsl, nstr_sl]
    have HH := hide (fun c => ext_head s hsl c)
    have hp : (1 : Int) ≤ (s.size : Int) := by have := sl_len s; rw [hsl, List.length_cons] at this; omega
    clear hsl
    by_cases h81 : x = 81
    · as_aux_lemma =>
      have HSP : Hid (spl (x :: r) = (b58, x :: r, true)) := by show _ = _; simp only [spl]; rw [if_pos h81]
      rw [HSP.out]
      have k81 := HH.out 81
      rw [decide_eq_true (by exact h81)] at k81
      clear HH h81
      go_enter Tryz.func48, Tryz.ntmps48
      go_wp2_with fail
      go_quiet (fail)
      go_wp2_with fail
      have HZ1 := hide (HZ0.out.below (below_drewN _ nq))
      generalize (w.alloc (.cells #[.string ⟨#[]⟩, .string ⟨#[]⟩, .int .i64 0] 108)).drewN nq = w1 at *
      have HBO : Calls Tryz.prog 46 #[.int .i64 3] w1 fun e w' => e = .returned (.tuple #[.agg b58.cs, .bool true]) ∧ Below w1.heap.size w1 w' := baseOf_any w1 3
      refine HBO.mono ?_
      rintro e w2 ⟨rfl, hb2⟩
      have HZ3 : Hid (Bz w (w2.alloc (.cells b58.cs 108))) := (HZ1.out.below hb2).below (below_alloc4 w2 _)
      have HTB : Hid ((w2.alloc (.cells b58.cs 108)).heap[w2.heap.size]? = some (.cells b58.cs 108 (0, 0))) := heap_alloc_new w2 _
      have HR3 := hide HZ3.out.r
      clear hb2
      go_wp2_with (first
        | (refine wpList_storeB rfl rfl w2.heap.size b0.cs b58 rfl rfl rfl (heap_alloc_new w2 _) ?_; rw [World.setRow_alloc_new])
        | (refine wpList_loadB rfl rfl w2.heap.size b58.cs rfl rfl HTB.out ?_)
        | (refine wpList_storeB rfl rfl w.heap.size b0.cs b58 rfl rfl rfl HR3.out ?_))
      exact bodyPost_ret (end_c3 rfl Tryz.underlying108 infoB rfl (row_same HR3.out) rfl rfl rfl) rfl ⟨by rw [← HSE.out]; rfl, HZ3.out.b.trans ((row_kp _ _ _).below HZ3.out.b.size (fun q e => by omega))⟩
    · skip
      by_cases h102 : x = 102
      · as_aux_lemma =>
        have HSP : Hid (spl (x :: r) = (b16, r, true)) := by show _ = _; simp only [spl]; rw [if_neg h81]; rw [if_pos h102]
        rw [HSP.out]
        have k81 := HH.out 81
        rw [decide_eq_false (by exact h81)] at k81
        have k102 := HH.out 102
        rw [decide_eq_true (by exact h102)] at k102
        clear HH h81 h102
        go_enter Tryz.func48, Tryz.ntmps48
        go_wp2_with fail
        go_quiet (fail)
        go_wp2_with fail
        have HZ1 := hide (HZ0.out.below (below_drewN _ nq))
        generalize (w.alloc (.cells #[.string ⟨#[]⟩, .string ⟨#[]⟩, .int .i64 0] 108)).drewN nq = w1 at *
        have HBO : Calls Tryz.prog 46 #[.int .i64 1] w1 fun e w' => e = .returned (.tuple #[.agg b16.cs, .bool true]) ∧ Below w1.heap.size w1 w' := baseOf_any w1 1
        refine HBO.mono ?_
        rintro e w2 ⟨rfl, hb2⟩
        have HZ3 : Hid (Bz w (w2.alloc (.cells b16.cs 108))) := (HZ1.out.below hb2).below (below_alloc4 w2 _)
        have HTB : Hid ((w2.alloc (.cells b16.cs 108)).heap[w2.heap.size]? = some (.cells b16.cs 108 (0, 0))) := heap_alloc_new w2 _
        have HR3 := hide HZ3.out.r
        clear hb2
        go_wp2_with (first
          | (refine wpList_storeB rfl rfl w2.heap.size b0.cs b16 rfl rfl rfl (heap_alloc_new w2 _) ?_; rw [World.setRow_alloc_new])
          | (refine wpList_loadB rfl rfl w2.heap.size b16.cs rfl rfl HTB.out ?_)
          | (refine wpList_storeB rfl rfl w.heap.size b0.cs b16 rfl rfl rfl HR3.out ?_))
        exact bodyPost_ret (end_c3 rfl Tryz.underlying108 infoB rfl (row_same HR3.out) rfl rfl rfl) rfl ⟨by rw [← HT.out]; rfl, HZ3.out.b.trans ((row_kp _ _ _).below HZ3.out.b.size (fun q e => by omega))⟩
      · skip
        by_cases h98 : x = 98
        · as_aux_lemma =>
          have HSP : Hid (spl (x :: r) = (b32, r, true)) := by show _ = _; simp only [spl]; rw [if_neg h81]; rw [if_neg h102]; rw [if_pos h98]
          rw [HSP.out]
          have k81 := HH.out 81
          rw [decide_eq_false (by exact h81)] at k81
          have k102 := HH.out 102
          rw [decide_eq_false (by exact h102)] at k102
          have k98 := HH.out 98
          rw [decide_eq_true (by exact h98)] at k98
          clear HH h81 h102 h98
          go_enter Tryz.func48, Tryz.ntmps48
          go_wp2_with fail
          go_quiet (fail)
          go_wp2_with fail
          have HZ1 := hide (HZ0.out.below (below_drewN _ nq))
          generalize (w.alloc (.cells #[.string ⟨#[]⟩, .string ⟨#[]⟩, .int .i64 0] 108)).drewN nq = w1 at *
          have HBO : Calls Tryz.prog 46 #[.int .i64 2] w1 fun e w' => e = .returned (.tuple #[.agg b32.cs, .bool true]) ∧ Below w1.heap.size w1 w' := baseOf_any w1 2
          refine HBO.mono ?_
          rintro e w2 ⟨rfl, hb2⟩
          have HZ3 : Hid (Bz w (w2.alloc (.cells b32.cs 108))) := (HZ1.out.below hb2).below (below_alloc4 w2 _)
          have HTB : Hid ((w2.alloc (.cells b32.cs 108)).heap[w2.heap.size]? = some (.cells b32.cs 108 (0, 0))) := heap_alloc_new w2 _
          have HR3 := hide HZ3.out.r
          clear hb2
          go_wp2_with (first
            | (refine wpList_storeB rfl rfl w2.heap.size b0.cs b32 rfl rfl rfl (heap_alloc_new w2 _) ?_; rw [World.setRow_alloc_new])
            | (refine wpList_loadB rfl rfl w2.heap.size b32.cs rfl rfl HTB.out ?_)
            | (refine wpList_storeB rfl rfl w.heap.size b0.cs b32 rfl rfl rfl HR3.out ?_))
          exact bodyPost_ret (end_c3 rfl Tryz.underlying108 infoB rfl (row_same HR3.out) rfl rfl rfl) rfl ⟨by rw [← HT.out]; rfl, HZ3.out.b.trans ((row_kp _ _ _).below HZ3.out.b.size (fun q e => by omega))⟩
        · skip
          by_cases h122 : x = 122
          · as_aux_lemma =>
            have HSP : Hid (spl (x :: r) = (b58, r, true)) := by show _ = _; simp only [spl]; rw [if_neg h81]; rw [if_neg h102]; rw [if_neg h98]; rw [if_pos h122]
            rw [HSP.out]
            have k81 := HH.out 81
            rw [decide_eq_false (by exact h81)] at k81
            have k102 := HH.out 102
            rw [decide_eq_false (by exact h102)] at k102
            have k98 := HH.out 98
            rw [decide_eq_false (by exact h98)] at k98
            have k122 := HH.out 122
            rw [decide_eq_true (by exact h122)] at k122
            clear HH h81 h102 h98 h122
            go_enter Tryz.func48, Tryz.ntmps48
            go_wp2_with fail
            go_quiet (fail)
            go_wp2_with fail
            have HZ1 := hide (HZ0.out.below (below_drewN _ nq))
            generalize (w.alloc (.cells #[.string ⟨#[]⟩, .string ⟨#[]⟩, .int .i64 0] 108)).drewN nq = w1 at *
            have HBO : Calls Tryz.prog 46 #[.int .i64 3] w1 fun e w' => e = .returned (.tuple #[.agg b58.cs, .bool true]) ∧ Below w1.heap.size w1 w' := baseOf_any w1 3
            refine HBO.mono ?_
            rintro e w2 ⟨rfl, hb2⟩
            have HZ3 : Hid (Bz w (w2.alloc (.cells b58.cs 108))) := (HZ1.out.below hb2).below (below_alloc4 w2 _)
            have HTB : Hid ((w2.alloc (.cells b58.cs 108)).heap[w2.heap.size]? = some (.cells b58.cs 108 (0, 0))) := heap_alloc_new w2 _
            have HR3 := hide HZ3.out.r
            clear hb2
            go_wp2_with (first
              | (refine wpList_storeB rfl rfl w2.heap.size b0.cs b58 rfl rfl rfl (heap_alloc_new w2 _) ?_; rw [World.setRow_alloc_new])
              | (refine wpList_loadB rfl rfl w2.heap.size b58.cs rfl rfl HTB.out ?_)
              | (refine wpList_storeB rfl rfl w.heap.size b0.cs b58 rfl rfl rfl HR3.out ?_))
            exact bodyPost_ret (end_c3 rfl Tryz.underlying108 infoB rfl (row_same HR3.out) rfl rfl rfl) rfl ⟨by rw [← HT.out]; rfl, HZ3.out.b.trans ((row_kp _ _ _).below HZ3.out.b.size (fun q e => by omega))⟩
          · skip
            as_aux_lemma =>
            have HSP : Hid (spl (x :: r) = (b0, r, false)) := by show _ = _; simp only [spl]; rw [if_neg h81]; rw [if_neg h102]; rw [if_neg h98]; rw [if_neg h122]
            rw [HSP.out]
            have k81 := HH.out 81
            rw [decide_eq_false (by exact h81)] at k81
            have k102 := HH.out 102
            rw [decide_eq_false (by exact h102)] at k102
            have k98 := HH.out 98
            rw [decide_eq_false (by exact h98)] at k98
            have k122 := HH.out 122
            rw [decide_eq_false (by exact h122)] at k122
            clear HH h81 h102 h98 h122
            go_enter Tryz.func48, Tryz.ntmps48
            go_wp2_with fail
            go_quiet (fail)
            go_wp2_with fail
            have HZ1 := hide (HZ0.out.below (below_drewN _ nq))
            generalize (w.alloc (.cells #[.string ⟨#[]⟩, .string ⟨#[]⟩, .int .i64 0] 108)).drewN nq = w1 at *
            have HBO : Calls Tryz.prog 46 #[.int .i64 0] w1 fun e w' => e = .returned (.tuple #[.agg b0.cs, .bool false]) ∧ Below w1.heap.size w1 w' := baseOf_any w1 0
            refine HBO.mono ?_
            rintro e w2 ⟨rfl, hb2⟩
            have HZ3 : Hid (Bz w (w2.alloc (.cells b0.cs 108))) := (HZ1.out.below hb2).below (below_alloc4 w2 _)
            have HTB : Hid ((w2.alloc (.cells b0.cs 108)).heap[w2.heap.size]? = some (.cells b0.cs 108 (0, 0))) := heap_alloc_new w2 _
            have HR3 := hide HZ3.out.r
            clear hb2
            go_wp2_with (first
              | (refine wpList_storeB rfl rfl w2.heap.size b0.cs b0 rfl rfl rfl (heap_alloc_new w2 _) ?_; rw [World.setRow_alloc_new])
              | (refine wpList_loadB rfl rfl w2.heap.size b0.cs rfl rfl HTB.out ?_)
              | (refine wpList_storeB rfl rfl w.heap.size b0.cs b0 rfl rfl rfl HR3.out ?_))
            exact bodyPost_ret (end_c3 rfl Tryz.underlying108 infoB rfl (row_same HR3.out) rfl rfl rfl) rfl ⟨by rw [← HT.out]; rfl, HZ3.out.b.trans ((row_kp _ _ _).below HZ3.out.b.size (fun q e => by omega))⟩
end
section
open Go.RowKit Go
/-- The row that a text is in a base. -/
def rowd (b : Bs) (s : List Nat) : Option (List Nat) := (looks (sl b.t) s).bind fun l => if b.n = 0 then some (conv b.t.size 256 l) else if encW b.n (decW b.n l) = l then some (decW b.n l) else none
theorem rowd_byte {b : Bs} {s o : List Nat} (h : rowd b s = some o) : ∀ x ∈ o, x < 256 := by
  unfold rowd at h
  obtain ⟨l, _, h⟩ := Option.bind_eq_some_iff.1 h
  split at h
  · injection h with h
    subst h
    exact conv_lt (by decide) l
  · split at h
    · injection h with h
      subst h
      exact decW_lt _ l
    · cases h
set_option maxRecDepth 1000000 in
set_option maxHeartbeats 1000000 in
theorem row_any (w : World) (b : Bs) (s : ByteArray) (hb : Bok b) (hs : s.size ≤ 1000) :
    Calls Tryz.prog 49 #[.agg b.cs, .string s] w fun e w' => ∃ v o, e = .returned (.tuple #[v, .bool (rowd b (sl s)).isSome]) ∧ w'.ownsRow w.heap.size 5 1 v o.length (bv o) ∧ (∀ x, rowd b (sl s) = some x → o = x) ∧ Below w.heap.size w w' := by
  have HB := hide hb
  have HS := hide hs
  have HRD : Hid (rowd b (sl s) = (looks (sl b.t) (sl s)).bind fun l => if b.n = 0 then some (conv b.t.size 256 l) else if encW b.n (decW b.n l) = l then some (decW b.n l) else none) := rfl
  have HLT : Hid (∀ l, looks (sl b.t) (sl s) = some l → (∀ x ∈ l, x < b.t.size) ∧ l.length = s.size) := fun l h => ⟨fun x hx => by have := looks_lt h x hx; rw [sl_len] at this; exact this, by rw [looks_len h, sl_len]⟩
  clear hb hs
  obtain ⟨bl, bt, bn⟩ := b
  have HT : Hid ((w.alloc (.cells #[.string bl, .string bt, .int .i64 (bn : Nat)] 108)).heap[w.heap.size]? = some (.cells (Bs.cs ⟨bl, bt, bn⟩) 108 (0, 0))) := heap_alloc_new w _
  have HB0 := hide (below_alloc4 w (.cells #[.string bl, .string bt, .int .i64 (bn : Nat)] 108))
  simp only [Bs.cs] at HRD HLT ⊢
  generalize rowd ⟨bl, bt, bn⟩ (sl s) = RD at *
  go_enter Tryz.func49, Tryz.ntmps49
  go_wp2_with fail
  generalize w.alloc (.cells #[.string bl, .string bt, .int .i64 (bn : Nat)] 108) = w0 at *
  refine (numbers_any w0 bl bt s (bn : Nat) HB.out.t2 HB.out.w HS.out).mono ?_
  rintro e w1 ⟨v1, rfl, ho1, hb1⟩
  have HB1 : Hid (Below w.heap.size w w1) := HB0.out.trans (hb1.mono HB0.out.size)
  have HT1 : Hid (w1.heap[w.heap.size]? = some (.cells (Bs.cs ⟨bl, bt, bn⟩) 108 (0, 0))) := (hb1.block _ (blk_lt HT.out)).trans HT.out
  have c1 : w1.cell? ⟨w.heap.size, 1, none⟩ = some (.string bt) := blk_cell HT1.out rfl
  have c2 : w1.cell? ⟨w.heap.size, 2, none⟩ = some (.int .i64 (bn : Nat)) := blk_cell HT1.out rfl
  cases hlo : looks (sl bt) (sl s) with
  | none =>
    as_aux_lemma =>
    rw [hlo] at ho1 HRD
    simp only [Option.isSome_none, Option.getD_none, Option.bind_none] at ho1 HRD ⊢
    obtain ⟨a2, cc2, hv2, hq1, hq2, hq3⟩ := own_form ho1
    subst hv2
    clear ho1 hb1 hq1 hq2 hq3 hlo
    go_wp2_with fail
    go_ret2
    exact ⟨_, [], by rw [HRD.out]; rfl, World.ownsRow_nil _ _ _ _, fun x hx => (by rw [HRD.out] at hx; cases hx), HB1.out⟩
  | some l =>
    rw [hlo] at ho1 HRD
    have hll := HLT.out l hlo
    simp only [Option.isSome_some, Option.getD_some, Option.bind_some] at ho1 HRD ⊢
    have HLX := hide hll.1
    have HLN := hide hll.2
    have HBS := hide (BSl.own ho1 (fun x hx => by have := hll.1 x hx; have := HB.out.t2; simp only at this; omega))
    obtain ⟨a2, cc2, hv2, hq1, hq2, hq3⟩ := own_form ho1
    subst hv2
    clear ho1 hb1 hq1 hq2 hq3 hlo hll HLT
    by_cases h0 : bn = 0
    · subst h0
      as_aux_lemma =>
      have HRE : Hid (RD = some (conv bt.size 256 l)) := by show _ = _; rw [HRD.out, if_pos rfl]
      clear HRD
      go_wp2_with fail
      have HRC : Calls Tryz.prog 83 #[.slice a2 l.length cc2, .int .i64 (bt.size : Nat), .int .i64 256] w1 _ := recast_any w1 _ l bt.size 256 HBS.out HB.out.t (Nat.le_trans HB.out.t2 (by decide)) (by decide) (by decide) HLX.out (by rw [HLN.out]; exact HS.out)
      refine HRC.mono ?_
      rintro e w2 ⟨v3, rfl, ho3, hb3⟩
      have HO := hide (own_mono4 ho3 HB1.out.size)
      have HB2 : Hid (Below w.heap.size w w2) := HB1.out.trans (hb3.mono HB1.out.size)
      obtain ⟨a3, cc3, hv3, hq1, hq2, hq3⟩ := own_form ho3
      subst hv3
      clear ho3 hb3 hq1 hq2 hq3
      go_wp2_with fail
      go_ret2
      exact ⟨_, _, by rw [HRE.out]; rfl, HO.out, fun x hx => (by rw [HRE.out] at hx; injection hx), HB2.out⟩
    · have g0 : ((bn : Int) == 0) = false := beq_eq_false_iff_ne.2 (by omega)
      have hn8 : bn ≤ 8 := HB.out.n
      have h0' : 0 < bn := by omega
      have HPW : Hid (∀ x ∈ l, x < 2 ^ bn) := fun x hx => by have h1 := HB.out.e h0; simp only at h1; rw [h1]; exact HLX.out x hx
      rw [if_neg h0] at HRD
      clear h0
      go_wp2_with fail
      have HRC : Calls Tryz.prog 84 #[.slice a2 l.length cc2, .int .i64 (bn : Nat), .int .i64 8] w1 _ := regroup_any w1 _ l bn 8 HBS.out h0' hn8 (by decide) (by decide) HPW.out (by rw [HLN.out]; exact HS.out)
      refine HRC.mono ?_
      rintro e w2 ⟨v3, out, R, rfl, hg, hR, ho3, hb3⟩
      have HED := hide (enc_dec h0' HPW.out hg hR)
      have HDW : Hid (decW bn l = out) := (hg.grp (by decide) hR).symm
      rw [HDW.out] at HRD
      have HO := hide (own_mono4 ho3 HB1.out.size)
      have HB2 : Hid (Below w.heap.size w w2) := HB1.out.trans (hb3.mono HB1.out.size)
      have c3 : w2.cell? ⟨w.heap.size, 2, none⟩ = some (.int .i64 (bn : Nat)) := keep_below hb3 _ _ c2
      obtain ⟨a3, cc3, hv3, hq1, hq2, hq3⟩ := own_form ho3
      subst hv3
      clear ho3 hb3 hq1 hq2 hq3 c1 c2 hg HDW
      by_cases hlt : R.length < bn
      · have g1 : (R.length : Int) < (bn : Int) := by omega
        by_cases hz : valB 2 R = 0
        · as_aux_lemma =>
          have HRE : Hid (RD = some out) := by show _ = _; rw [HRD.out, if_pos (HED.out.2 ⟨hlt, hz⟩)]
          rw [hz]
          clear HRD HED
          go_wp2_with fail
          go_ret2
          exact ⟨_, _, by rw [HRE.out]; rfl, HO.out, fun x hx => (by rw [HRE.out] at hx; injection hx), HB2.out⟩
        · as_aux_lemma =>
          have HRE : Hid (RD = none) := by show _ = _; rw [HRD.out, if_neg (fun e => hz (HED.out.1 e).2)]
          have g2 : ((valB 2 R : Int) == 0) = false := beq_eq_false_iff_ne.2 (by omega)
          clear HRD HED
          go_wp2_with fail
          go_ret2
          exact ⟨_, _, by rw [HRE.out]; rfl, HO.out, fun x hx => (by rw [HRE.out] at hx; cases hx), HB2.out⟩
      · as_aux_lemma =>
        have g1 : ¬ (R.length : Int) < (bn : Int) := by omega
        have HRE : Hid (RD = none) := by show _ = _; rw [HRD.out, if_neg (fun e => hlt (HED.out.1 e).1)]
        clear HRD HED
        go_wp2_with fail
        go_ret2
        exact ⟨_, _, by rw [HRE.out]; rfl, HO.out, fun x hx => (by rw [HRE.out] at hx; cases hx), HB2.out⟩
end
section
open Go.RowKit Go
set_option maxRecDepth 1000000 in
set_option maxHeartbeats 1000000 in
theorem parse4_any (w : World) (v : Value) (b : List Nat) (hb : BSl w v b) :
    Calls Tryz.prog 17 #[v] w fun e w' => e = .returned (.tuple #[lkv (lparse b).1, .int .i64 ((lparse b).2 : Nat)]) ∧ Below w.heap.size w w' := by
  have HB := hide hb
  obtain ⟨⟨a, cap, rfl, hn, hc⟩, hmax, hby⟩ := hb
  have HF0 := hide (Fz.start w)
  clear hn hc hby
  go_enter Tryz.func17, Tryz.ntmps17
  go_wp2_with fail
  generalize w.alloc (.cells #[.int .i64 0, .int .u64 0, .int .u64 0, .string ⟨#[]⟩] 61) = w0 at *
  refine (first4_any w0 _ b (HB.out.move (keep_below HF0.out.b))).mono ?_
  rintro e w1 ⟨rfl, hb1⟩
  have HF1 := hide (HF0.out.below hb1)
  have HPR : Hid (lparse b = if (lfirst b).2.2 ≠ 0 then (Lk.none, (lfirst b).2.2) else if (lfirst b).2.1 < b.length then (Lk.none, 44) else ((lfirst b).1, 0)) := rfl
  clear hb1
  generalize lfirst b = r at *
  obtain ⟨⟨lv, lc, lh, ld⟩, n, er⟩ := r
  simp only at HPR ⊢
  have HL2 : Hid ((w1.alloc (.cells #[.int .i64 lv, .int .u64 (lc : Nat), .int .u64 (lh : Nat), .string (nstr ld)] 61)).heap[w1.heap.size]? = some (.cells (lcs ⟨lv, lc, lh, ld⟩) 61 (0, 0))) := heap_alloc_new w1 _
  have HF2 : Hid (Fz w (w1.alloc (.cells #[.int .i64 lv, .int .u64 (lc : Nat), .int .u64 (lh : Nat), .string (nstr ld)] 61))) := HF1.out.below (below_alloc4 w1 _)
  have HR2 := hide HF2.out.r
  clear HF1 HF0
  simp only [lkv]
  by_cases he : er = 0
  · subst he
    by_cases hlt : n < b.length
    · as_aux_lemma =>
      have g1 : (n : Int) < (b.length : Int) := by omega
      have HP2 : Hid (lparse b = (Lk.none, 44)) := by show _ = _; rw [HPR.out]; simp [hlt]
      clear HPR hlt
      go_wp2_with (refine wpList_zero rfl rfl w.heap.size rfl rfl HR2.out ?_)
      exact bodyPost_ret (end_c2 rfl Tryz.underlying61 info61 rfl HR2.out rfl rfl) rfl ⟨by rw [HP2.out]; rfl, HF2.out.b⟩
    · as_aux_lemma =>
      have g1 : ¬ (n : Int) < (b.length : Int) := by omega
      have HP2 : Hid (lparse b = (⟨lv, lc, lh, ld⟩, 0)) := by show _ = _; rw [HPR.out]; simp [hlt]
      clear HPR hlt
      go_wp2_with (first
        | (refine wpList_loadLk rfl rfl w1.heap.size _ rfl rfl HL2.out ?_)
        | (refine wpList_storeLk rfl rfl w.heap.size zlk ⟨lv, lc, lh, ld⟩ rfl rfl rfl HR2.out ?_))
      exact bodyPost_ret (end_c2 rfl Tryz.underlying61 info61 rfl (row_same HR2.out) rfl rfl) rfl ⟨by rw [HP2.out]; rfl, HF2.out.b.trans ((row_kp _ _ _).below HF2.out.b.size (fun q e => by omega))⟩
  · as_aux_lemma =>
    have g1 : ((er : Int) == 0) = false := beq_eq_false_iff_ne.2 (by omega)
    have HP2 : Hid (lparse b = (Lk.none, er)) := by show _ = _; rw [HPR.out]; simp [he]
    clear HPR he
    go_wp2_with (refine wpList_zero rfl rfl w.heap.size rfl rfl HR2.out ?_)
    exact bodyPost_ret (end_c2 rfl Tryz.underlying61 info61 rfl HR2.out rfl rfl) rfl ⟨by rw [HP2.out]; rfl, HF2.out.b⟩
end
section
open Go.RowKit Go
theorem enc_map {t : List Nat} {s l x : List Nat} (ht : ∀ i, i < t.length → look t (t.getD i 0) = some i) (hl : looks t s = some l) (hx : ∀ i ∈ x, i < t.length) : x.map (t.getD · 0) = s ↔ x = l := by
  constructor
  · intro e
    have h := looks_map ht hx
    rw [e, hl] at h
    injection h with h
    exact h.symm
  · intro e
    rw [e]
    exact (looks_back hl).1
theorem rowd16 (s : List Nat) : rowd b16 s = in16 s := by
  unfold rowd in16
  show ((looks (sl s16) s).bind fun l => if (4 : Nat) = 0 then _ else if encW 4 (decW 4 l) = l then some (decW 4 l) else none) = _
  rw [sl16]
  cases h : looks d16 s with
  | none => rfl
  | some l =>
    simp only [Option.bind_some]
    rw [if_neg (by decide)]
    have e := enc_map (t := d16) look16 h (encW_lt (w := 4) (by decide) (decW 4 l))
    unfold of16
    by_cases h1 : encW 4 (decW 4 l) = l
    · rw [if_pos h1, if_pos (e.2 h1)]
    · rw [if_neg h1, if_neg (fun h => h1 (e.1 h))]
theorem rowd32 (s : List Nat) : rowd b32 s = in32 s := by
  unfold rowd in32
  show ((looks (sl s32) s).bind fun l => if (5 : Nat) = 0 then _ else if encW 5 (decW 5 l) = l then some (decW 5 l) else none) = _
  rw [sl32]
  cases h : looks d32 s with
  | none => rfl
  | some l =>
    simp only [Option.bind_some]
    rw [if_neg (by decide)]
    have e := enc_map (t := d32) look32 h (encW_lt (w := 5) (by decide) (decW 5 l))
    unfold of32
    by_cases h1 : encW 5 (decW 5 l) = l
    · rw [if_pos h1, if_pos (e.2 h1)]
    · rw [if_neg h1, if_neg (fun h => h1 (e.1 h))]
theorem rowd58 (s : List Nat) : rowd b58 s = in58 s := by
  unfold rowd in58
  show ((looks (sl s58) s).bind fun l => some (conv 58 256 l)) = _
  rw [sl58]
  cases looks d58 s <;> rfl
/-- What ParseText tells, by the landed code's steps. -/
def ptx (s : List Nat) : Lk × Nat :=
  if 153 < s.length then (Lk.none, 46) else if (spl s).2.2 = false then (Lk.none, 45)
  else match rowd (spl s).1 (spl s).2.1 with
    | none => (Lk.none, 46)
    | some b => if (lparse b).2 ≠ 0 then (Lk.none, (lparse b).2) else if decide ((lparse b).1.v = 0) ≠ decide (s.head? = some 81) then (Lk.none, 41) else ((lparse b).1, 0)
theorem ptx_eq {s : List Nat} (hs : ∀ x ∈ s, x < 256) : ptx s = lparsetext s := by
  unfold ptx lparsetext
  by_cases h1 : 153 < s.length
  · rw [if_pos h1, if_pos h1]
  · rw [if_neg h1, if_neg h1]
    have key : ∀ (b : List Nat) (v : Int) (q : Bool), (∀ x ∈ b, x < 256) → (v = if q then 0 else 1) → (if (lparse b).2 ≠ 0 then (Lk.none, (lparse b).2) else if decide ((lparse b).1.v = 0) ≠ q then (Lk.none, 41) else ((lparse b).1, 0)) = (if (lparse b).2 ≠ 0 then (Lk.none, (lparse b).2) else if (lparse b).1.v ≠ v then (Lk.none, 41) else ((lparse b).1, 0)) := by
      intro b v q hb hv
      by_cases h2 : (lparse b).2 = 0
      · have hok := (lparse_back (l := (lparse b).1) hb (by rw [← h2])).1
        have hv01 : (lparse b).1.v = 0 ∨ (lparse b).1.v = 1 := by
          rcases hok with h | h
          · exact .inl h.1
          · exact .inr h.1
        subst hv
        simp only [h2, ne_eq, not_true_eq_false, if_false]
        generalize (lparse b).1 = l at *
        cases q
        · rcases hv01 with h | h
          · simp [h]
          · simp [h]
        · rcases hv01 with h | h
          · simp [h]
          · simp [h]
      · rw [if_pos h2, if_pos h2]
    cases s with
    | nil => rfl
    | cons x r =>
      have hr : ∀ y ∈ r, y < 256 := fun y hy => hs y (List.mem_cons_of_mem _ hy)
      have main : ∀ (bb : Bs) (t : List Nat) (v : Int) (q : Bool), spl (x :: r) = (bb, t, true) → decide ((x :: r).head? = some 81) = q → (v = if q then 0 else 1) → ltake (x :: r) = (rowd bb t).map (fun b => (v, b)) → ¬ ((x :: r).head? ≠ some 81 ∧ (x :: r).head? ≠ some 102 ∧ (x :: r).head? ≠ some 98 ∧ (x :: r).head? ≠ some 122) →
          (if (spl (x :: r)).2.2 = false then (Lk.none, 45) else match rowd (spl (x :: r)).1 (spl (x :: r)).2.1 with
            | none => (Lk.none, 46)
            | some b => if (lparse b).2 ≠ 0 then (Lk.none, (lparse b).2) else if decide ((lparse b).1.v = 0) ≠ decide ((x :: r).head? = some 81) then (Lk.none, 41) else ((lparse b).1, 0)) =
          (if (x :: r).head? ≠ some 81 ∧ (x :: r).head? ≠ some 102 ∧ (x :: r).head? ≠ some 98 ∧ (x :: r).head? ≠ some 122 then (Lk.none, 45) else match ltake (x :: r) with
            | none => (Lk.none, 46)
            | some (v, b) => if (lparse b).2 ≠ 0 then (Lk.none, (lparse b).2) else if (lparse b).1.v ≠ v then (Lk.none, 41) else ((lparse b).1, 0)) := by
        intro bb t v q e1 e2 e3 e4 e5
        rw [if_neg e5, e1, e2, e4]
        rw [if_neg (by simp)]
        simp only
        cases hrow : rowd bb t with
        | none => rfl
        | some b => exact key b v q (rowd_byte hrow) e3
      by_cases h81 : x = 81
      · subst h81
        exact main b58 (81 :: r) 0 true rfl rfl rfl (by rw [rowd58]; rfl) (by simp)
      · by_cases h102 : x = 102
        · subst h102
          exact main b16 r 1 false rfl rfl rfl (by rw [rowd16]; rfl) (by simp)
        · by_cases h98 : x = 98
          · subst h98
            exact main b32 r 1 false rfl rfl rfl (by rw [rowd32]; rfl) (by simp)
          · by_cases h122 : x = 122
            · subst h122
              exact main b58 r 1 false rfl rfl rfl (by rw [rowd58]; rfl) (by simp)
            · have e : spl (x :: r) = (b0, r, false) := by
                simp only [spl]
                rw [if_neg h81, if_neg h102, if_neg h98, if_neg h122]
              rw [e, if_pos rfl, if_pos (by simp [h81, h102, h98, h122])]
theorem spl_ok {s : List Nat} (h : (spl s).2.2 = true) : Bok (spl s).1 := by
  cases s with
  | nil => simp [spl] at h
  | cons x r =>
    simp only [spl] at h ⊢
    split
    · exact bok58
    · split
      · exact bok16
      · split
        · exact bok32
        · split
          · exact bok58
          · rename_i h1 h2 h3 h4
            rw [if_neg h1, if_neg h2, if_neg h3, if_neg h4] at h
            cases h
theorem spl_cons {s : List Nat} (h : (spl s).2.2 = true) : ∃ x r, s = x :: r := by
  cases s with
  | nil => simp [spl] at h
  | cons x r => exact ⟨x, r, rfl⟩
theorem spl_len (s : List Nat) : (spl s).2.1.length ≤ s.length := by
  cases s with
  | nil => simp [spl]
  | cons x r =>
    simp only [spl]
    repeat' split
    all_goals simp
theorem spl_byte {s : List Nat} (h : ∀ x ∈ s, x < 256) : ∀ x ∈ (spl s).2.1, x < 256 := by
  cases s with
  | nil => simp [spl]
  | cons x r =>
    have hr : ∀ y ∈ r, y < 256 := fun y hy => h y (List.mem_cons_of_mem _ hy)
    simp only [spl]
    repeat' split
    all_goals first | exact h | exact hr
end
section
open Go.RowKit Go
set_option maxRecDepth 1000000 in
set_option maxHeartbeats 2000000 in
theorem parsetext_any (w : World) (s : ByteArray) (hs : s.size ≤ 9223372036854775807) :
    Calls Tryz.prog 25 #[.string s] w fun e w' => e = .returned (.tuple #[lkv (lparsetext (sl s)).1, .int .i64 ((lparsetext (sl s)).2 : Nat)]) ∧ Below w.heap.size w w' := by
  have HF0 := hide (Fz.start w)
  rw [← ptx_eq (sl_byte s)]
  have HPX : Hid (ptx (sl s) = if 153 < (sl s).length then (Lk.none, 46) else if (spl (sl s)).2.2 = false then (Lk.none, 45)
    else match rowd (spl (sl s)).1 (spl (sl s)).2.1 with
      | none => (Lk.none, 46)
      | some b => if (lparse b).2 ≠ 0 then (Lk.none, (lparse b).2) else if decide ((lparse b).1.v = 0) ≠ decide ((sl s).head? = some 81) then (Lk.none, 41) else ((lparse b).1, 0)) := rfl
  rw [sl_len] at HPX
  have HR0 := hide HF0.out.r
  generalize ptx (sl s) = R at *
  by_cases h153 : 153 < s.size
  · as_aux_lemma =>
    have g1 : (153 : Int) < (s.size : Int) := by omega
    rw [if_pos h153] at HPX
    clear h153
    go_enter Tryz.func25, Tryz.ntmps25
    go_wp2_with (refine wpList_zero rfl rfl w.heap.size rfl rfl HR0.out ?_)
    exact bodyPost_ret (end_c2 rfl Tryz.underlying61 info61 rfl HR0.out rfl rfl) rfl ⟨by rw [HPX.out]; rfl, HF0.out.b⟩
  · have g1 : ¬ (153 : Int) < (s.size : Int) := by omega
    rw [if_neg h153] at HPX
    have HSP := hide (split_any (w.alloc (.cells #[.int .i64 0, .int .u64 0, .int .u64 0, .string ⟨#[]⟩] 61)) s (by omega))
    have HSO := hide (spl_ok (s := sl s))
    have HSC := hide (spl_cons (s := sl s))
    have HSL := hide (spl_len (sl s))
    have HSB := hide (spl_byte (sl_byte s))
    rw [sl_len] at HSL
    have hS153 : s.size ≤ 153 := by omega
    clear h153
    go_enter Tryz.func25, Tryz.ntmps25
    go_wp2_with fail
    generalize w.alloc (.cells #[.int .i64 0, .int .u64 0, .int .u64 0, .string ⟨#[]⟩] 61) = w0 at *
    refine HSP.out.mono ?_
    rintro e w1 ⟨rfl, hb1⟩
    have HF1 := hide (HF0.out.below hb1)
    clear HSP HF0 HR0 hb1
    generalize hsp : spl (sl s) = sp at *
    clear hsp
    obtain ⟨⟨bl, bt, bn⟩, dd, ok⟩ := sp
    simp only [Bs.cs] at HPX HSO HSL HSB HSC ⊢
    have hb2 := below_alloc4 w1 (.cells #[.string bl, .string bt, .int .i64 (bn : Nat)] 108)
    have HF2 := hide (HF1.out.below hb2)
    have HTB : Hid ((w1.alloc (.cells #[.string bl, .string bt, .int .i64 (bn : Nat)] 108)).heap[w1.heap.size]? = some (.cells (Bs.cs ⟨bl, bt, bn⟩) 108 (0, 0))) := heap_alloc_new w1 _
    have HR2 := hide HF2.out.r
    clear hb2 HF1
    cases ok with
    | false =>
      as_aux_lemma =>
      rw [if_pos rfl] at HPX
      go_wp2_with (refine wpList_zero rfl rfl w.heap.size rfl rfl HR2.out ?_)
      exact bodyPost_ret (end_c2 rfl Tryz.underlying61 info61 rfl HR2.out rfl rfl) rfl ⟨by rw [HPX.out]; rfl, HF2.out.b⟩
    | true =>
      rw [if_neg (by decide)] at HPX
      have HBO := hide (HSO.out rfl)
      clear HSO
      have q0 : (w1.alloc (.cells #[.string bl, .string bt, .int .i64 (bn : Nat)] 108)).cell? ⟨w1.heap.size, 0, none⟩ = some (.string bl) := blk_cell HTB.out rfl
      have q1 : (w1.alloc (.cells #[.string bl, .string bt, .int .i64 (bn : Nat)] 108)).cell? ⟨w1.heap.size, 1, none⟩ = some (.string bt) := blk_cell HTB.out rfl
      have q2 : (w1.alloc (.cells #[.string bl, .string bt, .int .i64 (bn : Nat)] 108)).cell? ⟨w1.heap.size, 2, none⟩ = some (.int .i64 (bn : Nat)) := blk_cell HTB.out rfl
      have HRW := hide (row_any (w1.alloc (.cells #[.string bl, .string bt, .int .i64 (bn : Nat)] 108)) ⟨bl, bt, bn⟩ (nstr dd) HBO.out (by rw [nstr_size HSB.out]; have := HSL.out; omega))
      rw [sl_nstr HSB.out] at HRW
      go_wp2_with fail
      clear q0 q1 q2
      generalize w1.alloc (.cells #[.string bl, .string bt, .int .i64 (bn : Nat)] 108) = w2 at *
      refine HRW.out.mono ?_
      rintro e w3 ⟨v3, o, rfl, ho3, hox, hb3⟩
      have HF3 := hide (HF2.out.below hb3)
      have HR3 := hide HF3.out.r
      have HRB := hide (fun o => rowd_byte (b := ⟨bl, bt, bn⟩) (s := dd) (o := o))
      clear hb3 HF2 HR2 HTB HRW
      cases hrow : rowd ⟨bl, bt, bn⟩ dd with
      | none =>
        as_aux_lemma =>
        rw [hrow] at HPX
        simp only at HPX
        obtain ⟨a3, c3, hv3, hq1, hq2, hq3⟩ := own_form ho3
        subst hv3
        clear ho3 hox hq1 hq2 hq3 hrow
        simp only [Option.isSome_none]
        go_wp2_with (refine wpList_zero rfl rfl w.heap.size rfl rfl HR3.out ?_)
        exact bodyPost_ret (end_c2 rfl Tryz.underlying61 info61 rfl HR3.out rfl rfl) rfl ⟨by rw [HPX.out]; rfl, HF3.out.b⟩
      | some x =>
        have hoe := hox x hrow
        subst hoe
        rw [hrow] at HPX
        simp only at HPX
        have HV3 := hide (BSl.own ho3 (HRB.out o hrow))
        obtain ⟨a3, c3, hv3, hq1, hq2, hq3⟩ := own_form ho3
        subst hv3
        clear ho3 hox hq1 hq2 hq3 hrow HRB
        simp only [Option.isSome_some]
        go_wp2_with fail
        refine (parse4_any w3 _ o HV3.out).mono ?_
        rintro e w4 ⟨rfl, hb4⟩
        have HF4 := hide (HF3.out.below hb4)
        clear hb4 HF3 HR3 HV3
        generalize lparse o = lp at *
        obtain ⟨⟨lv, lc, lh, ld⟩, er⟩ := lp
        simp only [lkv] at HPX ⊢
        have HF5 := hide (HF4.out.below (below_alloc4 w4 (.cells #[.int .i64 lv, .int .u64 (lc : Nat), .int .u64 (lh : Nat), .string (nstr ld)] 61)))
        have HL5 : Hid ((w4.alloc (.cells #[.int .i64 lv, .int .u64 (lc : Nat), .int .u64 (lh : Nat), .string (nstr ld)] 61)).heap[w4.heap.size]? = some (.cells (lcs ⟨lv, lc, lh, ld⟩) 61 (0, 0))) := heap_alloc_new w4 _
        have HR5 := hide HF5.out.r
        clear HF4
        by_cases her : er = 0
        · subst her
          rw [if_neg (by simp)] at HPX
          obtain ⟨x, r, hxr⟩ := HSC.out (by simp)
          have hp : (1 : Int) ≤ (s.size : Int) := by have := sl_len s; rw [hxr, List.length_cons] at this; omega
          have k81 := ext_head s hxr 81
          have HHD : Hid (decide ((sl s).head? = some 81) = decide (x = (81 : UInt8).toNat)) := by show _ = _; rw [hxr]; simp
          rw [HHD.out] at HPX
          generalize decide (x = (81 : UInt8).toNat) = qq at *
          have c0 : (w4.alloc (.cells #[.int .i64 lv, .int .u64 (lc : Nat), .int .u64 (lh : Nat), .string (nstr ld)] 61)).cell? ⟨w4.heap.size, 0, none⟩ = some (.int .i64 lv) := blk_cell HL5.out rfl
          have HVB : Hid ((lv == 0) = decide (lv = 0)) := by show _ = _; rw [Bool.eq_iff_iff]; simp
          clear HHD hxr HSC
          by_cases hm : decide (lv = 0) = qq
          · as_aux_lemma =>
            rw [if_neg (fun h => h hm)] at HPX
            have kv : (lv == 0) = qq := by rw [HVB.out, hm]
            clear hm HVB
            go_wp2_with fail
            go_quiet (fail)
            have HRQ := hide ((below_drewN (w4.alloc (.cells #[.int .i64 lv, .int .u64 (lc : Nat), .int .u64 (lh : Nat), .string (nstr ld)] 61)) nq))
            have HF6 := hide (HF5.out.below HRQ.out)
            have HL6 := hide ((HRQ.out.block _ (blk_lt HL5.out)).trans HL5.out)
            have HR6 := hide HF6.out.r
            go_wp2_with (first
              | (refine wpList_loadLk rfl rfl w4.heap.size (lcs ⟨lv, lc, lh, ld⟩) rfl rfl HL6.out ?_)
              | (refine wpList_storeLk rfl rfl w.heap.size zlk ⟨lv, lc, lh, ld⟩ rfl rfl rfl HR6.out ?_))
            exact bodyPost_ret (end_c2 rfl Tryz.underlying61 info61 rfl (row_same HR6.out) rfl rfl) rfl ⟨by rw [HPX.out]; rfl, HF6.out.b.trans ((row_kp _ _ _).below HF6.out.b.size (fun q e => by omega))⟩
          · as_aux_lemma =>
            rw [if_pos hm] at HPX
            have kv : (lv == 0) = !qq := by rw [HVB.out]; cases qq <;> simpa using hm
            clear hm HVB
            go_wp2_with fail
            go_quiet (fail)
            have HRQ := hide ((below_drewN (w4.alloc (.cells #[.int .i64 lv, .int .u64 (lc : Nat), .int .u64 (lh : Nat), .string (nstr ld)] 61)) nq))
            have HF6 := hide (HF5.out.below HRQ.out)
            have HR6 := hide HF6.out.r
            go_wp2_with (refine wpList_zero rfl rfl w.heap.size rfl rfl HR6.out ?_)
            exact bodyPost_ret (end_c2 rfl Tryz.underlying61 info61 rfl HR6.out rfl rfl) rfl ⟨by rw [HPX.out]; rfl, HF6.out.b⟩
        · as_aux_lemma =>
          rw [if_pos her] at HPX
          have g2 : ((er : Int) == 0) = false := beq_eq_false_iff_ne.2 (by omega)
          clear her
          go_wp2_with (refine wpList_zero rfl rfl w.heap.size rfl rfl HR5.out ?_)
          exact bodyPost_ret (end_c2 rfl Tryz.underlying61 info61 rfl HR5.out rfl rfl) rfl ⟨by rw [HPX.out]; rfl, HF5.out.b⟩
end
section
open Go.RowKit Go
set_option maxRecDepth 1000000 in
set_option maxHeartbeats 1000000 in
theorem text4_any (w : World) (l : Lk) (hl : Lkb l) :
    Calls Tryz.prog 24 #[lkv l] w fun e w' => e = .returned (.tuple #[.string (nstr (lttx l).1), .int .i64 (lttx l).2]) ∧ Below w.heap.size w w' := by
  have HL := hide hl
  have HT : Hid ((w.alloc (.cells #[.int .i64 l.v, .int .u64 (l.c : Nat), .int .u64 (l.h : Nat), .string (nstr l.d)] 61)).heap[w.heap.size]? = some (.cells (lcs l) 61 (0, 0))) := heap_alloc_new w _
  have HB := hide (below_alloc4 w (.cells #[.int .i64 l.v, .int .u64 (l.c : Nat), .int .u64 (l.h : Nat), .string (nstr l.d)] 61))
  simp only [lkv]
  generalize hR : lttx l = R
  have HR := hide hR
  clear hR hl
  by_cases hv : l.v = 0
  · have HR2 : Hid (R = if lok l then (btext b58 (lrow l), 0) else ([], 40)) := by
      show _ = _
      rw [← HR.out]
      unfold lttx
      by_cases hk : lok l
      · rw [if_pos hk, if_pos hk]
        unfold ltext lrow
        rw [if_pos hv, if_pos hk, btext58]
      · rw [if_neg hk, if_neg hk]
    clear HR
    obtain ⟨lv, lc, lh, ld⟩ := l
    simp only at hv
    subst hv
    simp only at HT HB ⊢
    go_enter Tryz.func24, Tryz.ntmps24
    go_wp2_with fail
    generalize w.alloc (.cells #[.int .i64 0, .int .u64 (lc : Nat), .int .u64 (lh : Nat), .string (nstr ld)] 61) = w0 at *
    refine (bytes4_any w0 ⟨0, lc, lh, ld⟩ HL.out).mono ?_
    rintro e w1 ⟨v1, rfl, ho1, hb1⟩
    have HB1 : Hid (Below w.heap.size w w1) := HB.out.trans (hb1.mono HB.out.size)
    have HV1 := hide (BSl.own ho1 (lrow_byte HL.out.d))
    have HRL := hide (lrow_len ⟨0, lc, lh, ld⟩)
    obtain ⟨a1, c1, hv1, hq1, hq2, hq3⟩ := own_form ho1
    subst hv1
    clear ho1 hb1 hq1 hq2 hq3 HT HB
    by_cases hlk : lok ⟨0, lc, lh, ld⟩
    · as_aux_lemma =>
      rw [if_pos hlk] at HR2 ⊢
      clear hlk
      go_wp2_with fail
      have HBO : Calls Tryz.prog 46 #[.int .i64 3] w1 fun e w' => e = .returned (.tuple #[.agg b58.cs, .bool true]) ∧ Below w1.heap.size w1 w' := baseOf_any w1 3
      refine HBO.mono ?_
      rintro e w2 ⟨rfl, hb2⟩
      have hb3 := below_alloc4 w2 (.cells b58.cs 108)
      have hb4 := hb2.trans (hb3.mono hb2.size)
      have HB3 : Hid (Below w.heap.size w (w2.alloc (.cells b58.cs 108))) := HB1.out.trans (hb4.mono HB1.out.size)
      have HTB : Hid ((w2.alloc (.cells b58.cs 108)).heap[w2.heap.size]? = some (.cells b58.cs 108 (0, 0))) := heap_alloc_new w2 _
      have HV3 := hide (HV1.out.move (keep_below hb4))
      clear hb2 hb3 hb4
      have HBT := hide (text_any (w2.alloc (.cells b58.cs 108)) b58 _ (lrow ⟨0, lc, lh, ld⟩) bok58 HV3.out (Nat.le_trans HRL.out (by decide)))
      have HCS : Hid (b58.cs = #[.string b58.l, .string b58.t, .int .i64 (b58.n : Nat)]) := rfl
      generalize btext b58 (lrow ⟨0, lc, lh, ld⟩) = bx at *
      rw [HCS.out] at HB3 HTB HBT ⊢
      generalize b58.l = L5 at *
      generalize b58.t = T5 at *
      generalize (b58.n : Int) = N5 at *
      go_wp2_with fail
      refine HBT.out.mono ?_
      rintro e w4 ⟨rfl, hb4⟩
      have HB4 : Hid (Below w.heap.size w w4) := HB3.out.trans (hb4.mono HB3.out.size)
      clear hb4
      go_wp2_with fail
      go_ret2
      exact ⟨by rw [HR2.out]; rfl, HB4.out⟩
    · as_aux_lemma =>
      rw [if_neg hlk] at HR2 ⊢
      clear hlk
      go_wp2_with fail
      go_ret2
      exact ⟨by rw [HR2.out]; rfl, HB1.out⟩
  · have HR2 : Hid (R = ltin l 2) := by
      show _ = _
      rw [← HR.out]
      by_cases hk : lok l
      · have := ltin_text hk hv (n := 2) (by omega)
        have e : ((2 : Nat) : Int) = 2 := rfl
        rw [e] at this
        rw [this]
        unfold lttx ltext
        rw [if_pos hk, if_neg hv]
      · unfold lttx ltin
        rw [if_neg hk, if_neg hk]
    clear HR
    have g0 : (l.v != 0) = true := bne_iff_ne.2 hv
    clear hv
    go_enter Tryz.func24, Tryz.ntmps24
    go_wp2_with fail
    generalize w.alloc (.cells #[.int .i64 l.v, .int .u64 (l.c : Nat), .int .u64 (l.h : Nat), .string (nstr l.d)] 61) = w0 at *
    refine (textin_any w0 l 2 HL.out).mono ?_
    rintro e w1 ⟨rfl, hb1⟩
    have HB1 : Hid (Below w.heap.size w w1) := HB.out.trans (hb1.mono HB.out.size)
    rw [← HR2.out]
    clear hb1
    go_wp2_with fail
    go_ret2
    exact ⟨rfl, HB1.out⟩
end
end Go.Proofs.YtidglddjinfncaaGreatDoor
