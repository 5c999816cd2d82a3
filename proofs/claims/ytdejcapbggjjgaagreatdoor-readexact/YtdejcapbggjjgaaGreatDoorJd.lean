import Derived.Test.YtdejcapbggjjgaaGreatDoorJc
import Derived.Test.YtdejcapbggjjgaaGreatDoorJb
import Derived.Laws.StructEq
import Derived.SliceStrings
import Derived.Lib.SmallJoins
import Derived.Test.YtdejcapbggjjgaaGreatDoorJa
import Derived.Great.BuildSlice
import Derived.Great.FillDense
import Derived.Maps.AppendAt
import Derived.LaidLaws
import Derived.Handed
import Derived.Lib.LaidTab
import Derived.Laws.ResultCell
namespace Go.Proofs.YtdejcapbggjjgaaGreatDoor
section
open Go.RowKit Go
theorem nstr_sl (s : ByteArray) : nstr (sl s) = s := by
  obtain ⟨⟨l⟩⟩ := s
  have e : nstr (sl ⟨⟨l⟩⟩) = ⟨(nstr (sl ⟨⟨l⟩⟩)).data⟩ := rfl
  rw [e]
  congr 1
  apply Array.ext'
  simp only [nstr, sl, strOfNums_data, List.map_map]
  conv => rhs; rw [← List.map_id l]
  apply List.map_congr_left
  intro x _
  simp
theorem nstr_size {xs : List Nat} (h : ∀ x ∈ xs, x < 256) : (nstr xs).size = xs.length := by rw [← sl_len, sl_nstr h]
/-- A link's cells. -/
def lcs (l : Lk) : Array Value := #[.int .i64 l.v, .int .u64 (l.c : Nat), .int .u64 (l.h : Nat), .string (nstr l.d)]
theorem lkv_lcs (l : Lk) : lkv l = .agg (lcs l) := rfl
/-- A link that the program can hold. -/
structure Lkb (l : Lk) : Prop where
  c : l.c < 18446744073709551616
  h : l.h < 18446744073709551616
  d : ∀ x ∈ l.d, x < 256
  n : l.d.length ≤ 9223372036854775807
theorem Lkb.size {l : Lk} (h : Lkb l) : (nstr l.d).size = l.d.length := nstr_size h.d
theorem lk_ext {a b : Lk} : a = b ↔ a.v = b.v ∧ a.c = b.c ∧ a.h = b.h ∧ a.d = b.d := by
  constructor
  · rintro rfl
    exact ⟨rfl, rfl, rfl, rfl⟩
  · obtain ⟨_, _, _, _⟩ := a
    obtain ⟨_, _, _, _⟩ := b
    rintro ⟨h1, h2, h3, h4⟩
    simp only at h1 h2 h3 h4
    subst h1 h2 h3 h4
    rfl
instance : DecidableEq Lk := fun a b => decidable_of_iff _ (lk_ext (a := a) (b := b)).symm
theorem eqlk (w : World) {a b : Lk} (ha : ∀ x ∈ a.d, x < 256) (hb : ∀ x ∈ b.d, x < 256) : (Op.equalIn 10000 57 (.agg (lcs a)) (.agg (lcs b))).run Tryz.prog w = .ok (decide (a = b)) w := by
  have u3 := Tryz.underlying3
  have u9 := Tryz.underlying9
  have u33 := Tryz.underlying55
  have a3 := Tryz.isAgg3
  have a9 := Tryz.isAgg9
  have a33 := Tryz.isAgg55
  have z3 := Tryz.sizeOf3
  have z9 := Tryz.sizeOf9
  have z33 := Tryz.sizeOf55
  have hS : Tryz.prog.underlying 57 = some (.struct (Tryz.prog.fieldsOf 57)) := by kernel_rfl
  have hp : Tryz.prog.stoodInHeld 57 = false := by kernel_rfl
  have hs : ((nstr a.d).toList == (nstr b.d).toList) = decide (a.d = b.d) := by
    by_cases h : a.d = b.d
    · rw [h]; simp
    · rw [beq_eq_false_iff_ne.2 (fun e => h (nstr_inj ha hb e))]; simp [h]
  have hr : decide (a = b) = (decide (a.v = b.v) && (decide (a.c = b.c) && (decide (a.h = b.h) && decide (a.d = b.d)))) := by
    rw [Bool.eq_iff_iff]
    simp [lk_ext]
  rw [hr]
  unfold lcs
  rw [show (10000 : Nat) = 9999 + 1 from rfl, run_equalIn_agg w 9999 57 _ _ hS hp]
  simp only [Program.fieldsOf, Tryz.underlying57]
  go_simp
  by_cases h1 : a.v = b.v <;> by_cases h2 : a.c = b.c <;> by_cases h3 : a.h = b.h <;> by_cases h4 : a.d = b.d <;> first | (simp [h1, h2, h3, h4]; done) | (simp [h1, h2, h3, h4]; omega)

theorem eqg : Tryz.prog.eqGuardType Tryz.prog.depth 57 = false := by kernel_rfl
theorem wpList_wanted {P : Program} {ops : Array Oper} {Q : Exit → Act → World → Prop} {a : Act} {w : World} {rest : List Oper} {o : Oper} (hw : Region.wanted o (yielded ops a.tmps) = true)
    (h : ∀ K : Act → World → Prop, (∀ a w, wpList P ops Q rest a w → K a w) → o.wp P a w K Q) : wpList P ops Q (o :: rest) a w := wpList_step fun K hK => by rw [if_pos hw]; exact h K hK
/-- Two links held against each other. -/
theorem exec_eqlk {o : Oper} {a : Act} {x y : Operand} {T2 : TypeId} {A B : Array Value} {r : Bool} {w : World} (ho : o.op = .binOp .eql 57 x y T2) (hx : a.eval x = .agg A) (hy : a.eval y = .agg B) (he : (Op.equalIn 10000 57 (.agg A) (.agg B)).run Tryz.prog w = .ok r w) : (execOp a.eval o).run Tryz.prog w = .ok (.value (.bool r)) w := by
  unfold execOp
  simp only [ho, Sem.run_bind, hx, hy, run_eqGuard_agg w _ 57 x y A B eqg, run_eql_struct, he, Result.andThen_ok]
  rfl
theorem exec_nelk {o : Oper} {a : Act} {x y : Operand} {T2 : TypeId} {A B : Array Value} {r : Bool} {w : World} (ho : o.op = .binOp .neq 57 x y T2) (hx : a.eval x = .agg A) (hy : a.eval y = .agg B) (he : (Op.equalIn 10000 57 (.agg A) (.agg B)).run Tryz.prog w = .ok r w) : (execOp a.eval o).run Tryz.prog w = .ok (.value (.bool (!r))) w := by
  unfold execOp
  simp only [ho, Sem.run_bind, hx, hy, run_eqGuard_agg w _ 57 x y A B eqg, run_neq_struct, he, Result.andThen_ok]
  rfl
theorem wpList_eqlk {ops : Array Oper} {rest : List Oper} {o : Oper} {a : Act} {Q : Exit → Act → World → Prop} {w : World} {x y : Operand} {T2 : TypeId} (hgd : Region.wanted o (yielded ops a.tmps) = true) (ho : o.op = .binOp .eql 57 x y T2) (A B : Array Value) (r : Bool)
    (hx : a.eval x = .agg A) (hy : a.eval y = .agg B) (he : (Op.equalIn 10000 57 (.agg A) (.agg B)).run Tryz.prog w = .ok r w) (h : wpList Tryz.prog ops Q rest (a.put o.dst (.bool r)) w) : wpList Tryz.prog ops Q (o :: rest) a w := by
  refine wpList_wanted hgd fun K hK => ?_
  unfold Oper.wp
  rw [exec_eqlk ho hx hy he]
  exact hK _ _ h
theorem wpList_loadLk {ops : Array Oper} {rest : List Oper} {o : Oper} {a : Act} {Q : Exit → Act → World → Prop} {w : World} {p : Operand} (hgd : Region.wanted o (yielded ops a.tmps) = true) (ho : o.op = .load 57 p) (g : Nat) (cs : Array Value)
    (hp : a.eval p = .pointer (some ⟨g, 0, none⟩)) (hn : cs.size = 4) (hg : w.heap[g]? = some (.cells cs 57 (0, 0))) (h : wpList Tryz.prog ops Q rest (a.put o.dst (.agg cs)) w) : wpList Tryz.prog ops Q (o :: rest) a w := by
  refine wpList_wanted hgd fun K hK => ?_
  unfold Oper.wp execOp
  have hr : (Instr.loadAt 57 (.pointer (some ⟨g, 0, none⟩))).run Tryz.prog w = .ok (.agg cs) w := by
    simp only [Instr.loadAt, Instr.sureAddr, Sem.run_bind, Sem.run_pure, Result.andThen]
    exact run_loadVar_row (P := Tryz.prog) w g 57 57 cs (0, 0) _ hg Tryz.underlying57 rfl (by rw [hn]; exact info61)
  simp only [ho, Sem.run_bind, hp, hr, Result.andThen_ok]
  exact hK _ _ h

set_option maxRecDepth 1000000 in
theorem old_any (w : World) (s : ByteArray) : Calls Tryz.prog 124 #[.string s] w fun e w' => e = .returned (.agg #[.int .i64 0, .int .u64 112, .int .u64 18, .string s]) ∧ Below w.heap.size w w' := by
  go_enter Tryz.func124, Tryz.ntmps124
  go_wp2_with fail
  exact bodyPost_ret (v := .agg #[.int .i64 0, .int .u64 112, .int .u64 18, .string s]) ((results_one (p := 2) (ty := 57) rfl _ _ _).trans (by go_simp; first | done | rfl)) rfl ⟨rfl, below_alloc4 w _⟩
end
section
open Go.ChangeShapes Go.WideShapes Go.ChangeAt Go.RowKit Go.Deep Go.Joins Go
/-- A value, plainly: kind, flag, sign, number, a float's bits, text, bytes, link, keys, items. -/
inductive Tv where
  | mk (k : Int) (f g : Bool) (n b : Nat) (s : ByteArray) (y : List Nat) (l : Lk) (ks : List ByteArray) (is : List Tv)
def Tv.k : Tv → Int | .mk k _ _ _ _ _ _ _ _ _ => k
def Tv.f : Tv → Bool | .mk _ f _ _ _ _ _ _ _ _ => f
def Tv.g : Tv → Bool | .mk _ _ g _ _ _ _ _ _ _ => g
def Tv.n : Tv → Nat | .mk _ _ _ n _ _ _ _ _ _ => n
def Tv.b : Tv → Nat | .mk _ _ _ _ b _ _ _ _ _ => b
def Tv.s : Tv → ByteArray | .mk _ _ _ _ _ s _ _ _ _ => s
def Tv.y : Tv → List Nat | .mk _ _ _ _ _ _ y _ _ _ => y
def Tv.l : Tv → Lk | .mk _ _ _ _ _ _ _ l _ _ => l
def Tv.ks : Tv → List ByteArray | .mk _ _ _ _ _ _ _ _ ks _ => ks
def Tv.is : Tv → List Tv | .mk _ _ _ _ _ _ _ _ _ is => is
theorem Tv.is_lt {t u : Tv} (h : u ∈ t.is) : SizeOf.sizeOf u < SizeOf.sizeOf t := by
  obtain ⟨k, f, g, n, b, s, y, l, ks, is⟩ := t
  have h1 := List.sizeOf_lt_of_mem h
  simp only [Tv.is] at h1
  simp only [Tv.mk.sizeOf_spec]
  omega
/-- A value's cells. -/
def vcs (t : Tv) (vy vk vi : Value) : Array Value :=
  #[.int .i64 t.k, .bool t.f, .bool t.g, .int .u64 (t.n : Nat), .int .u64 (t.b : Nat), .string t.s, vy, .int .i64 t.l.v, .int .u64 (t.l.c : Nat), .int .u64 (t.l.h : Nat), .string (nstr t.l.d), vk, vi]
/-- A slice of strings, plainly. -/
structure SSl (w : World) (v : Value) (ks : List ByteArray) : Prop where
  form : ∃ a cap, v = .slice a ks.length cap ∧ (ks.length ≤ cap ∧ (a = none → cap = 0)) ∧ (ks = [] ∨ ∃ b off, a = some ⟨b, off, none⟩ ∧ ∀ j s, ks[j]? = some s → w.cell? ⟨b, off + j, none⟩ = some (.string s))
  max : ks.length ≤ 140737488351232
  size : ∀ s ∈ ks, s.size ≤ 140737488351232
theorem SSl.move {w w' : World} {v : Value} {ks : List ByteArray} (h : SSl w v ks) (hm : ∀ p u, w.cell? p = some u → w'.cell? p = some u) : SSl w' v ks := by
  obtain ⟨⟨a, c, hv, hn, hc⟩, h1, h2⟩ := h
  refine ⟨⟨a, c, hv, hn, ?_⟩, h1, h2⟩
  rcases hc with hc | ⟨b, off, ha, hc⟩
  · exact .inl hc
  · exact .inr ⟨b, off, ha, fun j s hj => hm _ _ (hc j s hj)⟩
/-- A value in memory: these cells read as this value. -/
inductive Tin (w : World) : Tv → Array Value → Prop
  | mk (t : Tv) (vy vk : Value) (a : Option Addr) (cap : Nat) (cs : Nat → Array Value) (hn : t.n < 18446744073709551616) (hb : t.b < 18446744073709551616) (hs : t.s.size ≤ 140737488351232) (hy : BSl w vy t.y) (hyl : t.y.length ≤ 140737488351232) (hl : Lkb t.l) (hld : t.l.d.length ≤ 140737488351232) (hk : SSl w vk t.ks)
      (hc : t.is.length ≤ cap ∧ (a = none → cap = 0)) (hm : t.is.length ≤ 140737488351232) (hi : ∀ i u, t.is[i]? = some u → Tin w u (cs i))
      (ha : t.is = [] ∨ ∃ b off, a = some ⟨b, off, none⟩ ∧ ∀ i, i < t.is.length → ∀ j u, (cs i)[j]? = some u → w.cell? ⟨b, off + i * 13 + j, none⟩ = some u) : Tin w t (vcs t vy vk (.slice a t.is.length cap))
theorem Tin.move {w w' : World} {t : Tv} {cs : Array Value} (h : Tin w t cs) (hm : ∀ p u, w.cell? p = some u → w'.cell? p = some u) : Tin w' t cs := by
  induction h with
  | mk t vy vk a cap cs hn hb hs hy hyl hl hld hk hc hmm hi ha ih =>
    refine Tin.mk t vy vk a cap cs hn hb hs (hy.move hm) hyl hl hld (hk.move hm) hc hmm ih ?_
    rcases ha with ha | ⟨b, off, e, ha⟩
    · exact .inl ha
    · exact .inr ⟨b, off, e, fun i hi j u hu => hm _ _ (ha i hi j u hu)⟩
/-- A slice of values. -/
structure VSl (w : World) (v : Value) (is : List Tv) : Prop where
  form : ∃ a cap, v = .slice a is.length cap ∧ (is.length ≤ cap ∧ (a = none → cap = 0)) ∧ (is = [] ∨ ∃ b off, a = some ⟨b, off, none⟩ ∧ ∀ i t, is[i]? = some t → ∃ cs, Tin w t cs ∧ ∀ j u, cs[j]? = some u → w.cell? ⟨b, off + i * 13 + j, none⟩ = some u)
  max : is.length ≤ 140737488351232
theorem VSl.move {w w' : World} {v : Value} {is : List Tv} (h : VSl w v is) (hm : ∀ p u, w.cell? p = some u → w'.cell? p = some u) : VSl w' v is := by
  obtain ⟨⟨a, c, hv, hn, hc⟩, h1⟩ := h
  refine ⟨⟨a, c, hv, hn, ?_⟩, h1⟩
  rcases hc with hc | ⟨b, off, ha, hc⟩
  · exact .inl hc
  · exact .inr ⟨b, off, ha, fun i t hi => by
      obtain ⟨cs, h1, h2⟩ := hc i t hi
      exact ⟨cs, h1.move hm, fun j u hu => hm _ _ (h2 j u hu)⟩⟩
/-- The bounds of a value's own fields. -/
structure Tbd (t : Tv) : Prop where
  n : t.n < 18446744073709551616
  b : t.b < 18446744073709551616
  s : t.s.size ≤ 140737488351232
  y : t.y.length ≤ 140737488351232
  l : Lkb t.l
  d : t.l.d.length ≤ 140737488351232
/-- A value's parts. -/
theorem Tin.parts {w : World} {t : Tv} {c : Array Value} (h : Tin w t c) : ∃ vy vk vi, c = vcs t vy vk vi ∧ BSl w vy t.y ∧ SSl w vk t.ks ∧ VSl w vi t.is ∧ Tbd t := by
  cases h with
  | mk _ vy vk a cap cs hn hb hs hy hyl hl hld hk hc hm hi ha =>
    refine ⟨vy, vk, _, rfl, hy, hk, ⟨⟨a, cap, rfl, hc, ?_⟩, hm⟩, ⟨hn, hb, hs, hyl, hl, hld⟩⟩
    rcases ha with ha | ⟨b, off, e, ha⟩
    · exact .inl ha
    · refine .inr ⟨b, off, e, fun i t' hi' => ⟨cs i, hi i t' hi', fun j u hu => ha i ?_ j u hu⟩⟩
      exact (List.getElem?_eq_some_iff.1 hi').1
theorem Tin.of {w : World} {t : Tv} {vy vk vi : Value} (hy : BSl w vy t.y) (hk : SSl w vk t.ks) (hv : VSl w vi t.is) (h : Tbd t) : Tin w t (vcs t vy vk vi) := by
  obtain ⟨hn, hb, hs, hyl, hl, hld⟩ := h
  obtain ⟨⟨a, cap, rfl, hc, ha⟩, hm⟩ := hv
  rcases ha with ha | ⟨b, off, e, ha⟩
  · exact Tin.mk t vy vk a cap (fun _ => #[]) hn hb hs hy hyl hl hld hk hc hm (fun i u hu => by rw [ha] at hu; simp at hu) (.inl ha)
  · have hx : ∀ i, ∃ cs : Array Value, ∀ t', t.is[i]? = some t' → Tin w t' cs ∧ ∀ j u, cs[j]? = some u → w.cell? ⟨b, off + i * 13 + j, none⟩ = some u := fun i => by
      cases hi : t.is[i]? with
      | none => exact ⟨#[], fun t' h => by cases h⟩
      | some t' =>
        obtain ⟨cs, h1, h2⟩ := ha i t' hi
        exact ⟨cs, fun t'' h => by injection h with h; subst h; exact ⟨h1, h2⟩⟩
    refine Tin.mk t vy vk a cap (fun i => Classical.choose (hx i)) hn hb hs hy hyl hl hld hk hc hm (fun i u hu => (Classical.choose_spec (hx i) u hu).1) (.inr ⟨b, off, e, fun i hi j u hu => ?_⟩)
    exact (Classical.choose_spec (hx i) t.is[i] (List.getElem?_eq_getElem hi)).2 j u hu
end
section
open Go.RowKit Go
mutual
/-- How many parts a value has. -/
def tmuch : Tv → Nat
  | .mk _ _ _ _ _ s y l ks is => 1 + ks.length + y.length / 64 + s.size / 64 + l.d.length / 64 + (ks.map fun k => k.size / 64).sum + tmuchL is
def tmuchL : List Tv → Nat
  | [] => 0
  | t :: r => tmuch t + tmuchL r
end
theorem tmuchL_app : ∀ (a b : List Tv), tmuchL (a ++ b) = tmuchL a + tmuchL b
  | [], b => by simp [tmuchL]
  | t :: a, b => by rw [List.cons_append, tmuchL, tmuchL, tmuchL_app a b]; omega
theorem tmuch_eq (t : Tv) : tmuch t = 1 + t.ks.length + t.y.length / 64 + t.s.size / 64 + t.l.d.length / 64 + (t.ks.map fun k => k.size / 64).sum + tmuchL t.is := by
  obtain ⟨k, f, g, n, b, s, y, l, ks, is⟩ := t
  rw [tmuch]
  rfl
theorem infoV : (Tryz.prog.info? 61).map (·.size) = some 13 := by kernel_rfl
/-- A value somewhere in a block. -/
theorem load_val {w : World} (g o : Nat) (cs : Array Value) (hn : cs.size = 13) (hc : ∀ j u, cs[j]? = some u → w.cell? ⟨g, o + j, none⟩ = some u) : (Instr.loadAt 61 (.pointer (some ⟨g, o, none⟩))).run Tryz.prog w = .ok (.agg cs) w := by
  have hl := run_loadCells_list (P := Tryz.prog) (w := w) ⟨g, o, none⟩ cs.toList (fun j v hv => by rw [addr_add]; exact hc j v (by simpa using hv))
  have hi := infoV
  simp only [Instr.loadAt, Instr.sureAddr, Sem.run_bind, Sem.run_pure, Result.andThen]
  cases hq : Tryz.prog.info? 61 with
  | none => simp [hq] at hi
  | some i =>
    have hs : i.size = 13 := by simpa [hq] using hi
    have hn2 : cs.toList.length = 13 := by simpa using hn
    rw [hn2] at hl
    have ha : (isAgg 61).run Tryz.prog w = .ok true w := by
      unfold isAgg
      rw [Sem.run_bind, run_underlying Tryz.underlying61 w]
      simp
    simp [loadVar, ha, sizeOf, typeInfo, hq, hs, hl]
theorem wpList_valAt {ops : Array Oper} {rest : List Oper} {o : Oper} {a : Act} {Q : Exit → Act → World → Prop} {w : World} {p : Operand} (hgd : Region.wanted o (yielded ops a.tmps) = true) (ho : o.op = .load 61 p) (g off : Nat) (cs : Array Value)
    (hp : a.eval p = .pointer (some ⟨g, off, none⟩)) (hn : cs.size = 13) (hc : ∀ j u, cs[j]? = some u → w.cell? ⟨g, off + j, none⟩ = some u)
    (h : wpList Tryz.prog ops Q rest (a.put o.dst (.agg cs)) w) : wpList Tryz.prog ops Q (o :: rest) a w := by
  refine wpList_wanted hgd fun K hK => ?_
  unfold Oper.wp execOp
  simp only [ho, Sem.run_bind, hp, load_val g off cs hn hc, Result.andThen_ok]
  exact hK _ _ h
end
section
open Go.RowKit Go
theorem tmuchL_take_le (l : List Tv) (i : Nat) : tmuchL (l.take i) ≤ tmuchL l := by
  have h := tmuchL_app (l.take i) (l.drop i)
  rw [List.take_append_drop] at h
  omega
end
section
open Go.RowKit Go
/-- Texts as cells. -/
def sv (ks : List ByteArray) : List Value := ks.map fun s => .string s
theorem sv_get {ks : List ByteArray} {j : Nat} {s : ByteArray} (h : ks[j]? = some s) : (sv ks)[j]? = some (.string s) := by simp [sv, h]
theorem info9_ex : ∃ i, Tryz.prog.info? 9 = some i ∧ i.zero = some (.string ⟨#[]⟩) ∧ i.size = 1 ∧ i.bytes = 16 := by
  have h : (Tryz.prog.info? 9).map (fun i => (i.zero, i.size, i.bytes)) = some (some (.string ⟨#[]⟩), 1, 16) := by kernel_rfl
  cases hi : Tryz.prog.info? 9 with
  | none => rw [hi] at h; cases h
  | some i =>
    rw [hi] at h
    injection h with h
    injection h with h1 h2
    injection h2 with h2 h3
    exact ⟨i, rfl, h1, h2, h3⟩
def mk9 : ByteArray := ⟨#[109, 97, 114, 107]⟩
end
section
open Go.RowKit Go

end
section
open Go.RowKit Go
/-- The cells of values in a row. -/
def vfl (l : List (Array Value)) : List Value := l.flatMap (·.toList)
theorem vfl_app (a b : List (Array Value)) : vfl (a ++ b) = vfl a ++ vfl b := by simp [vfl]
theorem vfl_len : ∀ {l : List (Array Value)}, (∀ c ∈ l, c.size = 13) → (vfl l).length = l.length * 13
  | [], _ => rfl
  | c :: l, h => by
    have h1 := vfl_len (l := l) (fun d hd => h d (List.mem_cons_of_mem _ hd))
    have h2 := h c (List.mem_cons_self ..)
    have e : vfl (c :: l) = c.toList ++ vfl l := by simp [vfl]
    rw [e, List.length_append, h1, List.length_cons, Array.length_toList, h2]
    omega
theorem vfl_get : ∀ {l : List (Array Value)}, (∀ c ∈ l, c.size = 13) → ∀ (k : Nat) (c : Array Value) (j : Nat) (u : Value), l[k]? = some c → c[j]? = some u → (vfl l)[k * 13 + j]? = some u
  | [], _, k, c, j, u, h, _ => by simp at h
  | d :: l, hs, 0, c, j, u, h, hu => by
    simp at h
    subst h
    have e : vfl (d :: l) = d.toList ++ vfl l := by simp [vfl]
    have hj : j < d.size := (Array.getElem?_eq_some_iff.1 hu).1
    rw [e, List.getElem?_append_left (by simpa using hj)]
    simpa using hu
  | d :: l, hs, k + 1, c, j, u, h, hu => by
    simp at h
    have e : vfl (d :: l) = d.toList ++ vfl l := by simp [vfl]
    have h13 : d.toList.length = 13 := by rw [Array.length_toList]; exact hs d (List.mem_cons_self ..)
    rw [e, List.getElem?_append_right (by omega)]
    have e2 : (k + 1) * 13 + j - d.toList.length = k * 13 + j := by omega
    rw [e2]
    exact vfl_get (fun d hd => hs d (List.mem_cons_of_mem _ hd)) k c j u h hu
/-- The zero value's cells, and those of a mark. -/
def zv : Array Value := #[.int .i64 0, .bool false, .bool false, .int .u64 0, .int .u64 0, .string ⟨#[]⟩, .slice none 0 0, .int .i64 0, .int .u64 0, .int .u64 0, .string ⟨#[]⟩, .slice none 0 0, .slice none 0 0]
def mv : Array Value := #[.int .i64 777, .bool false, .bool false, .int .u64 0, .int .u64 0, .string ⟨#[]⟩, .slice none 0 0, .int .i64 0, .int .u64 0, .int .u64 0, .string ⟨#[]⟩, .slice none 0 0, .slice none 0 0]
theorem infoV_ex : ∃ i, Tryz.prog.info? 61 = some i ∧ i.zero = some (.agg zv) ∧ i.size = 13 ∧ i.bytes = 160 := by
  have h : (Tryz.prog.info? 61).map (fun i => (i.zero, i.size, i.bytes)) = some (some (.agg zv), 13, 160) := by kernel_rfl
  cases hi : Tryz.prog.info? 61 with
  | none => rw [hi] at h; cases h
  | some i =>
    rw [hi] at h
    injection h with h
    injection h with h1 h2
    injection h2 with h2 h3
    exact ⟨i, rfl, h1, h2, h3⟩
/-- Cells that lie in a row of values: each one cell. -/
def one13 (c : Array Value) : Prop := c.size = 13 ∧ ∀ u ∈ c.toList, u.oneCell' = true
theorem fill_one (c cells : Array Value) (h : c.size = 13) (hc : cells.size = 13) : Instr.fill (fun i => some (i * 13, 13)) cells [(0, .agg c)] = some c := by
  obtain ⟨r, hr, hsz, hk⟩ := Great.fill_dense (s := 13) (by decide) [.agg c] 0 cells (by
    intro v hv
    simp only [List.mem_singleton] at hv
    subst hv
    simpa [Value.cells] using h) (by simp; omega)
  have e : r = c := by
    apply Array.ext_getElem?
    intro k
    rw [hk k]
    by_cases h1 : k < 13
    · rw [if_pos ⟨by omega, by simp; omega⟩]
      simp [Value.cells, Nat.div_eq_of_lt h1, Nat.mod_eq_of_lt h1]
    · rw [if_neg (by simp; omega), Array.getElem?_eq_none (by omega), Array.getElem?_eq_none (by omega)]
  rw [e] at hr
  exact hr
theorem wpList_val1 {ops : Array Oper} {rest : List Oper} {o : Oper} {a : Act} {w : World} {Q : Exit → Act → World → Prop} {x0 : Operand} (hg : o.guard = none) (ho : o.op = .buildSlice 59 1 #[(0, x0)]) (c : Array Value) (hc : c.size = 13)
    (h0 : a.eval x0 = .agg c)
    (h : wpList Tryz.prog ops Q rest (a.put o.dst (.slice (some ⟨w.heap.size, 0, none⟩) 1 1)) (w.alloc (.cells c 61))) : wpList Tryz.prog ops Q (o :: rest) a w := by
  obtain ⟨i, hi, hz, hs, _⟩ := infoV_ex
  refine wpList_buildSlice hg 59 61 1 _ ho c i _ Tryz.underlying59 hi hz (by rw [hs]; decide) (by rw [hs]; decide) ?_ h
  rw [hs]
  have e : ((#[(0, x0)] : Array (Nat × Operand)).map fun (i, x) => (i, a.eval x)).toList = [(0, .agg c)] := by simp [h0]
  rw [e]
  exact fill_one c _ hc (by simp)
/-- append of one value. -/
theorem append_val {ops : Array Oper} {rest : List Oper} {o : Oper} {a : Act} {Q : Exit → Act → World → Prop} {w : World} (hgd : o.guard = none) (s x : Operand)
    (ho : o.op = .call { callee := .builtin .append, args := #[s, x], argTypes := #[59, 59] }) (B : Nat) (v : Value) (n : Nat) (ds : List Value) (hs : a.eval s = v) (hown : w.ownsRow B 61 13 v n ds)
    (g : Nat) (c : Array Value) (h13 : one13 c) (hx : a.eval x = .slice (some ⟨g, 0, none⟩) 1 1) (hg : w.heap[g]? = some (.cells c 61 (0, 0))) (hlen : n < 1099511627) (hbase : B ≤ w.heap.size)
    (h : ∀ v' w', w'.ownsRow B 61 13 v' (n + 1) (ds ++ c.toList) → w.grownBy w' v.ownBlock → (v'.ownBlock = v.ownBlock ∨ v'.ownBlock = some w.heap.size) → wpList Tryz.prog ops Q rest (a.put o.dst v') w') : wpList Tryz.prog ops Q (o :: rest) a w := by
  obtain ⟨i, hi, hz0, hz1, hz2⟩ := infoV_ex
  refine wpList_append_own_at w hgd s x 59 ho B 61 i _ 13 160 Tryz.underlying59 hi hz0 hz1 hz2 rfl (by decide) v n ds hs hown ⟨g, 0, none⟩ 1 1 c.toList hx (by rw [Array.length_toList, h13.1]) (fun j u hu => ?_) h13.2 (by unfold maxLen; omega) (by omega) hbase fun v' w' h1 h2 _ h4 => h v' w' h1 h2 ?_
  · have hadd : (⟨g, 0, none⟩ : Addr).add j = ⟨g, j, none⟩ := by unfold Addr.add; split <;> simp_all
    rw [hadd]
    exact blk_cell hg (by simpa using hu)
  · exact h4
/-- A value lent: each of its rows lies in blocks of its own from lo on and below hi, with marks behind it. -/
inductive Ltv (w : World) (lo hi : Nat) : Tv → Array Value → Prop
  | mk (t : Tv) (gy cy gk ck gi ci : Nat) (L : List (Array Value)) (hbd : Tbd t) (hy : Lnt w lo gy cy t.y) (hgy : gy < hi) (hk : w.ownsRow lo 9 1 (.slice (some ⟨gk, 0, none⟩) (t.ks.length + 9) ck) (t.ks.length + 9) (sv (t.ks ++ List.replicate 9 mk9))) (hgk : gk < hi) (hkl : t.ks.length ≤ 100000) (hks : ∀ s ∈ t.ks, s.size ≤ 140737488351232)
      (hv : w.ownsRow lo 61 13 (.slice (some ⟨gi, 0, none⟩) (t.is.length + 9) ci) (t.is.length + 9) (vfl (L ++ List.replicate 9 mv))) (hgi : gi < hi) (hil : t.is.length ≤ 100000) (hL : L.length = t.is.length) (h13 : ∀ c ∈ L, c.size = 13) (hcs : ∀ (i : Nat) (u : Tv) (c : Array Value), t.is[i]? = some u → L[i]? = some c → Ltv w lo hi u c) :
      Ltv w lo hi t (vcs t (.slice (some ⟨gy, 0, none⟩) t.y.length cy) (.slice (some ⟨gk, 0, none⟩) t.ks.length ck) (.slice (some ⟨gi, 0, none⟩) t.is.length ci))
theorem Ltv.size {w : World} {lo hi : Nat} {t : Tv} {c : Array Value} (h : Ltv w lo hi t c) : c.size = 13 := by
  cases h
  rfl
theorem Lnt.mono {w : World} {b b' g cap : Nat} {xs : List Nat} (h : Lnt w b g cap xs) (hb : b' ≤ b) : Lnt w b' g cap xs := ⟨own_mono h.own hb, h.byte, h.len⟩
theorem Ltv.mono {w : World} {lo hi lo' hi' : Nat} {t : Tv} {c : Array Value} (h : Ltv w lo hi t c) (h1 : lo' ≤ lo) (h2 : hi ≤ hi') : Ltv w lo' hi' t c := by
  induction h with
  | mk t gy cy gk ck gi ci L hbd hy hgy hkk hgk hkl hks hv hgi hil hL h13 _ ih =>
    exact Ltv.mk t gy cy gk ck gi ci L hbd (hy.mono h1) (by omega) (own_mono hkk h1) (by omega) hkl hks (own_mono hv h1) (by omega) hil hL h13 ih
/-- A cell of a value in a row of the call's own. -/
theorem own_val {w : World} {B g n m cap k : Nat} {l : List (Array Value)} {c : Array Value} (h : w.ownsRow B 61 13 (.slice (some ⟨g, 0, none⟩) m cap) n (vfl l)) (hl : ∀ c ∈ l, c.size = 13) (hk : l[k]? = some c) : ∀ j u, c[j]? = some u → w.cell? ⟨g, k * 13 + j, none⟩ = some u := fun j u hu => by
  have := h.cells (g := g) rfl (k * 13 + j) u (vfl_get hl k c j u hk hu)
  have hadd : (⟨g, 0, none⟩ : Addr).add (k * 13 + j) = ⟨g, k * 13 + j, none⟩ := by unfold Addr.add; split <;> simp_all
  rw [hadd] at this
  exact this
end
section
open Go.RowKit Go
/-- A row of texts that lies in blocks of its own reads as these texts, whatever became of the rest. -/
theorem SSl.own {w : World} {base n : Nat} {v : Value} {ks : List ByteArray} (h : w.ownsRow base 9 1 v n (sv ks)) (hn : n = ks.length) (hm : ks.length ≤ 140737488351232) (hs : ∀ s ∈ ks, s.size ≤ 140737488351232) : SSl w v ks := by
  subst hn
  rcases id h.2 with ⟨hv, he⟩ | ⟨g, cap, cur, hv, _, _, h1, _⟩
  · subst hv
    have e : ks = [] := List.length_eq_zero_iff.1 he
    subst e
    exact ⟨⟨none, 0, rfl, ⟨by simp, fun _ => rfl⟩, .inl rfl⟩, hm, hs⟩
  · subst hv
    refine ⟨⟨_, cap, rfl, ⟨by omega, fun h => by cases h⟩, .inr ⟨g, 0, rfl, fun j s hj => ?_⟩⟩, hm, hs⟩
    rw [Nat.zero_add]
    exact (own_cell h (sv_get hj)).1
end
section
open Go.RowKit Go
/-- A value in new memory: each of its rows lies in blocks of its own from lo on and below hi. -/
inductive Ntv (w : World) (lo hi : Nat) : Tv → Array Value → Prop
  | mk (t : Tv) (vy vk vi : Value) (L : List (Array Value)) (hbd : Tbd t) (hyb : ∀ x ∈ t.y, x < 256) (hy : w.ownsRow lo 5 1 vy t.y.length (bv t.y)) (hgy : ∀ q, vy.ownBlock = some q → q < hi) (hk : w.ownsRow lo 9 1 vk t.ks.length (sv t.ks)) (hgk : ∀ q, vk.ownBlock = some q → q < hi) (hkl : t.ks.length ≤ 140737488351232) (hks : ∀ s ∈ t.ks, s.size ≤ 140737488351232)
      (hv : w.ownsRow lo 61 13 vi t.is.length (vfl L)) (hgi : ∀ q, vi.ownBlock = some q → q < hi) (hil : t.is.length ≤ 140737488351232) (hL : L.length = t.is.length) (h13 : ∀ c ∈ L, c.size = 13) (hcs : ∀ (i : Nat) (u : Tv) (c : Array Value), t.is[i]? = some u → L[i]? = some c → Ntv w lo hi u c) :
      Ntv w lo hi t (vcs t vy vk vi)
theorem own_one1 {w : World} {B e s n : Nat} {v : Value} {xs : List Value} (h : w.ownsRow B e s v n xs) : v.oneCell' = true := by
  rcases h.2 with ⟨e, _⟩ | ⟨g, c, cur, e, _⟩ <;> (rw [e]; rfl)
theorem Ntv.size {w : World} {lo hi : Nat} {t : Tv} {c : Array Value} (h : Ntv w lo hi t c) : c.size = 13 := by
  cases h
  rfl
theorem Ntv.one {w : World} {lo hi : Nat} {t : Tv} {c : Array Value} (h : Ntv w lo hi t c) : one13 c := by
  cases h with
  | mk _ vy vk vi L hbd hyb hy hgy hk hgk hkl hks hv hgi hil hL h13 hcs =>
  refine ⟨rfl, fun u hu => ?_⟩
  simp only [vcs, List.mem_cons, List.not_mem_nil, or_false] at hu
  rcases hu with rfl | rfl | rfl | rfl | rfl | rfl | rfl | rfl | rfl | rfl | rfl | rfl | rfl <;> first | rfl | exact own_one1 hy | exact own_one1 hk | exact own_one1 hv
theorem Ntv.mono {w : World} {lo hi lo' hi' : Nat} {t : Tv} {c : Array Value} (h : Ntv w lo hi t c) (h1 : lo' ≤ lo) (h2 : hi ≤ hi') : Ntv w lo' hi' t c := by
  induction h with
  | mk t vy vk vi L hbd hyb hy hgy hkk hgk hkl hks hv hgi hil hL h13 _ ih =>
    exact Ntv.mk t vy vk vi L hbd hyb (own_mono hy h1) (fun q hq => Nat.lt_of_lt_of_le (hgy q hq) h2) (own_mono hkk h1) (fun q hq => Nat.lt_of_lt_of_le (hgk q hq) h2) hkl hks (own_mono hv h1) (fun q hq => Nat.lt_of_lt_of_le (hgi q hq) h2) hil hL h13 ih
theorem Ntv.tin {w : World} {lo hi : Nat} {t : Tv} {c : Array Value} (h : Ntv w lo hi t c) : Tin w t c := by
  induction h with
  | mk t vy vk vi L hbd hyb hy hgy hkk hgk hkl hks hv hgi hil hL h13 _ ih =>
    refine Tin.of (BSl.own hy hyb) (SSl.own hkk rfl hkl hks) ?_ hbd
    rcases id hv.2 with ⟨e, h0⟩ | ⟨g, cap, cur, e, _, _, h1, _⟩
    · subst e
      have e2 : t.is = [] := List.length_eq_zero_iff.1 h0
      refine ⟨⟨none, 0, by rw [h0], ⟨by omega, fun _ => rfl⟩, .inl e2⟩, hil⟩
    · subst e
      refine ⟨⟨_, cap, rfl, ⟨by omega, fun h => by cases h⟩, .inr ⟨g, 0, rfl, fun i u hu => ?_⟩⟩, hil⟩
      have hil2 := (List.getElem?_eq_some_iff.1 hu).1
      have hc : L[i]? = some (L[i]'(by omega)) := List.getElem?_eq_getElem (by omega)
      refine ⟨_, ih i u _ hu hc, fun j v hj => ?_⟩
      rw [Nat.zero_add]
      exact own_val hv h13 hc j v hj
end
section
open Go.RowKit Go
theorem tmuchL_mem : ∀ {l : List Tv} {t : Tv}, t ∈ l → tmuch t ≤ tmuchL l
  | [], _, h => by cases h
  | u :: r, t, h => by
    rw [tmuchL]
    rcases List.mem_cons.1 h with h | h
    · subst h
      omega
    · have := tmuchL_mem h
      omega
theorem tmuchL_len : ∀ l : List Tv, l.length ≤ tmuchL l
  | [] => by simp
  | u :: r => by
    have := tmuchL_len r
    have := tmuch_eq u
    rw [tmuchL, List.length_cons]
    omega
end
section
open Go.RowKit Go

end
section
open Go.RowKit Go

end
section
open Go.RowKit Go
theorem own_slice {w : World} {B e s n : Nat} {v : Value} {xs : List Value} (h : w.ownsRow B e s v n xs) : ∃ a c, v = .slice a n c := by
  rcases h.2 with ⟨e, h0⟩ | ⟨g, c, cur, e, _⟩
  · exact ⟨none, 0, by rw [e, h0]⟩
  · exact ⟨_, c, e⟩
end
section
open Go.RowKit
/-- What a call that hands a list to the book leaves. -/
def BkP (F : Knd) (J : Nat) (w : World) (base B : Nat) (C : Array Value) (vb vo : Value) (es : List Ent) (a t u : Nat) (l : Value) (w' : World) : Prop :=
  ∃ vb' vo' es' u' C', w'.heap[B]? = some (.cells C' 45 (0, 0)) ∧ Chg (fun k => k = J ∨ k = J + 1 ∨ k = 54 ∨ k = 56) C C' ∧ C'[J]? = some vb' ∧ C'[J + 1]? = some vo' ∧ C'[54]? = some (.int .i64 ((t + 1 : Nat) : Int)) ∧ C'[56]? = some (.int .i64 (u' : Nat)) ∧ Ko F w' base vb' vo' es' a (t + 1) u' ∧ u ≤ u' ∧ u' ≤ 16777216 ∧
    Kp (fun k => k = B ∨ vb.ownBlock = some k ∨ vo.ownBlock = some k ∨ l.ownBlock = some k) w w' ∧ ∀ k, Fut vb' vo' es' k → Fut vb vo es k ∨ l.ownBlock = some k ∨ w.heap.size ≤ k
/-- The list is full of its mark; there is no room for it. -/
theorem BkP.full {F : Knd} (hF : F.Ok) {J : Nat} {w wr : World} {base B : Nat} {C : Array Value} {vb vo : Value} {es : List Ent} {a t u : Nat} {l : Value} {n : Nat} {xs : List Value} (hB : w.heap[B]? = some (.cells C 45 (0, 0))) (hJ0 : C[J]? = some vb) (hJ1 : C[J + 1]? = some vo) (h56 : C[56]? = some (.int .i64 (u : Nat))) (hJ : J + 1 < 54) (h57 : C.size = 57) (hK : Ko F w base vb vo es a t u) (hl : w.ownsRow base F.te F.s l n xs)
    (hd : ∀ e ∈ es, ∀ k, e.val.ownBlock = some k → l.ownBlock ≠ some k) (hu : u ≤ 16777216) (hr : wr.heap[B]? = some (.cells (C.setIfInBounds 54 (.int .i64 ((t + 1 : Nat) : Int))) 45 (0, 0))) (hk : Kp (fun k => k = B ∨ l.ownBlock = some k) w wr) : BkP F J w base B C vb vo es a t u l wr := by
  refine ⟨vb, vo, es, u, _, hr, (Chg.set C 54 _).trans (Chg.refl (fun _ => False) _) (fun k e => .inr (.inr (.inl e))) (fun k e => e.elim), ?_, ?_, ?_, ?_, (hK.kp hk (fun k hf e => ?_)).more (by omega) (Nat.le_refl _), Nat.le_refl _, hu, hk.mono (fun k _ e => by rcases e with e | e; exact .inl e; exact .inr (.inr (.inr e))), fun k h => .inl h⟩
  · rw [get_set_ne (by omega)]; exact hJ0
  · rw [get_set_ne (by omega)]; exact hJ1
  · exact get_set (by omega)
  · rw [get_set_ne (by omega)]; exact h56
  · rcases e with e | e
    · exact hK.c.notB hF hB (by rw [← e]; exact hf)
    · rcases hf with h | h | ⟨x, hx, h⟩
      · exact own_apart hK.c.hb hl hF.ne h e
      · exact own_apart hK.c.ho hl (fun e => hF.e3 e.symm) h e
      · exact hd x hx k h e
/-- What the kind's rows are once the list is full of its mark. -/
theorem Kc.marked {F : Knd} (hF : F.Ok) {w wr : World} {base B : Nat} {C : Array Value} {vb vo : Value} {es : List Ent} {t : Nat} {l : Value} {n : Nat} {xs : List Value} (hB : w.heap[B]? = some (.cells C 45 (0, 0))) (hK : Kc F w base vb vo es t) (hl : w.ownsRow base F.te F.s l n xs)
    (hd : ∀ e ∈ es, ∀ k, e.val.ownBlock = some k → l.ownBlock ≠ some k) (hk : Kp (fun k => k = B ∨ l.ownBlock = some k) w wr) : Kc F wr base vb vo es t := hK.kp hk (fun k hf e => by
  rcases e with e | e
  · exact hK.notB hF hB (by rw [← e]; exact hf)
  · rcases hf with h | h | ⟨x, hx, h⟩
    · exact own_apart hK.hb hl hF.ne h e
    · exact own_apart hK.ho hl (fun e => hF.e3 e.symm) h e
    · exact hd x hx k h e)
/-- The list is kept. -/
theorem BkP.kept {F : Knd} {J : Nat} {w w2 w4 w6 : World} {base B : Nat} {C : Array Value} {vb vo v3 v5 : Value} {es : List Ent} {a t u U : Nat} {l : Value} {n : Nat} (hJ : J + 1 < 54) (h57 : C.size = 57) (hK : Ko F w base vb vo es a t u)
    (hd : ∀ e ∈ es, ∀ k, e.val.ownBlock = some k → l.ownBlock ≠ some k) (hn : n < 68719476736) (hu : U ≤ 16777216) (hU : u + F.cost ≤ U)
    (hk2 : Kp (fun k => k = B ∨ l.ownBlock = some k) w w2) (hk4 : Kp (fun q => q = B ∨ vb.ownBlock = some q) w2 w4) (hk6 : Kp (fun q => q = B ∨ vo.ownBlock = some q) w4 w6)
    (hB6 : w6.heap[B]? = some (.cells ((((C.setIfInBounds 54 (.int .i64 ((t + 1 : Nat) : Int))).setIfInBounds 56 (.int .i64 (U : Nat))).setIfInBounds J v3).setIfInBounds (J + 1) v5) 45 (0, 0))) (hc : Kc F w6 base v3 v5 (es ++ [⟨l, n, t + 1⟩]) (t + 1))
    (h3 : ∀ q, v3.ownBlock = some q → vb.ownBlock = some q ∨ w.heap.size ≤ q) (h5 : ∀ q, v5.ownBlock = some q → vo.ownBlock = some q ∨ w.heap.size ≤ q) : BkP F J w base B C vb vo es a t u l w6 := by
  refine ⟨v3, v5, es ++ [⟨l, n, t + 1⟩], U, _, hB6, ?_, ?_, ?_, ?_, ?_, hK.add hc hd hn hU, by omega, hu, (((hk2.mono (fun k _ e => by rcases e with e | e; exact .inl e; exact .inr (.inr (.inr e)))).trans hk4 (fun k _ e => by rcases e with e | e; exact .inl e; exact .inr (.inl e))).trans hk6 (fun k _ e => by rcases e with e | e; exact .inl e; exact .inr (.inr (.inl e)))), fun k hf => ?_⟩
  · refine ⟨by simp, fun k hk => ?_⟩
    rw [get_set_ne (fun e => hk (.inr (.inl e))), get_set_ne (fun e => hk (.inl e)), get_set_ne (fun e => hk (.inr (.inr (.inr e)))), get_set_ne (fun e => hk (.inr (.inr (.inl e))))]
  · rw [get_set_ne (by omega), get_set (by simp; omega)]
  · rw [get_set (by simp; omega)]
  · rw [get_set_ne (by omega), get_set_ne (by omega), get_set_ne (by omega), get_set (by omega)]
  · rw [get_set_ne (by omega), get_set_ne (by omega), get_set (by simp; omega)]
  · rcases hf with h | h | ⟨x, hx, h⟩
    · rcases h3 k h with e | e
      · exact .inl (.inl e)
      · exact .inr (.inr e)
    · rcases h5 k h with e | e
      · exact .inl (.inr (.inl e))
      · exact .inr (.inr e)
    · rcases List.mem_append.1 hx with hx | hx
      · exact .inl (.inr (.inr ⟨x, hx, h⟩))
      · simp at hx; subst hx; exact .inr (.inl h)

/-! ### Texts -/
def tmk (m : Nat) : ByteArray := nstr [atv m 0, atv m 1, 33]
def KT : Knd := ⟨58, 9, 1, 6, 8000, fun m _ => [.string (tmk m)]⟩
theorem KT_ok : KT.Ok := ⟨by decide, by decide, by decide, by decide, by decide⟩
theorem infoS_ex : ∃ i, Tryz.prog.info? 58 = some i ∧ i.zero = some (.slice none 0 0) ∧ i.size = 1 ∧ i.bytes = 24 := by
  have h : (Tryz.prog.info? 58).map (fun i => (i.zero, i.size, i.bytes)) = some (some (.slice none 0 0), 1, 24) := by kernel_rfl
  cases hi : Tryz.prog.info? 58 with
  | none => rw [hi] at h; cases h
  | some i => rw [hi] at h; simp at h; exact ⟨i, rfl, h.1, h.2.1, h.2.2⟩
theorem splice_one (ys : List Value) (k : Nat) (z : Value) (h : k < ys.length) : splice ys (k * 1) [z] = ys.set k z := by
  unfold splice
  rw [Nat.mul_one, List.set_eq_take_append_cons_drop, if_pos h]
  rfl
set_option maxRecDepth 1000000 in
set_option maxHeartbeats 400000 in
theorem textsMark_any (m : Int) (w : World) (h0 : 0 ≤ m) (h1 : m < 1099511627776) : Calls Tryz.prog 67 #[.int .i64 m] w fun e w' => e = .returned (.string (tmk m.toNat)) ∧ Below w.heap.size w w' := by
  have HA0 := hide (fun W => at_any m 0 W h0 h1 (by omega) (by omega))
  have HA1 := hide (fun W => at_any m 1 W h0 h1 (by omega) (by omega))
  go_enter Tryz.func67, Tryz.ntmps67
  go_wp2_with fail
  refine (HA0.out _).mono ?_
  rintro e w1 ⟨rfl, rfl⟩
  go_wp2_with fail
  refine (HA1.out _).mono ?_
  rintro e w1 ⟨rfl, rfl⟩
  have hb : ∀ x ∈ [atv m.toNat 0, atv m.toNat 1, 33], x < 256 := by
    intro x hx
    simp only [List.mem_cons, List.not_mem_nil, or_false] at hx
    rcases hx with rfl | rfl | rfl
    · unfold atv; split <;> omega
    · unfold atv; split <;> omega
    · decide
  have tx : (convert 46 9 (.slice (some ⟨w1.heap.size, 0, none⟩) 3 3)).run Tryz.prog (w1.alloc (.cells #[.int .u8 ((atv m.toNat 0 : Nat) : Int), .int .u8 ((atv m.toNat 1 : Nat) : Int), .int .u8 33] 5)) = .ok (.string (tmk m.toNat)) (w1.alloc (.cells #[.int .u8 ((atv m.toNat 0 : Nat) : Int), .int .u8 ((atv m.toNat 1 : Nat) : Int), .int .u8 33] 5)) :=
    (bsl_block (xs := [atv m.toNat 0, atv m.toNat 1, 33]) (heap_alloc_new w1 (.cells #[.int .u8 ((atv m.toNat 0 : Nat) : Int), .int .u8 ((atv m.toNat 1 : Nat) : Int), .int .u8 33] 5)) hb (by simp)).text
  have HBL := hide (below_alloc4 w1 (.cells #[.int .u8 ((atv m.toNat 0 : Nat) : Int), .int .u8 ((atv m.toNat 1 : Nat) : Int), .int .u8 33] 5))
  clear hb
  go_wp2_with fail
  go_ret
  exact ⟨rfl, HBL.out⟩
end
section
open Go.ChangeShapes Go.WideShapes Go.ChangeAt Go.RowKit Go.Deep Go.Joins Go
theorem Tryz.cells_int : Tryz.prog.cellsOf 3 = 1 := by kernel_rfl
section
variable {H : Type} {enc : TypeId × Value → H} {P : Program} {w : World} {base : Nat} {spare : Nat → Bool} {held : Bool}
end
end
section
open Go.ChangeShapes Go.WideShapes Go.ChangeAt Go.RowKit Go

end
section
open Go.ChangeShapes Go.WideShapes Go.ChangeAt Go.RowKit Go.Deep Go.Joins Go

end
section
open Go.RowKit Go

end
section
open Go.RowKit Go
/-- How a function ends whose first result is a struct. -/
theorem end_c2 {fn : Func} {p q : Tmp} {T : TypeId} {fs : Array Field} {wx : World} {R : Nat} {cs : Array Value} {x : Value} {tmps : Array Value} (hf : fn.results = #[.cell p T, .tmp q]) (hu : Tryz.prog.underlying T = some (.struct fs)) {n : Nat} (hi : (Tryz.prog.info? T).map (·.size) = some n) (hn : cs.size = n)
    (hr : wx.heap[R]? = some (.cells cs T (0, 0))) (hp : tmps.getD p undef = .pointer (some ⟨R, 0, none⟩)) (hx : tmps.getD q undef = x) : (results fn tmps).run Tryz.prog wx = .ok (.tuple #[.agg cs, x]) wx := by
  refine (results_cell_tmp hf _ _ _).trans ?_
  rw [hp, hx]
  have h1 := run_loadVar_row (P := Tryz.prog) wx R T T cs (0, 0) _ hr hu rfl (by rw [hn]; exact hi)
  simp [asAddr, h1, Result.andThen]
theorem end_c3 {fn : Func} {p q s : Tmp} {T : TypeId} {fs : Array Field} {wx : World} {R : Nat} {cs : Array Value} {x y : Value} {tmps : Array Value} (hf : fn.results = #[.cell p T, .tmp q, .tmp s]) (hu : Tryz.prog.underlying T = some (.struct fs)) {n : Nat} (hi : (Tryz.prog.info? T).map (·.size) = some n) (hn : cs.size = n)
    (hr : wx.heap[R]? = some (.cells cs T (0, 0))) (hp : tmps.getD p undef = .pointer (some ⟨R, 0, none⟩)) (hx : tmps.getD q undef = x) (hy : tmps.getD s undef = y) : (results fn tmps).run Tryz.prog wx = .ok (.tuple #[.agg cs, x, y]) wx := by
  refine (results_c3 hf _ _ _).trans ?_
  rw [hp, hx, hy]
  have h1 := run_loadVar_row (P := Tryz.prog) wx R T T cs (0, 0) _ hr hu rfl (by rw [hn]; exact hi)
  simp [asAddr, h1, Result.andThen]
/-- A whole link is laid. -/
theorem wpList_storeLk {ops : Array Oper} {rest : List Oper} {o : Oper} {a : Act} {Q : Exit → Act → World → Prop} {w : World} {p x : Operand} (hgd : o.guard = none) (ho : o.op = .store 57 p x) (g : Nat) (old : Array Value) (l : Lk)
    (hp : a.eval p = .pointer (some ⟨g, 0, none⟩)) (hx : a.eval x = .agg (lcs l)) (hn : old.size = 4) (hg : w.heap[g]? = some (.cells old 57 (0, 0))) (h : wpList Tryz.prog ops Q rest (a.put o.dst undef) (w.setRow g (lcs l))) : wpList Tryz.prog ops Q (o :: rest) a w :=
  wpList_storeRow hgd ho g old (lcs l) 57 hp hx hg info61 (by rw [hn]; rfl) (by kernel_rfl) h
end
section
open Go.RowKit Go
/-- A base of the landed code. -/
structure Bs where
  l : ByteArray
  t : ByteArray
  n : Nat
def b0 : Bs := ⟨⟨#[]⟩, ⟨#[]⟩, 0⟩
end
section
open Go.RowKit Go
/-- Which digit each byte is, counted from 1, by the first k digits. -/
def plt (t : List Nat) : Nat → List Nat
  | 0 => List.replicate 256 0
  | k + 1 => (plt t k).set (t.getD k 0) (k + 1)
theorem sl_at (D : ByteArray) (k : Nat) (h : k < D.size) : (sl D).getD k 0 = D[k].toNat := by
  rw [sl_get]
  congr 1
  have h2 : k < D.data.toList.length := by rw [Array.length_toList]; exact h
  rw [List.getD_eq_getElem?_getD, List.getElem?_eq_getElem h2]
  rfl
end
end Go.Proofs.YtdejcapbggjjgaaGreatDoor
