import Derived.Test.YtadilnmkjcmnnaaDoorJb
import Derived.Test.YtadilnmkjcmnnaaDoorSlav
import Derived.Laws.Externs
import Derived.Laws.Bits64
import Derived.Laws.ResultCell
namespace Go.Proofs.YtadilnmkjcmnnaaDoor
section
open Go.RowKit Go
/-- Keys' order. -/
def bfr (a b : List Nat) : Bool := if a.length = b.length then blt a b else decide (a.length < b.length)
theorem nat_ne {a b : Nat} : ((a : Int) != (b : Int)) = decide (a ≠ b) := by
  rw [Bool.eq_iff_iff]
  simp
  omega
end
section
open Go.RowKit Go
/-- The library's tables of UTF-8 lie as its text lays them. -/
def Tabs (w : World) : Prop := Lib.Utf8Tabs (Tryd.laysValid_ren.g 3) (Tryd.laysValid_ren.g 4) w
theorem Tabs.next {w w' : World} (h : Tabs w) (hb : Below w.heap.size w w') : Tabs w' := Utf8Tabs_below h hb
/-- No good UTF-8. -/
def badb (s : ByteArray) : Bool := !Lib.validD s.data.toList
theorem valid_any (s : ByteArray) (w : World) (hs : s.size ≤ 140737488351232) (hT : Tabs w) : Calls Tryd.prog 32 #[.string s] w fun e w' => e = .returned (.bool (!badb s)) ∧ Below w.heap.size w w' := by
  unfold badb
  rw [Bool.not_not]
  exact Any.utf8_ValidString Tryd.laysValid s w (by omega) hT
end
section
open Go.RowKit Go
/-- Finite, by its bits. -/
def finb (b : Nat) : Bool := decide (b % 9223372036854775808 < 9218868437227405312)
theorem read_def (b : Nat) : Ieee.double.read b = (if b % 9223372036854775808 < 4503599627370496 then .number (b / 9223372036854775808 % 2 == 1) (b % 9223372036854775808) (-1074) else if b % 9223372036854775808 < 9218868437227405312 then .number (b / 9223372036854775808 % 2 == 1) (4503599627370496 + b % 9223372036854775808 % 4503599627370496) (-1074 + ((b % 9223372036854775808 / 4503599627370496 - 1 : Nat) : Int)) else if b % 9223372036854775808 = 9218868437227405312 then .infinity (b / 9223372036854775808 % 2 == 1) else .nan (b / 9223372036854775808 % 2 == 1) (b % 9223372036854775808 - 9218868437227405312)) := rfl
/-- A finite float's magnitude. -/
theorem read_fin {b : Nat} (h : b % 9223372036854775808 < 9218868437227405312) : ∃ m p, Ieee.double.read b = .number (b / 9223372036854775808 % 2 == 1) m p ∧ m ≤ 9007199254740991 ∧ p ≤ 971 := by
  rw [read_def]
  by_cases h1 : b % 9223372036854775808 < 4503599627370496
  · rw [if_pos h1]
    exact ⟨_, _, rfl, by omega, by omega⟩
  · rw [if_neg h1, if_pos h]
    exact ⟨_, _, rfl, by omega, by omega⟩
theorem ord_self (b : Nat) : (Ieee.double.order b b != some .eq) = decide (9218868437227405312 < b % 9223372036854775808) := by
  unfold Ieee.Format.order
  by_cases h : b % 9223372036854775808 < 9218868437227405312
  · obtain ⟨m, p, e, _, _⟩ := read_fin h
    rw [e, decide_eq_false (by omega)]
    simp [Ieee.Datum.order]
  · rw [read_def, if_neg (by omega), if_neg h]
    by_cases h2 : b % 9223372036854775808 = 9218868437227405312
    · rw [if_pos h2, decide_eq_false (by omega)]
      simp [Ieee.Datum.order]
    · rw [if_neg h2, decide_eq_true (by omega)]
      simp [Ieee.Datum.order]
theorem ord_max {b : Nat} (hb : b ≤ 9218868437227405312) : (Ieee.double.order b 9218868437227405311 == some .gt) = decide (b = 9218868437227405312) := by
  have hm : b % 9223372036854775808 = b := Nat.mod_eq_of_lt (by omega)
  have hd : b / 9223372036854775808 % 2 = 0 := by omega
  have e2 : Ieee.double.read 9218868437227405311 = .number false 9007199254740991 971 := by rfl
  unfold Ieee.Format.order
  rw [e2]
  by_cases h : b < 9218868437227405312
  · obtain ⟨m, p, e, hmm, hp⟩ := read_fin (b := b) (by omega)
    rw [e, decide_eq_false (by omega), hd]
    have hmin : min p (971 : Int) = p := by omega
    have hsh : m ≤ 9007199254740991 <<< (971 - p).toNat := by
      rw [Nat.shiftLeft_eq]
      exact Nat.le_trans hmm (Nat.le_mul_of_pos_right _ (Nat.two_pow_pos _))
    simp only [Ieee.Datum.order, hmin, Int.sub_self, Ieee.signed]
    generalize 9007199254740991 <<< (971 - p).toNat = K at *
    have h3 : compare ((m <<< (0 : Int).toNat : Nat) : Int) ((K : Nat) : Int) ≠ .gt := by
      intro hc
      have := Int.compare_eq_gt.1 hc
      simp at this
      omega
    simp at h3 ⊢
    exact h3
  · have e : b = 9218868437227405312 := by omega
    subst e
    rfl
theorem andnot_top (b : Nat) (hb : b < 18446744073709551616) : bits .andNot .u64 (b : Int) 9223372036854775808 = ((b % 9223372036854775808 : Nat) : Int) := by
  have e1 : (BitVec.ofInt 64 (b : Int)).toNat = b := by
    simp
    omega
  have e2 : (~~~ (BitVec.ofInt 64 9223372036854775808)).toNat = 9223372036854775807 := by decide
  show IntKind.u64.wrap ((BitVec.ofInt 64 (b : Int) &&& ~~~ (BitVec.ofInt 64 9223372036854775808)).toNat : Nat) = _
  rw [BitVec.toNat_and, e1, e2, IntKind.wrap_u64]
  have e3 := Nat.and_two_pow_sub_one_eq_mod b 63
  rw [show (2 ^ 63 - 1 : Nat) = 9223372036854775807 from rfl, show (2 ^ 63 : Nat) = 9223372036854775808 from rfl] at e3
  rw [e3]
  omega
end
section
open Go.RowKit Go
/-! ### Strict reading, plainly -/
/-- The bytes of a string behind its head. -/
def rbody (b : List Nat) : List Nat := if (hrd b).m = 2 ∨ (hrd b).m = 3 then (b.drop (hrd b).u).take (hrd b).n else []
/-- Is it one of MajorOther that trees have? -/
def rknown (h : HR) : Bool := decide (h.i = 20 ∨ h.i = 21 ∨ h.i = 22) || (decide (h.i = 27) && finb h.n)
def rmay (h : HR) (y : List Nat) : Bool := if h.m = 3 then !badb (nstr y) else if h.m = 6 then decide (h.n = 42) else if h.m = 7 then rknown h else true
/-- May it be what it is wanted as: plain 0, a key 1, a name 2? -/
def rfit (want : Nat) (h : HR) (y : List Nat) : Bool := if want = 1 then decide (h.m = 3) else if want = 2 then decide (h.m = 2 ∧ y.head? = some 0 ∧ (lparse y.tail).2 = 0) else true
/-- The item's fault by itself. -/
def rlook (want : Nat) (b : List Nat) : Nat :=
  if (hrd b).e = 20 then 82
  else if (hrd b).e ≠ 0 ∨ (hrd b).i = 31 then 83
  else if ((hrd b).m = 2 ∨ (hrd b).m = 3) ∧ b.length - (hrd b).u < (hrd b).n then 82
  else if rmay (hrd b) (rbody b) = false ∨ rfit want (hrd b) (rbody b) = false then 83
  else 0
def rnest (b : List Nat) : Bool := match b with | [] => false | x :: _ => decide (x / 32 = 4 ∨ x / 32 = 5)
/-- Does a key stand behind the one ahead of it? -/
def rrise (ks : List ByteArray) (s : ByteArray) : Bool := match ks.getLast? with | none => true | some k => bfr (sl k) (sl s)
/-- The fault at a place. -/
def rtake (want : Nat) (full : Bool) (ks : List ByteArray) (b : List Nat) : Nat :=
  if rnest b = true ∧ full = true then 81
  else if rlook want b ≠ 0 then rlook want b
  else if (hrd b).s = false ∨ (want = 1 ∧ rrise ks (nstr (rbody b)) = false) then 84
  else 0
def rused (b : List Nat) : Nat := (hrd b).u + (rbody b).length

theorem hrd_app {b tl : List Nat} (h : (hrd b).e ≠ 20) : hrd (b ++ tl) = hrd b ∧ (hrd b).u ≤ b.length := by
  cases b with
  | nil => exact absurd rfl h
  | cons x r =>
    by_cases h1 : 27 < x % 32
    · by_cases h2 : x % 32 = 31 ∧ x / 32 ≠ 0 ∧ x / 32 ≠ 1 ∧ x / 32 ≠ 6
      · rw [List.cons_append, hrd_end h2.1 h2.2, hrd_end h2.1 h2.2]
        exact ⟨rfl, by simp⟩
      · rw [List.cons_append, hrd_info h1 h2, hrd_info h1 h2]
        exact ⟨rfl, by simp [HR.bad]⟩
    · by_cases h2 : x % 32 < 24
      · rw [List.cons_append, hrd_small h2, hrd_small h2]
        exact ⟨rfl, by simp⟩
      · by_cases h3 : r.length < hwide (x % 32)
        · exact absurd (by rw [hrd_short (by omega) (by omega) h3]; rfl) h
        · have h3' : ¬ (r ++ tl).length < hwide (x % 32) := by rw [List.length_append]; omega
          have ht : (r ++ tl).take (hwide (x % 32)) = r.take (hwide (x % 32)) := List.take_append_of_le_length (by omega)
          by_cases h4 : x / 32 = 7 ∧ x % 32 = 24 ∧ bnum 0 (r.take (hwide (x % 32))) < 32
          · have e : ∀ q : List Nat, ¬ q.length < hwide (x % 32) → bnum 0 (q.take (hwide (x % 32))) < 32 → hrd (x :: q) = .bad 21 := fun q a1 a2 => hrd_low h4.2.1 a1 h4.1 a2
            rw [List.cons_append, e _ h3' (by rw [ht]; exact h4.2.2), e _ h3 h4.2.2]
            exact ⟨rfl, by simp [HR.bad]⟩
          · rw [List.cons_append, hrd_long (by omega) (by omega) h3' (by rw [ht]; exact h4), hrd_long (by omega) (by omega) h3 h4, ht]
            refine ⟨rfl, ?_⟩
            simp only [List.length_cons]
            omega
theorem rlook_app {want : Nat} {b tl : List Nat} (h : rlook want b ≠ 82) : rlook want (b ++ tl) = rlook want b ∧ (rlook want b = 0 → rbody (b ++ tl) = rbody b ∧ hrd (b ++ tl) = hrd b ∧ rused b ≤ b.length) := by
  by_cases h1 : (hrd b).e = 20
  · exact absurd (by unfold rlook; rw [if_pos h1]) h
  obtain ⟨e, hu⟩ := hrd_app (tl := tl) h1
  by_cases h2 : (hrd b).e ≠ 0 ∨ (hrd b).i = 31
  · have e1 : ∀ q : List Nat, hrd q = hrd b → rlook want q = 83 := fun q hq => by unfold rlook; rw [hq, if_neg h1, if_pos h2]
    rw [e1 _ e, e1 b rfl]
    exact ⟨rfl, fun h => by cases h⟩
  by_cases h3 : ((hrd b).m = 2 ∨ (hrd b).m = 3) ∧ b.length - (hrd b).u < (hrd b).n
  · exact absurd (by unfold rlook; rw [if_neg h1, if_neg h2, if_pos h3]) h
  have h3' : ¬ (((hrd b).m = 2 ∨ (hrd b).m = 3) ∧ (b ++ tl).length - (hrd b).u < (hrd b).n) := fun ⟨a1, a2⟩ => h3 ⟨a1, by rw [List.length_append] at a2; omega⟩
  have hb : rbody (b ++ tl) = rbody b := by
    unfold rbody
    rw [e]
    by_cases hm : (hrd b).m = 2 ∨ (hrd b).m = 3
    · rw [if_pos hm, if_pos hm, List.drop_append_of_le_length hu]
      refine List.take_append_of_le_length ?_
      rw [List.length_drop]
      have : ¬ b.length - (hrd b).u < (hrd b).n := fun h => h3 ⟨hm, h⟩
      omega
    · rw [if_neg hm, if_neg hm]
  have key : ∀ q : List Nat, hrd q = hrd b → rbody q = rbody b → ¬ (((hrd b).m = 2 ∨ (hrd b).m = 3) ∧ q.length - (hrd b).u < (hrd b).n) → rlook want q = if rmay (hrd b) (rbody b) = false ∨ rfit want (hrd b) (rbody b) = false then 83 else 0 := fun q a1 a2 a3 => by
    unfold rlook
    rw [a1, if_neg h1, if_neg h2, if_neg a3, a2]
  refine ⟨by rw [key _ e hb h3', key b rfl rfl h3], fun _ => ⟨hb, e, ?_⟩⟩
  unfold rused rbody
  by_cases hm : (hrd b).m = 2 ∨ (hrd b).m = 3
  · rw [if_pos hm, List.length_take, List.length_drop]
    omega
  · rw [if_neg hm]
    simpa using hu
theorem rlook_le {want : Nat} {b : List Nat} (h : rlook want b = 0) : rused b ≤ b.length := ((rlook_app (tl := []) (b := b) (want := want) (by rw [h]; decide)).2 h).2.2
theorem hrd_pos {b : List Nat} (h : (hrd b).e = 0) : 0 < (hrd b).u := by
  cases b with
  | nil => cases h
  | cons x r =>
    by_cases h1 : 27 < x % 32
    · by_cases h2 : x % 32 = 31 ∧ x / 32 ≠ 0 ∧ x / 32 ≠ 1 ∧ x / 32 ≠ 6
      · rw [hrd_end h2.1 h2.2]; exact Nat.one_pos
      · rw [hrd_info h1 h2] at h; cases h
    · by_cases h2 : x % 32 < 24
      · rw [hrd_small h2]; exact Nat.one_pos
      · by_cases h3 : r.length < hwide (x % 32)
        · rw [hrd_short (by omega) (by omega) h3] at h; cases h
        · by_cases h4 : x / 32 = 7 ∧ x % 32 = 24 ∧ bnum 0 (r.take (hwide (x % 32))) < 32
          · rw [hrd_low h4.2.1 h3 h4.1 h4.2.2] at h; cases h
          · rw [hrd_long (by omega) (by omega) h3 h4]
            show 0 < 1 + _
            omega
theorem rlook_pos {want : Nat} {b : List Nat} (h : rlook want b = 0) : 0 < rused b := by
  unfold rlook at h
  by_cases h1 : (hrd b).e = 20
  · rw [if_pos h1] at h; cases h
  rw [if_neg h1] at h
  by_cases h2 : (hrd b).e ≠ 0 ∨ (hrd b).i = 31
  · rw [if_pos h2] at h; cases h
  have := hrd_pos (b := b) (by
    rcases Nat.decEq (hrd b).e 0 with h3 | h3
    · exact absurd (.inl h3) h2
    · exact h3)
  unfold rused
  omega
end
section
open Go.RowKit Go

end
section
open Go.RowKit Go
/-- How a function ends whose first result is a struct. -/
theorem end_c2 {fn : Func} {p q : Tmp} {T : TypeId} {fs : Array Field} {wx : World} {R : Nat} {cs : Array Value} {x : Value} {tmps : Array Value} (hf : fn.results = #[.cell p T, .tmp q]) (hu : Tryd.prog.underlying T = some (.struct fs)) {n : Nat} (hi : (Tryd.prog.info? T).map (·.size) = some n) (hn : cs.size = n)
    (hr : wx.heap[R]? = some (.cells cs T (0, 0))) (hp : tmps.getD p undef = .pointer (some ⟨R, 0, none⟩)) (hx : tmps.getD q undef = x) : (results fn tmps).run Tryd.prog wx = .ok (.tuple #[.agg cs, x]) wx := by
  refine (results_cell_tmp hf _ _ _).trans ?_
  rw [hp, hx]
  have h1 := run_loadVar_row (P := Tryd.prog) wx R T T cs (0, 0) _ hr hu rfl (by rw [hn]; exact hi)
  simp [asAddr, h1, Result.andThen]
theorem end_c3 {fn : Func} {p q s : Tmp} {T : TypeId} {fs : Array Field} {wx : World} {R : Nat} {cs : Array Value} {x y : Value} {tmps : Array Value} (hf : fn.results = #[.cell p T, .tmp q, .tmp s]) (hu : Tryd.prog.underlying T = some (.struct fs)) {n : Nat} (hi : (Tryd.prog.info? T).map (·.size) = some n) (hn : cs.size = n)
    (hr : wx.heap[R]? = some (.cells cs T (0, 0))) (hp : tmps.getD p undef = .pointer (some ⟨R, 0, none⟩)) (hx : tmps.getD q undef = x) (hy : tmps.getD s undef = y) : (results fn tmps).run Tryd.prog wx = .ok (.tuple #[.agg cs, x, y]) wx := by
  refine (results_c3 hf _ _ _).trans ?_
  rw [hp, hx, hy]
  have h1 := run_loadVar_row (P := Tryd.prog) wx R T T cs (0, 0) _ hr hu rfl (by rw [hn]; exact hi)
  simp [asAddr, h1, Result.andThen]
/-- A whole link is laid. -/
theorem wpList_storeLk {ops : Array Oper} {rest : List Oper} {o : Oper} {a : Act} {Q : Exit → Act → World → Prop} {w : World} {p x : Operand} (hgd : o.guard = none) (ho : o.op = .store 36 p x) (g : Nat) (old : Array Value) (l : Lk)
    (hp : a.eval p = .pointer (some ⟨g, 0, none⟩)) (hx : a.eval x = .agg (lcs l)) (hn : old.size = 4) (hg : w.heap[g]? = some (.cells old 36 (0, 0))) (h : wpList Tryd.prog ops Q rest (a.put o.dst undef) (w.setRow g (lcs l))) : wpList Tryd.prog ops Q (o :: rest) a w :=
  wpList_storeRow hgd ho g old (lcs l) 36 hp hx hg info61 (by rw [hn]; rfl) (by kernel_rfl) h
end
section
open Go.RowKit Go
/-- What ending tells. -/
def lend (xs : List Nat) : Nat × List Nat × Nat × Nat := if (dread xs).2.2.2 = 0 then dread xs else (0, [], 0, lerr (dread xs).2.2.2)
theorem lend_third (v : Int) (c at' : Nat) (b : List Nat) : lthird v c at' b = if (lend (b.drop at')).2.2.2 = 0 then (⟨v, c, (lend (b.drop at')).1, (lend (b.drop at')).2.1⟩, at' + (lend (b.drop at')).2.2.1, 0) else (Lk.none, 0, (lend (b.drop at')).2.2.2) := by
  unfold lthird lend
  by_cases h : (dread (b.drop at')).2.2.2 = 0
  · rw [if_pos h, if_pos h, if_pos h]
  · rw [if_neg h, if_neg h, if_neg]
    unfold lerr
    simp only
    split <;> omega
set_option maxRecDepth 1000000 in
set_option maxHeartbeats 1000000 in
theorem lending_any (w : World) (v : Value) (xs : List Nat) (hb : BSl w v xs) :
    Calls Tryd.prog 41 #[v] w fun e w' => ∃ v', e = .returned (.tuple #[.int .u64 ((lend xs).1 : Nat), v', .int .i64 ((lend xs).2.2.1 : Nat), .int .i64 ((lend xs).2.2.2 : Nat)]) ∧ w'.ownsRow w.heap.size 5 1 v' (lend xs).2.1.length (bv (lend xs).2.1) ∧ Below w.heap.size w w' := by
  have HB := hide hb
  obtain ⟨⟨a, cap, rfl, hn, hc⟩, hmax, hby⟩ := hb
  have HLE : Hid (lend xs = if (dread xs).2.2.2 = 0 then dread xs else (0, [], 0, lerr (dread xs).2.2.2)) := rfl
  clear hn hc hby
  go_enter Tryd.func41, Tryd.ntmps41
  go_wp2_with fail
  refine (dread_any w _ xs HB.out).mono ?_
  rintro e w1 ⟨v1, rfl, ho1, hb1⟩
  have HB1 := hide hb1
  generalize dread xs = r at *
  obtain ⟨rh, rdd, rn, re⟩ := r
  simp only at ho1 HLE ⊢
  have HO1 := hide ho1
  obtain ⟨a1, c1, hv1, _⟩ := own_form ho1
  subst hv1
  clear ho1 hb1
  by_cases h0 : re = 0
  · subst h0
    have HZ : Hid (lend xs = (rh, rdd, rn, 0)) := by show _ = _; rw [HLE.out, if_pos rfl]
    clear HLE
    go_wp2_with fail
    exact bodyPost_ret (results_four rfl _ _ _) rfl ⟨_, by rw [HZ.out]; rfl, by rw [HZ.out]; exact HO1.out, HB1.out⟩
  · have g0 : ((re : Int) == 0) = false := beq_eq_false_iff_ne.2 (by omega)
    by_cases h1 : re = 32
    · subst h1
      have HZ : Hid (lend xs = (0, [], 0, 42)) := by show _ = _; rw [HLE.out]; rfl
      clear HLE
      go_wp2_with fail
      exact bodyPost_ret (results_four rfl _ _ _) rfl ⟨_, by rw [HZ.out]; rfl, by rw [HZ.out]; exact World.ownsRow_nil _ _ _ _, HB1.out⟩
    · have g1 : ((re : Int) == 32) = false := beq_eq_false_iff_ne.2 (by omega)
      by_cases h2 : re = 33
      · subst h2
        have HZ : Hid (lend xs = (0, [], 0, 42)) := by show _ = _; rw [HLE.out]; rfl
        clear HLE
        go_wp2_with fail
        exact bodyPost_ret (results_four rfl _ _ _) rfl ⟨_, by rw [HZ.out]; rfl, by rw [HZ.out]; exact World.ownsRow_nil _ _ _ _, HB1.out⟩
      · have g2 : ((re : Int) == 33) = false := beq_eq_false_iff_ne.2 (by omega)
        have HZ : Hid (lend xs = (0, [], 0, 43)) := by show _ = _; rw [HLE.out, if_neg h0]; unfold lerr; rw [if_neg (by omega)]
        clear HLE
        go_wp2_with fail
        exact bodyPost_ret (results_four rfl _ _ _) rfl ⟨_, by rw [HZ.out]; rfl, by rw [HZ.out]; exact World.ownsRow_nil _ _ _ _, HB1.out⟩
end
section
open Go.RowKit Go
/-- A link's block that is none yet. -/
structure Fz (w wx : World) : Prop where
  r : wx.heap[w.heap.size]? = some (.cells zlk 36 (0, 0))
  b : Below w.heap.size w wx
theorem Fz.below {w wx wy : World} (h : Fz w wx) (hb : Below wx.heap.size wx wy) : Fz w wy := ⟨(hb.block _ (blk_lt h.r)).trans h.r, h.b.trans (hb.mono h.b.size)⟩
theorem Fz.start (w : World) : Fz w (w.alloc (.cells #[.int .i64 0, .int .u64 0, .int .u64 0, .string ⟨#[]⟩] 36)) := ⟨heap_alloc_new w _, below_alloc4 w _⟩
theorem rd_bound4 (xs : List Nat) (h : (rd 0 0 xs).2.2 = 0) : (rd 0 0 xs).1 < 9223372036854775808 ∧ (rd 0 0 xs).2.1 ≤ xs.length := by
  have h1 := dnum_bound xs
  unfold dnum at h1
  rw [if_pos h] at h1
  have := h1 h
  exact ⟨this.1, this.2.1⟩
theorem lend_bound (xs : List Nat) : (lend xs).2.2.1 ≤ xs.length := by
  unfold lend
  by_cases h0 : (dread xs).2.2.2 = 0
  · rw [if_pos h0]
    exact (dread_back h0).1
  · rw [if_neg h0]
    simp
theorem dread_first {xs : List Nat} (h : (dread xs).2.2.2 = 0) : (dread xs).1 = (dnum xs).1 := by
  unfold dread at h ⊢
  split
  · rename_i h1
    rw [if_pos h1] at h
    exact absurd h h1
  · rename_i h1
    rw [if_neg h1] at h
    split
    · rename_i h2
      rw [if_pos h2] at h
      exact absurd h h2
    · rename_i h2
      rw [if_neg h2] at h
      split
      · rename_i h3
        rw [if_pos h3] at h
        simp at h
      · rename_i h3
        rw [if_neg h3] at h
        split
        · rename_i h4
          rw [if_pos h4] at h
          simp at h
        · rename_i h4
          rw [if_neg h4] at h
          split
          · rename_i h5
            rw [if_pos h5] at h
            simp at h
          · rfl
theorem lend_byte {xs : List Nat} (h : ∀ x ∈ xs, x < 256) : ∀ x ∈ (lend xs).2.1, x < 256 := by
  unfold lend
  split
  · exact dread_bytes4 h
  · simp
set_option maxRecDepth 1000000 in
set_option maxHeartbeats 2000000 in
theorem first4_any (w : World) (v : Value) (b : List Nat) (hb : BSl w v b) :
    Calls Tryd.prog 38 #[v] w fun e w' => e = .returned (.tuple #[lkv (lfirst b).1, .int .i64 ((lfirst b).2.1 : Nat), .int .i64 ((lfirst b).2.2 : Nat)]) ∧ Below w.heap.size w w' := by
  have HB := hide hb
  obtain ⟨⟨a, cap, rfl, hn, hc⟩, hmax, hby⟩ := hb
  have HBY := hide hby
  have HF0 := hide (Fz.start w)
  have HBV := hide (HB.out.move (keep_below HF0.out.b))
  by_cases h18 : b.head? = some 18
  · obtain ⟨r, rfl⟩ : ∃ r, b = 18 :: r := by
      cases b with
      | nil => simp at h18
      | cons x r => simp at h18; exact ⟨r, by rw [h18]⟩
    obtain ⟨bb, off, rfl, hcell⟩ := hc.resolve_left (by simp)
    have hc0 := hcell 0 (by simp)
    rw [Nat.add_zero] at hc0
    have cx := keep_below HF0.out.b _ _ hc0
    have g00 : (0 : Int) < ((18 :: r).length : Int) := by simp
    have HLF : Hid (lfirst (18 :: r) = lthird 0 112 0 (18 :: r)) := by
      show _ = _
      unfold lfirst
      rw [if_pos (show (18 :: r).head? = some 18 from rfl)]
    have HLD : Hid (lthird 0 112 0 (18 :: r) = if (lend (18 :: r)).2.2.2 = 0 then (⟨0, 112, 18, (lend (18 :: r)).2.1⟩, (lend (18 :: r)).2.2.1, 0) else (Lk.none, 0, (lend (18 :: r)).2.2.2)) := by
      show _ = _
      rw [lend_third, List.drop_zero, Nat.zero_add]
      by_cases h0 : (lend (18 :: r)).2.2.2 = 0
      · rw [if_pos h0, if_pos h0]
        have : (lend (18 :: r)).1 = 18 := by
          unfold lend at h0 ⊢
          by_cases h1 : (dread (18 :: r)).2.2.2 = 0
          · rw [if_pos h1]
            rw [dread_first h1, dnum_small (by decide)]
          · rw [if_neg h1] at h0
            unfold lerr at h0
            simp only at h0
            split at h0 <;> omega
        rw [this]
      · rw [if_neg h0, if_neg h0]
    simp only [List.getD_cons_zero] at cx
    clear hc hcell hc0 h18 hn
    generalize hLL : (18 :: r).length = LL at *
    have HLL := hide hLL
    clear hLL
    generalize hBL : 18 :: r = bl at *
    have HBLE := hide hBL
    clear hBL
    go_enter Tryd.func38, Tryd.ntmps38
    go_wp2_with fail
    generalize w.alloc (.cells #[.int .i64 0, .int .u64 0, .int .u64 0, .string ⟨#[]⟩] 36) = w0 at *
    refine (lending_any w0 _ bl HBV.out).mono ?_
    rintro e w1 ⟨v1, rfl, ho1, hb1⟩
    have HF1 := hide (HF0.out.below hb1)
    have HV1 := hide (BSl.own ho1 (lend_byte HBY.out))
    obtain ⟨a1, c1, hv1, _⟩ := own_form ho1
    subst hv1
    have HBD := hide (lend_bound bl)
    clear ho1 hb1 cx
    generalize lend bl = le at *
    obtain ⟨lh, ld, lu, lee⟩ := le
    simp only at HV1 HLD HBD ⊢
    by_cases he : lee = 0
    · subst he
      as_aux_lemma =>
      rw [if_pos rfl] at HLD
      have cv := HV1.out.text
      go_wp2_with fail
      clear cv
      refine (old_any w1 (nstr ld)).mono ?_
      rintro e w2 ⟨rfl, hb2⟩
      have HF2 := hide (HF1.out.below hb2)
      have HR2 := hide HF2.out.r
      clear hb2
      go_wp2_with (refine wpList_storeLk rfl rfl w.heap.size zlk ⟨0, 112, 18, ld⟩ rfl rfl rfl HR2.out ?_)
      exact bodyPost_ret (end_c3 rfl Tryd.underlying36 info61 rfl (row_same HR2.out) rfl rfl rfl) rfl ⟨by rw [HLF.out, HLD.out]; rfl, HF2.out.b.trans ((row_kp _ _ _).below HF2.out.b.size (fun q e => by omega))⟩
    · as_aux_lemma =>
      rw [if_neg he] at HLD
      have g1 : ((lee : Int) == 0) = false := beq_eq_false_iff_ne.2 (by omega)
      have HR1 := hide HF1.out.r
      go_wp2_with (refine wpList_zero rfl rfl w.heap.size rfl rfl HR1.out ?_)
      exact bodyPost_ret (end_c3 rfl Tryd.underlying36 info61 rfl HR1.out rfl rfl rfl) rfl ⟨by rw [HLF.out, HLD.out]; rfl, HF1.out.b⟩
  · have HNE := hide h18
    have HDN : Hid (∀ xs : List Nat, (dnum xs).2.2 ≠ 0 ↔ (rd 0 0 xs).2.2 ≠ 0) := by
      intro xs
      unfold dnum
      by_cases h : (rd 0 0 xs).2.2 = 0
      · rw [if_pos h]
      · rw [if_neg h]
        simp only
        constructor
        · intro _
          exact h
        · intro _
          split <;> decide
    have HDE : Hid (∀ xs : List Nat, (rd 0 0 xs).2.2 = 0 → dnum xs = rd 0 0 xs) := by
      intro xs h
      unfold dnum
      rw [if_pos h]
    clear h18 hn hmax
    have HML := hide HB.out.max
    by_cases h0 : b = []
    · subst h0
      as_aux_lemma =>
      clear hc
      have HLF : Hid (lfirst [] = (Lk.none, 0, 42)) := rfl
      have HR1 := hide HF0.out.r
      have HV : Hid (rd 0 0 [] = (0, 0, 10)) := rfl
      simp only [List.length_nil] at HBV ⊢
      go_enter Tryd.func38, Tryd.ntmps38
      go_wp2_with fail
      generalize w.alloc (.cells #[.int .i64 0, .int .u64 0, .int .u64 0, .string ⟨#[]⟩] 36) = w0 at *
      refine HBV.out.vread.mono ?_
      rintro e w1 ⟨rfl, rfl⟩
      rw [HV.out]
      go_wp2_with (refine wpList_zero rfl rfl w.heap.size rfl rfl HR1.out ?_)
      exact bodyPost_ret (end_c3 rfl Tryd.underlying36 info61 rfl HR1.out rfl rfl rfl) rfl ⟨by rw [HLF.out]; rfl, HF0.out.b⟩
    have hpos : 0 < b.length := List.length_pos_iff.2 h0
    have g00 : (0 : Int) < (b.length : Int) := by omega
    obtain ⟨bb, off, rfl, hcell⟩ := hc.resolve_left h0
    have hc0 := hcell 0 hpos
    rw [Nat.add_zero] at hc0
    have cx := keep_below HF0.out.b _ _ hc0
    have g18 : (((b.getD 0 0 : Nat) : Int) == 18) = false := by
      have := HNE.out
      rw [beq_eq_false_iff_ne]
      cases b with
      | nil => exact absurd rfl h0
      | cons x r => simp at this ⊢; omega
    clear hc hcell hc0 hby h0 hpos
    generalize b.getD 0 0 = x0 at cx g18
    go_enter Tryd.func38, Tryd.ntmps38
    go_wp2_with fail
    generalize w.alloc (.cells #[.int .i64 0, .int .u64 0, .int .u64 0, .string ⟨#[]⟩] 36) = w0 at *
    refine HBV.out.vread.mono ?_
    rintro e w1 ⟨rfl, rfl⟩
    have HD1 := hide (HDN.out b)
    have HE1 := hide (HDE.out b)
    have HRB := hide (rd_bound4 b)
    obtain ⟨vn, un, en, hD⟩ : ∃ vn un en, rd 0 0 b = (vn, un, en) := ⟨_, _, _, rfl⟩
    rw [hD] at HD1 HE1 HRB ⊢
    clear hD
    simp only at HD1 HE1 HRB ⊢
    have HR1 := hide HF0.out.r
    by_cases hen : en = 0
    · subst hen
      have HE2 := hide (HE1.out rfl)
      have hrb := HRB.out rfl
      by_cases hvn : vn = 1
      · subst hvn
        have HUN : Hid (un ≤ b.length) := hrb.2
        clear hrb HRB HD1 HE1
        go_wp2_with (refine wpList_drop rfl 54 55 rfl _ b un rfl rfl HBV.out HUN.out ?_)
        intro ad1 nd1 cd1 hbd1 hnd1
        have HBD1 := hide hbd1
        clear hbd1 hnd1
        go_wp2_with fail
        refine HBD1.out.vread.mono ?_
        rintro e w2 ⟨rfl, rfl⟩
        have HD3 := hide (HDN.out (b.drop un))
        have HE3 := hide (HDE.out (b.drop un))
        have HRB := hide (rd_bound4 (b.drop un))
        obtain ⟨c2, u2, e2, hD2⟩ : ∃ c2 u2 e2, rd 0 0 (b.drop un) = (c2, u2, e2) := ⟨_, _, _, rfl⟩
        rw [hD2] at HD3 HE3 HRB ⊢
        clear hD2
        simp only at HD3 HE3 HRB ⊢
        by_cases he2 : e2 = 0
        · subst he2
          have HE4 := hide (HE3.out rfl)
          have hdb2 := HRB.out rfl
          have HLF : Hid (lfirst b = lthird 1 c2 (un + u2) b) := by
            show _ = _
            unfold lfirst
            rw [if_neg HNE.out, HE2.out]
            simp only [ne_eq, not_true_eq_false, if_false]
            rw [HE4.out]
            simp
          have HAT : Hid (un + u2 ≤ b.length) := by have h1 := hdb2.2; rw [List.length_drop] at h1; have := HUN.out; show _ ≤ _; omega
          have hun : (un : Int) + (u2 : Int) ≤ 9223372036854775807 := by have := HAT.out; have := HML.out; omega
          have hsum : (un : Int) + (u2 : Int) = ((un + u2 : Nat) : Int) := by omega
          have HLD := hide (lend_third 1 c2 (un + u2) b)
          clear HRB hdb2 HUN HNE HE3 HE4 HE2 HD3 HBD1
          generalize hat4 : un + u2 = at4 at HLF HAT hsum HLD
          clear hat4
          go_wp2_with (refine wpList_drop rfl 68 69 rfl _ b at4 rfl rfl HBV.out HAT.out ?_)
          intro ad nd cd hbd hnd
          have HBD := hide hbd
          clear hbd hnd
          go_wp2_with fail
          refine (lending_any w2 _ (b.drop at4) HBD.out).mono ?_
          rintro e w5 ⟨vd, rfl, ho5, hb5⟩
          have HF5 := hide (HF0.out.below hb5)
          have HVD := hide (BSl.own ho5 (lend_byte (fun x hx => HBY.out x (List.mem_of_mem_drop hx))))
          have HLB := hide (lend_bound (b.drop at4))
          rw [List.length_drop] at HLB
          obtain ⟨ae, ce, hve, _⟩ := own_form ho5
          subst hve
          clear ho5 hb5
          generalize lend (b.drop at4) = le at *
          obtain ⟨lh, ld, lu, lee⟩ := le
          simp only at HVD HLD HLB ⊢
          by_cases he : lee = 0
          · subst he
            as_aux_lemma =>
            rw [if_pos rfl] at HLD
            have cv := HVD.out.text
            have HR5 := hide HF5.out.r
            have hnr : (at4 : Int) + (lu : Int) ≤ 9223372036854775807 := by have := HLB.out; have := HAT.out; have := HML.out; omega
            go_wp2_with (refine wpList_storeLk rfl rfl w.heap.size zlk ⟨1, c2, lh, ld⟩ rfl rfl rfl HR5.out ?_)
            exact bodyPost_ret (end_c3 rfl Tryd.underlying36 info61 rfl (row_same HR5.out) rfl rfl rfl) rfl ⟨by rw [HLF.out, HLD.out]; simp only [Int.natCast_add]; rfl, HF5.out.b.trans ((row_kp _ _ _).below HF5.out.b.size (fun q e => by omega))⟩
          · as_aux_lemma =>
            rw [if_neg he] at HLD
            have g1 : ((lee : Int) == 0) = false := beq_eq_false_iff_ne.2 (by omega)
            have HR5 := hide HF5.out.r
            go_wp2_with (refine wpList_zero rfl rfl w.heap.size rfl rfl HR5.out ?_)
            exact bodyPost_ret (end_c3 rfl Tryd.underlying36 info61 rfl HR5.out rfl rfl rfl) rfl ⟨by rw [HLF.out, HLD.out]; rfl, HF5.out.b⟩
        · as_aux_lemma =>
          have HLF : Hid (lfirst b = (Lk.none, 0, 42)) := by
            show _ = _
            unfold lfirst
            rw [if_neg HNE.out, HE2.out]
            simp only [ne_eq, not_true_eq_false, if_false]
            rw [if_pos (HD3.out.2 he2)]
          have g2 : ((e2 : Int) == 0) = false := beq_eq_false_iff_ne.2 (by omega)
          clear HRB HD3 HE3 HNE HE2
          go_wp2_with (refine wpList_zero rfl rfl w.heap.size rfl rfl HR1.out ?_)
          exact bodyPost_ret (end_c3 rfl Tryd.underlying36 info61 rfl HR1.out rfl rfl rfl) rfl ⟨by rw [HLF.out]; rfl, HF0.out.b⟩
      · as_aux_lemma =>
        have HLF : Hid (lfirst b = (Lk.none, 0, 41)) := by
          show _ = _
          unfold lfirst
          rw [if_neg HNE.out, HE2.out]
          simp [hvn]
        have g2 : ((vn : Int) == 1) = false := beq_eq_false_iff_ne.2 (by omega)
        clear HRB HD1 HE1 HE2 HNE hrb
        go_wp2_with (refine wpList_zero rfl rfl w.heap.size rfl rfl HR1.out ?_)
        exact bodyPost_ret (end_c3 rfl Tryd.underlying36 info61 rfl HR1.out rfl rfl rfl) rfl ⟨by rw [HLF.out]; rfl, HF0.out.b⟩
    · as_aux_lemma =>
      have HLF : Hid (lfirst b = (Lk.none, 0, 42)) := by
        show _ = _
        unfold lfirst
        rw [if_neg HNE.out, if_pos (HD1.out.2 hen)]
      have g2 : ((en : Int) == 0) = false := beq_eq_false_iff_ne.2 (by omega)
      clear HRB HD1 HE1 HNE
      go_wp2_with (refine wpList_zero rfl rfl w.heap.size rfl rfl HR1.out ?_)
      exact bodyPost_ret (end_c3 rfl Tryd.underlying36 info61 rfl HR1.out rfl rfl rfl) rfl ⟨by rw [HLF.out]; rfl, HF0.out.b⟩
end
section
open Go.RowKit Go
set_option maxRecDepth 1000000 in
set_option maxHeartbeats 1000000 in
theorem parse4_any (w : World) (v : Value) (b : List Nat) (hb : BSl w v b) :
    Calls Tryd.prog 34 #[v] w fun e w' => e = .returned (.tuple #[lkv (lparse b).1, .int .i64 ((lparse b).2 : Nat)]) ∧ Below w.heap.size w w' := by
  have HB := hide hb
  obtain ⟨⟨a, cap, rfl, hn, hc⟩, hmax, hby⟩ := hb
  have HF0 := hide (Fz.start w)
  clear hn hc hby
  go_enter Tryd.func34, Tryd.ntmps34
  go_wp2_with fail
  generalize w.alloc (.cells #[.int .i64 0, .int .u64 0, .int .u64 0, .string ⟨#[]⟩] 36) = w0 at *
  refine (first4_any w0 _ b (HB.out.move (keep_below HF0.out.b))).mono ?_
  rintro e w1 ⟨rfl, hb1⟩
  have HF1 := hide (HF0.out.below hb1)
  have HPR : Hid (lparse b = if (lfirst b).2.2 ≠ 0 then (Lk.none, (lfirst b).2.2) else if (lfirst b).2.1 < b.length then (Lk.none, 44) else ((lfirst b).1, 0)) := rfl
  clear hb1
  generalize lfirst b = r at *
  obtain ⟨⟨lv, lc, lh, ld⟩, n, er⟩ := r
  simp only at HPR ⊢
  have HL2 : Hid ((w1.alloc (.cells #[.int .i64 lv, .int .u64 (lc : Nat), .int .u64 (lh : Nat), .string (nstr ld)] 36)).heap[w1.heap.size]? = some (.cells (lcs ⟨lv, lc, lh, ld⟩) 36 (0, 0))) := heap_alloc_new w1 _
  have HF2 : Hid (Fz w (w1.alloc (.cells #[.int .i64 lv, .int .u64 (lc : Nat), .int .u64 (lh : Nat), .string (nstr ld)] 36))) := HF1.out.below (below_alloc4 w1 _)
  have HR2 := hide HF2.out.r
  clear HF1 HF0
  simp only [lkv]
  by_cases he : er = 0
  · subst he
    by_cases hlt : n < b.length
    · as_aux_lemma =>
      have g1 : (n : Int) < (b.length : Int) := by omega
      have HP2 : Hid (lparse b = (Lk.none, 44)) := by show _ = _; rw [HPR.out]; simp [hlt]
      clear HPR hlt
      go_wp2_with (refine wpList_zero rfl rfl w.heap.size rfl rfl HR2.out ?_)
      exact bodyPost_ret (end_c2 rfl Tryd.underlying36 info61 rfl HR2.out rfl rfl) rfl ⟨by rw [HP2.out]; rfl, HF2.out.b⟩
    · as_aux_lemma =>
      have g1 : ¬ (n : Int) < (b.length : Int) := by omega
      have HP2 : Hid (lparse b = (⟨lv, lc, lh, ld⟩, 0)) := by show _ = _; rw [HPR.out]; simp [hlt]
      clear HPR hlt
      go_wp2_with (first
        | (refine wpList_loadLk rfl rfl w1.heap.size _ rfl rfl HL2.out ?_)
        | (refine wpList_storeLk rfl rfl w.heap.size zlk ⟨lv, lc, lh, ld⟩ rfl rfl rfl HR2.out ?_))
      exact bodyPost_ret (end_c2 rfl Tryd.underlying36 info61 rfl (row_same HR2.out) rfl rfl) rfl ⟨by rw [HP2.out]; rfl, HF2.out.b.trans ((row_kp _ _ _).below HF2.out.b.size (fun q e => by omega))⟩
  · as_aux_lemma =>
    have g1 : ((er : Int) == 0) = false := beq_eq_false_iff_ne.2 (by omega)
    have HP2 : Hid (lparse b = (Lk.none, er)) := by show _ = _; rw [HPR.out]; simp [he]
    clear HPR he
    go_wp2_with (refine wpList_zero rfl rfl w.heap.size rfl rfl HR2.out ?_)
    exact bodyPost_ret (end_c2 rfl Tryd.underlying36 info61 rfl HR2.out rfl rfl) rfl ⟨by rw [HP2.out]; rfl, HF2.out.b⟩
end
end Go.Proofs.YtadilnmkjcmnnaaDoor
