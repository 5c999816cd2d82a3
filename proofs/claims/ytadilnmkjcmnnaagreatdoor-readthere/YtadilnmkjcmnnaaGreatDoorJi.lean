import Derived.Test.YtadilnmkjcmnnaaGreatDoorJh
import Derived.Test.YtadilnmkjcmnnaaGreatDoorSlav
import Derived.Laws.Externs
import Derived.Laws.Bits64
import Derived.Test.YtadilnmkjcmnnaaGreatDoorJb
import Derived.Test.YtadilnmkjcmnnaaGreatDoorJe
import Derived.ScopeJumps
namespace Go.Proofs.YtadilnmkjcmnnaaGreatDoor
section
open Go.RowKit Go
/-- Keys' order. -/
def bfr (a b : List Nat) : Bool := if a.length = b.length then blt a b else decide (a.length < b.length)
theorem nat_ne {a b : Nat} : ((a : Int) != (b : Int)) = decide (a ≠ b) := by
  rw [Bool.eq_iff_iff]
  simp
  omega
end
section
open Go.RowKit Go
/-- The library's tables of UTF-8 lie as its text lays them. -/
def Tabs (w : World) : Prop := Lib.Utf8Tabs (Tryz.laysValid_ren.g 3) (Tryz.laysValid_ren.g 4) w
theorem Tabs.next {w w' : World} (h : Tabs w) (hb : Below w.heap.size w w') : Tabs w' := Utf8Tabs_below h hb
/-- No good UTF-8. -/
def badb (s : ByteArray) : Bool := !Lib.validD s.data.toList
theorem valid_any (s : ByteArray) (w : World) (hs : s.size ≤ 140737488351232) (hT : Tabs w) : Calls Tryz.prog 132 #[.string s] w fun e w' => e = .returned (.bool (!badb s)) ∧ Below w.heap.size w w' := by
  unfold badb
  rw [Bool.not_not]
  exact Any.utf8_ValidString Tryz.laysValid s w (by omega) hT
end
section
open Go.RowKit Go
/-- Finite, by its bits. -/
def finb (b : Nat) : Bool := decide (b % 9223372036854775808 < 9218868437227405312)
theorem read_def (b : Nat) : Ieee.double.read b = (if b % 9223372036854775808 < 4503599627370496 then .number (b / 9223372036854775808 % 2 == 1) (b % 9223372036854775808) (-1074) else if b % 9223372036854775808 < 9218868437227405312 then .number (b / 9223372036854775808 % 2 == 1) (4503599627370496 + b % 9223372036854775808 % 4503599627370496) (-1074 + ((b % 9223372036854775808 / 4503599627370496 - 1 : Nat) : Int)) else if b % 9223372036854775808 = 9218868437227405312 then .infinity (b / 9223372036854775808 % 2 == 1) else .nan (b / 9223372036854775808 % 2 == 1) (b % 9223372036854775808 - 9218868437227405312)) := rfl
/-- A finite float's magnitude. -/
theorem read_fin {b : Nat} (h : b % 9223372036854775808 < 9218868437227405312) : ∃ m p, Ieee.double.read b = .number (b / 9223372036854775808 % 2 == 1) m p ∧ m ≤ 9007199254740991 ∧ p ≤ 971 := by
  rw [read_def]
  by_cases h1 : b % 9223372036854775808 < 4503599627370496
  · rw [if_pos h1]
    exact ⟨_, _, rfl, by omega, by omega⟩
  · rw [if_neg h1, if_pos h]
    exact ⟨_, _, rfl, by omega, by omega⟩
theorem ord_self (b : Nat) : (Ieee.double.order b b != some .eq) = decide (9218868437227405312 < b % 9223372036854775808) := by
  unfold Ieee.Format.order
  by_cases h : b % 9223372036854775808 < 9218868437227405312
  · obtain ⟨m, p, e, _, _⟩ := read_fin h
    rw [e, decide_eq_false (by omega)]
    simp [Ieee.Datum.order]
  · rw [read_def, if_neg (by omega), if_neg h]
    by_cases h2 : b % 9223372036854775808 = 9218868437227405312
    · rw [if_pos h2, decide_eq_false (by omega)]
      simp [Ieee.Datum.order]
    · rw [if_neg h2, decide_eq_true (by omega)]
      simp [Ieee.Datum.order]
theorem ord_max {b : Nat} (hb : b ≤ 9218868437227405312) : (Ieee.double.order b 9218868437227405311 == some .gt) = decide (b = 9218868437227405312) := by
  have hm : b % 9223372036854775808 = b := Nat.mod_eq_of_lt (by omega)
  have hd : b / 9223372036854775808 % 2 = 0 := by omega
  have e2 : Ieee.double.read 9218868437227405311 = .number false 9007199254740991 971 := by rfl
  unfold Ieee.Format.order
  rw [e2]
  by_cases h : b < 9218868437227405312
  · obtain ⟨m, p, e, hmm, hp⟩ := read_fin (b := b) (by omega)
    rw [e, decide_eq_false (by omega), hd]
    have hmin : min p (971 : Int) = p := by omega
    have hsh : m ≤ 9007199254740991 <<< (971 - p).toNat := by
      rw [Nat.shiftLeft_eq]
      exact Nat.le_trans hmm (Nat.le_mul_of_pos_right _ (Nat.two_pow_pos _))
    simp only [Ieee.Datum.order, hmin, Int.sub_self, Ieee.signed]
    generalize 9007199254740991 <<< (971 - p).toNat = K at *
    have h3 : compare ((m <<< (0 : Int).toNat : Nat) : Int) ((K : Nat) : Int) ≠ .gt := by
      intro hc
      have := Int.compare_eq_gt.1 hc
      simp at this
      omega
    simp at h3 ⊢
    exact h3
  · have e : b = 9218868437227405312 := by omega
    subst e
    rfl
set_option maxRecDepth 1000000 in
theorem frombits_any (b : Nat) (w : World) : (callFunc 110 #[.int .u64 (b : Nat)]).run Tryz.prog w = .ok (.value (.float .f64 b)) w := by
  rw [run_callFunc_extern Tryz.func110 (by kernel_rfl) (by kernel_rfl) (by kernel_rfl) (e := Extern.MathFloatBits.float64frombits) (by kernel_rfl)]
  rfl
set_option maxRecDepth 1000000 in
theorem tobits_any (b : Nat) (w : World) : (callFunc 180 #[.float .f64 b]).run Tryz.prog w = .ok (.value (.int .u64 (b : Nat))) w := by
  rw [run_callFunc_extern Tryz.func180 (by kernel_rfl) (by kernel_rfl) (by kernel_rfl) (e := Extern.MathFloatBits.float64bits) (by kernel_rfl)]
  rfl
set_option maxRecDepth 1000000 in
theorem isnan_any (b : Nat) (w : World) : Calls Tryz.prog 130 #[.float .f64 b] w fun e w' => e = .returned (.bool (decide (9218868437227405312 < b % 9223372036854775808))) ∧ w' = w := by
  have HE : Hid ((FloatKind.f64.format.order b b != some .eq) = decide (9218868437227405312 < b % 9223372036854775808)) := ord_self b
  go_enter Tryz.func130, Tryz.ntmps130
  go_wp2_with fail
  go_ret
  exact ⟨by rw [← HE.out]; rfl, rfl⟩
theorem andnot_top (b : Nat) (hb : b < 18446744073709551616) : bits .andNot .u64 (b : Int) 9223372036854775808 = ((b % 9223372036854775808 : Nat) : Int) := by
  have e1 : (BitVec.ofInt 64 (b : Int)).toNat = b := by
    simp
    omega
  have e2 : (~~~ (BitVec.ofInt 64 9223372036854775808)).toNat = 9223372036854775807 := by decide
  show IntKind.u64.wrap ((BitVec.ofInt 64 (b : Int) &&& ~~~ (BitVec.ofInt 64 9223372036854775808)).toNat : Nat) = _
  rw [BitVec.toNat_and, e1, e2, IntKind.wrap_u64]
  have e3 := Nat.and_two_pow_sub_one_eq_mod b 63
  rw [show (2 ^ 63 - 1 : Nat) = 9223372036854775807 from rfl, show (2 ^ 63 : Nat) = 9223372036854775808 from rfl] at e3
  rw [e3]
  omega
set_option maxRecDepth 1000000 in
theorem abs_any (b : Nat) (hb : b < 18446744073709551616) (w : World) : Calls Tryz.prog 160 #[.float .f64 b] w fun e w' => e = .returned (.float .f64 (b % 9223372036854775808)) ∧ w' = w := by
  have h1 := tobits_any b
  have h2 := frombits_any (b % 9223372036854775808)
  rw [← andnot_top b hb] at h2
  clear hb
  generalize b % 9223372036854775808 = m at *
  go_enter Tryz.func160, Tryz.ntmps160
  go_wp2_with fail
  go_ret
  exact ⟨rfl, rfl⟩
set_option maxRecDepth 1000000 in
theorem isinf_any (b : Nat) (hb : b < 18446744073709551616) (hn : b % 9223372036854775808 ≤ 9218868437227405312) (w : World) : Calls Tryz.prog 131 #[.float .f64 b, .int .i64 0] w fun e w' => e = .returned (.bool (decide (b % 9223372036854775808 = 9218868437227405312))) ∧ w' = w := by
  have HE : Hid ((FloatKind.f64.format.order (b % 9223372036854775808) 9218868437227405311 == some .gt) = decide (b % 9223372036854775808 = 9218868437227405312)) := ord_max hn
  have HA := hide (fun W => abs_any b hb W)
  clear hb hn
  generalize b % 9223372036854775808 = m at *
  go_enter Tryz.func131, Tryz.ntmps131
  go_wp2_with (go_at_call 160; refine (Hid.out HA _).mono ?_; rintro e w' ⟨rfl, rfl⟩)
  go_ret
  exact ⟨by rw [← HE.out]; rfl, rfl⟩
set_option maxRecDepth 1000000 in
theorem finite_any (b : Nat) (hb : b < 18446744073709551616) (w : World) : Calls Tryz.prog 109 #[.float .f64 b] w fun e w' => e = .returned (.bool (finb b)) ∧ w' = w := by
  have HN := hide (fun W => isnan_any b W)
  unfold finb
  by_cases h : 9218868437227405312 < b % 9223372036854775808
  · rw [decide_eq_false (by omega)]
    rw [decide_eq_true h] at HN
    clear h
    go_enter Tryz.func109, Tryz.ntmps109
    go_wp2_with (go_at_call 130; refine (Hid.out HN _).mono ?_; rintro e w' ⟨rfl, rfl⟩)
    go_ret
    exact ⟨rfl, rfl⟩
  · have HI := hide (fun W => isinf_any b hb (by omega) W)
    have HD : Hid (decide (b % 9223372036854775808 < 9218868437227405312) = !decide (b % 9223372036854775808 = 9218868437227405312)) := by
      show _ = _
      rw [Bool.eq_iff_iff]
      simp
      omega
    rw [decide_eq_false h] at HN
    rw [HD.out]
    clear h HD
    generalize decide (b % 9223372036854775808 = 9218868437227405312) = R at *
    go_enter Tryz.func109, Tryz.ntmps109
    go_wp2_with (first
      | (go_at_call 130; refine (Hid.out HN _).mono ?_; rintro e w' ⟨rfl, rfl⟩)
      | (go_at_call 131; refine (Hid.out HI _).mono ?_; rintro e w' ⟨rfl, rfl⟩))
    go_ret
    exact ⟨rfl, rfl⟩
end
section
open Go.RowKit Go
/-! ### Strict reading, plainly -/
/-- The bytes of a string behind its head. -/
def rbody (b : List Nat) : List Nat := if (hrd b).m = 2 ∨ (hrd b).m = 3 then (b.drop (hrd b).u).take (hrd b).n else []
/-- Is it one of MajorOther that trees have? -/
def rknown (h : HR) : Bool := decide (h.i = 20 ∨ h.i = 21 ∨ h.i = 22) || (decide (h.i = 27) && finb h.n)
def rmay (h : HR) (y : List Nat) : Bool := if h.m = 3 then !badb (nstr y) else if h.m = 6 then decide (h.n = 42) else if h.m = 7 then rknown h else true
/-- May it be what it is wanted as: plain 0, a key 1, a name 2? -/
def rfit (want : Nat) (h : HR) (y : List Nat) : Bool := if want = 1 then decide (h.m = 3) else if want = 2 then decide (h.m = 2 ∧ y.head? = some 0 ∧ (lparse y.tail).2 = 0) else true
/-- The item's fault by itself. -/
def rlook (want : Nat) (b : List Nat) : Nat :=
  if (hrd b).e = 20 then 82
  else if (hrd b).e ≠ 0 ∨ (hrd b).i = 31 then 83
  else if ((hrd b).m = 2 ∨ (hrd b).m = 3) ∧ b.length - (hrd b).u < (hrd b).n then 82
  else if rmay (hrd b) (rbody b) = false ∨ rfit want (hrd b) (rbody b) = false then 83
  else 0
def rnest (b : List Nat) : Bool := match b with | [] => false | x :: _ => decide (x / 32 = 4 ∨ x / 32 = 5)
/-- Does a key stand behind the one ahead of it? -/
def rrise (ks : List ByteArray) (s : ByteArray) : Bool := match ks.getLast? with | none => true | some k => bfr (sl k) (sl s)
/-- The fault at a place. -/
def rtake (want : Nat) (full : Bool) (ks : List ByteArray) (b : List Nat) : Nat :=
  if rnest b = true ∧ full = true then 81
  else if rlook want b ≠ 0 then rlook want b
  else if (hrd b).s = false ∨ (want = 1 ∧ rrise ks (nstr (rbody b)) = false) then 84
  else 0
def rused (b : List Nat) : Nat := (hrd b).u + (rbody b).length

theorem hrd_app {b tl : List Nat} (h : (hrd b).e ≠ 20) : hrd (b ++ tl) = hrd b ∧ (hrd b).u ≤ b.length := by
  cases b with
  | nil => exact absurd rfl h
  | cons x r =>
    by_cases h1 : 27 < x % 32
    · by_cases h2 : x % 32 = 31 ∧ x / 32 ≠ 0 ∧ x / 32 ≠ 1 ∧ x / 32 ≠ 6
      · rw [List.cons_append, hrd_end h2.1 h2.2, hrd_end h2.1 h2.2]
        exact ⟨rfl, by simp⟩
      · rw [List.cons_append, hrd_info h1 h2, hrd_info h1 h2]
        exact ⟨rfl, by simp [HR.bad]⟩
    · by_cases h2 : x % 32 < 24
      · rw [List.cons_append, hrd_small h2, hrd_small h2]
        exact ⟨rfl, by simp⟩
      · by_cases h3 : r.length < hwide (x % 32)
        · exact absurd (by rw [hrd_short (by omega) (by omega) h3]; rfl) h
        · have h3' : ¬ (r ++ tl).length < hwide (x % 32) := by rw [List.length_append]; omega
          have ht : (r ++ tl).take (hwide (x % 32)) = r.take (hwide (x % 32)) := List.take_append_of_le_length (by omega)
          by_cases h4 : x / 32 = 7 ∧ x % 32 = 24 ∧ bnum 0 (r.take (hwide (x % 32))) < 32
          · have e : ∀ q : List Nat, ¬ q.length < hwide (x % 32) → bnum 0 (q.take (hwide (x % 32))) < 32 → hrd (x :: q) = .bad 21 := fun q a1 a2 => hrd_low h4.2.1 a1 h4.1 a2
            rw [List.cons_append, e _ h3' (by rw [ht]; exact h4.2.2), e _ h3 h4.2.2]
            exact ⟨rfl, by simp [HR.bad]⟩
          · rw [List.cons_append, hrd_long (by omega) (by omega) h3' (by rw [ht]; exact h4), hrd_long (by omega) (by omega) h3 h4, ht]
            refine ⟨rfl, ?_⟩
            simp only [List.length_cons]
            omega
theorem rlook_app {want : Nat} {b tl : List Nat} (h : rlook want b ≠ 82) : rlook want (b ++ tl) = rlook want b ∧ (rlook want b = 0 → rbody (b ++ tl) = rbody b ∧ hrd (b ++ tl) = hrd b ∧ rused b ≤ b.length) := by
  by_cases h1 : (hrd b).e = 20
  · exact absurd (by unfold rlook; rw [if_pos h1]) h
  obtain ⟨e, hu⟩ := hrd_app (tl := tl) h1
  by_cases h2 : (hrd b).e ≠ 0 ∨ (hrd b).i = 31
  · have e1 : ∀ q : List Nat, hrd q = hrd b → rlook want q = 83 := fun q hq => by unfold rlook; rw [hq, if_neg h1, if_pos h2]
    rw [e1 _ e, e1 b rfl]
    exact ⟨rfl, fun h => by cases h⟩
  by_cases h3 : ((hrd b).m = 2 ∨ (hrd b).m = 3) ∧ b.length - (hrd b).u < (hrd b).n
  · exact absurd (by unfold rlook; rw [if_neg h1, if_neg h2, if_pos h3]) h
  have h3' : ¬ (((hrd b).m = 2 ∨ (hrd b).m = 3) ∧ (b ++ tl).length - (hrd b).u < (hrd b).n) := fun ⟨a1, a2⟩ => h3 ⟨a1, by rw [List.length_append] at a2; omega⟩
  have hb : rbody (b ++ tl) = rbody b := by
    unfold rbody
    rw [e]
    by_cases hm : (hrd b).m = 2 ∨ (hrd b).m = 3
    · rw [if_pos hm, if_pos hm, List.drop_append_of_le_length hu]
      refine List.take_append_of_le_length ?_
      rw [List.length_drop]
      have : ¬ b.length - (hrd b).u < (hrd b).n := fun h => h3 ⟨hm, h⟩
      omega
    · rw [if_neg hm, if_neg hm]
  have key : ∀ q : List Nat, hrd q = hrd b → rbody q = rbody b → ¬ (((hrd b).m = 2 ∨ (hrd b).m = 3) ∧ q.length - (hrd b).u < (hrd b).n) → rlook want q = if rmay (hrd b) (rbody b) = false ∨ rfit want (hrd b) (rbody b) = false then 83 else 0 := fun q a1 a2 a3 => by
    unfold rlook
    rw [a1, if_neg h1, if_neg h2, if_neg a3, a2]
  refine ⟨by rw [key _ e hb h3', key b rfl rfl h3], fun _ => ⟨hb, e, ?_⟩⟩
  unfold rused rbody
  by_cases hm : (hrd b).m = 2 ∨ (hrd b).m = 3
  · rw [if_pos hm, List.length_take, List.length_drop]
    omega
  · rw [if_neg hm]
    simpa using hu
theorem rlook_le {want : Nat} {b : List Nat} (h : rlook want b = 0) : rused b ≤ b.length := ((rlook_app (tl := []) (b := b) (want := want) (by rw [h]; decide)).2 h).2.2
theorem hrd_pos {b : List Nat} (h : (hrd b).e = 0) : 0 < (hrd b).u := by
  cases b with
  | nil => cases h
  | cons x r =>
    by_cases h1 : 27 < x % 32
    · by_cases h2 : x % 32 = 31 ∧ x / 32 ≠ 0 ∧ x / 32 ≠ 1 ∧ x / 32 ≠ 6
      · rw [hrd_end h2.1 h2.2]; exact Nat.one_pos
      · rw [hrd_info h1 h2] at h; cases h
    · by_cases h2 : x % 32 < 24
      · rw [hrd_small h2]; exact Nat.one_pos
      · by_cases h3 : r.length < hwide (x % 32)
        · rw [hrd_short (by omega) (by omega) h3] at h; cases h
        · by_cases h4 : x / 32 = 7 ∧ x % 32 = 24 ∧ bnum 0 (r.take (hwide (x % 32))) < 32
          · rw [hrd_low h4.2.1 h3 h4.1 h4.2.2] at h; cases h
          · rw [hrd_long (by omega) (by omega) h3 h4]
            show 0 < 1 + _
            omega
theorem rlook_pos {want : Nat} {b : List Nat} (h : rlook want b = 0) : 0 < rused b := by
  unfold rlook at h
  by_cases h1 : (hrd b).e = 20
  · rw [if_pos h1] at h; cases h
  rw [if_neg h1] at h
  by_cases h2 : (hrd b).e ≠ 0 ∨ (hrd b).i = 31
  · rw [if_pos h2] at h; cases h
  have := hrd_pos (b := b) (by
    rcases Nat.decEq (hrd b).e 0 with h3 | h3
    · exact absurd (.inl h3) h2
    · exact h3)
  unfold rused
  omega
end
section
open Go.RowKit Go
/-- A list or a map that is open: its kind, keys, items, how many are wanted. -/
structure Nst where
  k : Int
  ks : List ByteArray
  is : List Tv
  n : Nat
def Nst.val (x : Nst) : Tv := .mk x.k false false 0 0 ⟨#[]⟩ [] ⟨0, 0, 0, []⟩ x.ks x.is
def tz8 (k : Int) : Tv := .mk k false false 0 0 ⟨#[]⟩ [] ⟨0, 0, 0, []⟩ [] []
/-- The tree that an item is which has no items and no name. -/
def rleaf (h : HR) (y : List Nat) : Tv :=
  if h.m = 0 ∨ h.m = 1 then .mk 3 false (decide (h.m = 1)) h.n 0 ⟨#[]⟩ [] ⟨0, 0, 0, []⟩ [] []
  else if h.m = 2 then .mk 6 false false 0 0 ⟨#[]⟩ y ⟨0, 0, 0, []⟩ [] []
  else if h.m = 3 then .mk 5 false false 0 0 (nstr y) [] ⟨0, 0, 0, []⟩ [] []
  else if h.i = 27 then .mk 4 false false 0 h.n ⟨#[]⟩ [] ⟨0, 0, 0, []⟩ [] []
  else if h.i = 22 then tz8 1
  else .mk 2 (decide (h.i = 21)) false 0 0 ⟨#[]⟩ [] ⟨0, 0, 0, []⟩ [] []
/-- What is gone on with. -/
inductive Lab where
  | plain | name | done (v : Tv) | inside
structure Mst where
  lab : Lab
  p : Nat
  st : List Nst
/-- The answer: its code, its place, its tree. -/
structure Res where
  e : Nat
  p : Nat
  v : Tv
def mstep (b : List Nat) (d : Nat) (s : Mst) : Mst ⊕ Res :=
  match s.lab with
  | .plain =>
    if rtake 0 (decide (s.st.length = d)) [] (b.drop s.p) ≠ 0 then .inr ⟨rtake 0 (decide (s.st.length = d)) [] (b.drop s.p), s.p, tz8 0⟩
    else if (hrd (b.drop s.p)).m = 6 then .inl ⟨.name, s.p + rused (b.drop s.p), s.st⟩
    else if (hrd (b.drop s.p)).m = 4 then .inl ⟨.inside, s.p + rused (b.drop s.p), ⟨8, [], [], (hrd (b.drop s.p)).n⟩ :: s.st⟩
    else if (hrd (b.drop s.p)).m = 5 then .inl ⟨.inside, s.p + rused (b.drop s.p), ⟨9, [], [], (hrd (b.drop s.p)).n⟩ :: s.st⟩
    else .inl ⟨.done (rleaf (hrd (b.drop s.p)) (rbody (b.drop s.p))), s.p + rused (b.drop s.p), s.st⟩
  | .name =>
    if rtake 2 (decide (s.st.length = d)) [] (b.drop s.p) ≠ 0 then .inr ⟨rtake 2 (decide (s.st.length = d)) [] (b.drop s.p), s.p, tz8 0⟩
    else .inl ⟨.done (.mk 7 false false 0 0 ⟨#[]⟩ [] (lparse (rbody (b.drop s.p)).tail).1 [] []), s.p + rused (b.drop s.p), s.st⟩
  | .done v =>
    match s.st with
    | [] => .inr ⟨0, s.p, v⟩
    | x :: q => .inl ⟨.inside, s.p, ⟨x.k, x.ks, x.is ++ [v], x.n - 1⟩ :: q⟩
  | .inside =>
    match s.st with
    | [] => .inr ⟨0, s.p, tz8 0⟩
    | x :: q =>
      if x.n = 0 then .inl ⟨.done x.val, s.p, q⟩
      else if x.k = 8 then .inl ⟨.plain, s.p, s.st⟩
      else if rtake 1 (decide (s.st.length = d)) x.ks (b.drop s.p) ≠ 0 then .inr ⟨rtake 1 (decide (s.st.length = d)) x.ks (b.drop s.p), s.p, tz8 0⟩
      else .inl ⟨.plain, s.p + rused (b.drop s.p), ⟨x.k, x.ks ++ [nstr (rbody (b.drop s.p))], x.is, x.n⟩ :: q⟩
def mrun (b : List Nat) (d : Nat) : Nat → Mst → Option Res
  | 0, _ => none
  | n + 1, s => match mstep b d s with
    | .inl s' => mrun b d n s'
    | .inr r => some r
theorem mrun_next {b : List Nat} {d n : Nat} {s s' : Mst} (h : mstep b d s = .inl s') : mrun b d (n + 1) s = mrun b d n s' := by rw [mrun, h]
theorem mrun_end {b : List Nat} {d n : Nat} {s : Mst} {r : Res} (h : mstep b d s = .inr r) : mrun b d (n + 1) s = some r := by rw [mrun, h]
theorem mrun_more {b : List Nat} {d : Nat} : ∀ {n m : Nat} {s : Mst} {r : Res}, n ≤ m → mrun b d n s = some r → mrun b d m s = some r
  | 0, _, _, _, _, h => by cases h
  | n + 1, 0, _, _, hm, _ => by omega
  | n + 1, m + 1, s, r, hm, h => by
    cases hs : mstep b d s with
    | inl s' =>
      rw [mrun_next hs] at h ⊢
      exact mrun_more (by omega) h
    | inr r' =>
      rw [mrun_end hs] at h ⊢
      exact h
theorem mrun_one {b : List Nat} {d n m : Nat} {s : Mst} {r r' : Res} (h : mrun b d n s = some r) (h' : mrun b d m s = some r') : r = r' := by
  have h1 := mrun_more (Nat.le_max_left n m) h
  have h2 := mrun_more (Nat.le_max_right n m) h'
  rw [h1] at h2
  injection h2
theorem rtake_app {want : Nat} {full : Bool} {ks : List ByteArray} {b tl : List Nat} (h : rtake want full ks b ≠ 82) (hne : b ≠ [] ∨ True) : rtake want full ks (b ++ tl) = rtake want full ks b ∧ (rtake want full ks b = 0 → rbody (b ++ tl) = rbody b ∧ hrd (b ++ tl) = hrd b ∧ rused (b ++ tl) = rused b ∧ rused b ≤ b.length) := by
  cases b with
  | nil => exact absurd (by cases full <;> rfl) h
  | cons x r =>
    have en : rnest (x :: r ++ tl) = rnest (x :: r) := rfl
    unfold rtake at h ⊢
    rw [en]
    by_cases h1 : rnest (x :: r) = true ∧ full = true
    · rw [if_pos h1, if_pos h1]
      exact ⟨rfl, fun h => by cases h⟩
    · rw [if_neg h1] at h
      rw [if_neg h1, if_neg h1]
      have h2 : rlook want (x :: r) ≠ 82 := fun e => by
        rw [if_pos (by rw [e]; decide)] at h
        exact h e
      obtain ⟨e1, e2⟩ := rlook_app (tl := tl) h2
      rw [e1]
      by_cases h3 : rlook want (x :: r) ≠ 0
      · rw [if_pos h3, if_pos h3]
        exact ⟨rfl, fun e => absurd e h3⟩
      · have h4 : rlook want (x :: r) = 0 := Decidable.not_not.1 h3
        obtain ⟨f1, f2, f3⟩ := e2 h4
        rw [if_neg h3, if_neg h3, f2, f1]
        refine ⟨rfl, fun _ => ⟨rfl, rfl, ?_, f3⟩⟩
        unfold rused
        rw [f1, f2]
theorem rtake_look {want : Nat} {full : Bool} {ks : List ByteArray} {b : List Nat} (h : rtake want full ks b = 0) : rlook want b = 0 ∧ ¬ (rnest b = true ∧ full = true) := by
  unfold rtake at h
  by_cases h1 : rnest b = true ∧ full = true
  · rw [if_pos h1] at h; cases h
  rw [if_neg h1] at h
  by_cases h2 : rlook want b ≠ 0
  · rw [if_pos h2] at h; exact absurd h h2
  exact ⟨Decidable.not_not.1 h2, h1⟩
/-- The step, with something behind the bytes. -/
theorem mstep_app {b tl : List Nat} {d : Nat} {s : Mst} (hp : s.p ≤ b.length) : (∀ s', mstep b d s = .inl s' → mstep (b ++ tl) d s = .inl s' ∧ s'.p ≤ b.length ∧ s.p ≤ s'.p) ∧ (∀ r, mstep b d s = .inr r → r.p = s.p ∧ (r.e ≠ 82 → mstep (b ++ tl) d s = .inr r)) := by
  obtain ⟨lab, p, st⟩ := s
  simp only at hp
  have hd : (b ++ tl).drop p = b.drop p ++ tl := List.drop_append_of_le_length hp
  have hl : (b.drop p).length = b.length - p := List.length_drop
  have key : ∀ want ks, (rtake want (decide (st.length = d)) ks (b.drop p) ≠ 82 → rtake want (decide (st.length = d)) ks (b.drop p ++ tl) = rtake want (decide (st.length = d)) ks (b.drop p)) ∧ (rtake want (decide (st.length = d)) ks (b.drop p) = 0 → rbody (b.drop p ++ tl) = rbody (b.drop p) ∧ hrd (b.drop p ++ tl) = hrd (b.drop p) ∧ rused (b.drop p ++ tl) = rused (b.drop p) ∧ p + rused (b.drop p) ≤ b.length) := fun want ks => by
    refine ⟨fun h => (rtake_app h (.inr trivial)).1, fun h => ?_⟩
    obtain ⟨a1, a2, a3, a4⟩ := (rtake_app (tl := tl) (by rw [h]; decide) (.inr trivial)).2 h
    exact ⟨a1, a2, a3, by omega⟩
  cases lab with
  | plain =>
    obtain ⟨k1, k2⟩ := key 0 []
    unfold mstep
    simp only [hd]
    by_cases h0 : rtake 0 (decide (st.length = d)) [] (b.drop p) ≠ 0
    · rw [if_pos h0]
      refine ⟨fun s' h => (by cases h), fun r h => ?_⟩
      injection h with h
      subst h
      exact ⟨rfl, fun he => by rw [k1 he, if_pos h0]⟩
    · have h1 : rtake 0 (decide (st.length = d)) [] (b.drop p) = 0 := Decidable.not_not.1 h0
      obtain ⟨a1, a2, a3, a4⟩ := k2 h1
      rw [if_neg h0, k1 (by rw [h1]; decide), if_neg h0, a1, a2, a3]
      refine ⟨fun s' h => ⟨h, ?_⟩, fun r h => ?_⟩
      · revert h
        repeat' split
        all_goals (intro h; injection h with h; subst h; exact ⟨a4, Nat.le_add_right _ _⟩)
      · revert h
        repeat' split
        all_goals (intro h; cases h)
  | name =>
    obtain ⟨k1, k2⟩ := key 2 []
    unfold mstep
    simp only [hd]
    by_cases h0 : rtake 2 (decide (st.length = d)) [] (b.drop p) ≠ 0
    · rw [if_pos h0]
      refine ⟨fun s' h => (by cases h), fun r h => ?_⟩
      injection h with h
      subst h
      exact ⟨rfl, fun he => by rw [k1 he, if_pos h0]⟩
    · have h1 : rtake 2 (decide (st.length = d)) [] (b.drop p) = 0 := Decidable.not_not.1 h0
      obtain ⟨a1, a2, a3, a4⟩ := k2 h1
      rw [if_neg h0, k1 (by rw [h1]; decide), if_neg h0, a1, a3]
      refine ⟨fun s' h => ⟨h, ?_⟩, fun r h => by cases h⟩
      injection h with h
      subst h
      exact ⟨a4, Nat.le_add_right _ _⟩
  | done v =>
    cases st with
    | nil =>
      refine ⟨fun s' h => (by cases h), fun r h => ⟨?_, fun _ => h⟩⟩
      injection h with h
      subst h
      rfl
    | cons x q =>
      refine ⟨fun s' h => ⟨h, ?_⟩, fun r h => by cases h⟩
      injection h with h
      subst h
      exact ⟨hp, Nat.le_refl _⟩
  | inside =>
    cases st with
    | nil =>
      refine ⟨fun s' h => (by cases h), fun r h => ⟨?_, fun _ => h⟩⟩
      injection h with h
      subst h
      rfl
    | cons x q =>
      obtain ⟨k1, k2⟩ := key 1 x.ks
      unfold mstep
      simp only [hd]
      by_cases hn : x.n = 0
      · rw [if_pos hn, if_pos hn]
        refine ⟨fun s' h => ⟨h, ?_⟩, fun r h => by cases h⟩
        injection h with h
        subst h
        exact ⟨hp, Nat.le_refl _⟩
      rw [if_neg hn, if_neg hn]
      by_cases h8 : x.k = 8
      · rw [if_pos h8, if_pos h8]
        refine ⟨fun s' h => ⟨h, ?_⟩, fun r h => by cases h⟩
        injection h with h
        subst h
        exact ⟨hp, Nat.le_refl _⟩
      rw [if_neg h8, if_neg h8]
      by_cases h0 : rtake 1 (decide ((x :: q).length = d)) x.ks (b.drop p) ≠ 0
      · rw [if_pos h0]
        refine ⟨fun s' h => (by cases h), fun r h => ?_⟩
        injection h with h
        subst h
        exact ⟨rfl, fun he => by rw [k1 he, if_pos h0]⟩
      · have h1 : rtake 1 (decide ((x :: q).length = d)) x.ks (b.drop p) = 0 := Decidable.not_not.1 h0
        obtain ⟨a1, a2, a3, a4⟩ := k2 h1
        rw [if_neg h0, k1 (by rw [h1]; decide), if_neg h0, a1, a3]
        refine ⟨fun s' h => ⟨h, ?_⟩, fun r h => by cases h⟩
        injection h with h
        subst h
        exact ⟨a4, Nat.le_add_right _ _⟩
theorem mrun_at {b : List Nat} {d : Nat} : ∀ {n : Nat} {s : Mst} {r : Res}, s.p ≤ b.length → mrun b d n s = some r → s.p ≤ r.p ∧ r.p ≤ b.length
  | 0, _, _, _, h => by cases h
  | n + 1, s, r, hp, h => by
    obtain ⟨h1, h2⟩ := mstep_app (tl := []) (d := d) hp
    cases hs : mstep b d s with
    | inl s' =>
      rw [mrun_next hs] at h
      obtain ⟨_, a1, a2⟩ := h1 s' hs
      obtain ⟨a3, a4⟩ := mrun_at a1 h
      exact ⟨Nat.le_trans a2 a3, a4⟩
    | inr r' =>
      rw [mrun_end hs] at h
      injection h with h
      subst h
      rw [(h2 r' hs).1]
      exact ⟨Nat.le_refl _, hp⟩
/-- A fault that is not too short does not hang on what stands behind; one that is comes no earlier then. -/
theorem mrun_app {b tl : List Nat} {d : Nat} : ∀ {n : Nat} {s : Mst} {r : Res}, s.p ≤ b.length → mrun b d n s = some r → (r.e ≠ 82 → mrun (b ++ tl) d n s = some r) ∧ (∀ m r', mrun (b ++ tl) d m s = some r' → r.p ≤ r'.p)
  | 0, _, _, _, h => by cases h
  | n + 1, s, r, hp, h => by
    obtain ⟨h1, h2⟩ := mstep_app (tl := tl) (d := d) hp
    cases hs : mstep b d s with
    | inl s' =>
      rw [mrun_next hs] at h
      obtain ⟨a0, a1, a2⟩ := h1 s' hs
      obtain ⟨c1, c2⟩ := mrun_app (tl := tl) a1 h
      refine ⟨fun he => by rw [mrun_next a0]; exact c1 he, fun m r' hm => ?_⟩
      cases m with
      | zero => cases hm
      | succ m =>
        rw [mrun_next a0] at hm
        exact c2 m r' hm
    | inr r' =>
      rw [mrun_end hs] at h
      injection h with h
      subst h
      obtain ⟨a1, a2⟩ := h2 r' hs
      refine ⟨fun he => mrun_end (a2 he), fun m r'' hm => ?_⟩
      rw [a1]
      exact (mrun_at (b := b ++ tl) (by rw [List.length_append]; omega) hm).1
end
section
open Go.RowKit Go
theorem rlook_e {want : Nat} {b : List Nat} (h : rlook want b = 0) : (hrd b).e = 0 := by
  unfold rlook at h
  by_cases h1 : (hrd b).e = 20
  · rw [if_pos h1] at h; cases h
  rw [if_neg h1] at h
  by_cases h2 : (hrd b).e ≠ 0 ∨ (hrd b).i = 31
  · rw [if_pos h2] at h; cases h
  rcases Nat.decEq (hrd b).e 0 with h3 | h3
  · exact absurd (.inl h3) h2
  · exact h3
theorem hrd_m {x : Nat} {r : List Nat} (h : (hrd (x :: r)).e = 0) : (hrd (x :: r)).m = x / 32 := by
  by_cases h1 : 27 < x % 32
  · by_cases h2 : x % 32 = 31 ∧ x / 32 ≠ 0 ∧ x / 32 ≠ 1 ∧ x / 32 ≠ 6
    · rw [hrd_end h2.1 h2.2]
    · rw [hrd_info h1 h2] at h; cases h
  · by_cases h2 : x % 32 < 24
    · rw [hrd_small h2]
    · by_cases h3 : r.length < hwide (x % 32)
      · rw [hrd_short (by omega) (by omega) h3] at h; cases h
      · by_cases h4 : x / 32 = 7 ∧ x % 32 = 24 ∧ bnum 0 (r.take (hwide (x % 32))) < 32
        · rw [hrd_low h4.2.1 h3 h4.1 h4.2.2] at h; cases h
        · rw [hrd_long (by omega) (by omega) h3 h4]
theorem rnest_of {b : List Nat} (h : (hrd b).e = 0) (hm : (hrd b).m = 4 ∨ (hrd b).m = 5) : rnest b = true := by
  cases b with
  | nil => cases h
  | cons x r =>
    rw [hrd_m h] at hm
    exact decide_eq_true hm
theorem rtake_deep {want : Nat} {full full' : Bool} {ks : List ByteArray} {b : List Nat} (hf : full' = true → full = true) (h : rtake want full ks b ≠ 81) : rtake want full' ks b = rtake want full ks b := by
  have h1 : ¬ (rnest b = true ∧ full = true) := fun e => h (by unfold rtake; rw [if_pos e])
  have h2 : ¬ (rnest b = true ∧ full' = true) := fun e => h1 ⟨e.1, hf e.2⟩
  unfold rtake
  rw [if_neg h1, if_neg h2]
theorem mstep_deep {b : List Nat} {d d' : Nat} {s : Mst} (hs : s.st.length ≤ d) (hd : d ≤ d') : (∀ s', mstep b d s = .inl s' → mstep b d' s = .inl s' ∧ s'.st.length ≤ d) ∧ (∀ r, mstep b d s = .inr r → r.p = s.p ∧ (r.e ≠ 81 → mstep b d' s = .inr r)) := by
  obtain ⟨lab, p, st⟩ := s
  simp only at hs
  have hf : decide (st.length = d') = true → decide (st.length = d) = true := fun h => by
    rw [decide_eq_true_eq] at h ⊢
    omega
  have key : ∀ want ks, rtake want (decide (st.length = d)) ks (b.drop p) ≠ 81 → rtake want (decide (st.length = d')) ks (b.drop p) = rtake want (decide (st.length = d)) ks (b.drop p) := fun want ks h => rtake_deep hf h
  cases lab with
  | plain =>
    have k1 := key 0 []
    unfold mstep
    by_cases h0 : rtake 0 (decide (st.length = d)) [] (b.drop p) ≠ 0
    · simp only [if_pos h0]
      refine ⟨fun s' h => (by cases h), fun r h => ?_⟩
      injection h with h
      subst h
      exact ⟨rfl, fun he => by rw [k1 he, if_pos h0]⟩
    · have h1 : rtake 0 (decide (st.length = d)) [] (b.drop p) = 0 := Decidable.not_not.1 h0
      obtain ⟨hl, hn⟩ := rtake_look h1
      have hlt : (hrd (b.drop p)).m = 4 ∨ (hrd (b.drop p)).m = 5 → st.length + 1 ≤ d := fun hm => by
        have h2 := rnest_of (rlook_e hl) hm
        have h3 : ¬ st.length = d := fun e => hn ⟨h2, decide_eq_true e⟩
        omega
      simp only [if_neg h0, k1 (by rw [h1]; decide)]
      refine ⟨fun s' h => ⟨h, ?_⟩, fun r h => ?_⟩
      · revert h
        by_cases m6 : (hrd (b.drop p)).m = 6
        · rw [if_pos m6]; intro h; injection h with h; subst h; exact hs
        rw [if_neg m6]
        by_cases m4 : (hrd (b.drop p)).m = 4
        · rw [if_pos m4]; intro h; injection h with h; subst h; exact hlt (.inl m4)
        rw [if_neg m4]
        by_cases m5 : (hrd (b.drop p)).m = 5
        · rw [if_pos m5]; intro h; injection h with h; subst h; exact hlt (.inr m5)
        rw [if_neg m5]
        intro h; injection h with h; subst h; exact hs
      · revert h
        repeat' split
        all_goals (intro h; cases h)
  | name =>
    have k1 := key 2 []
    unfold mstep
    by_cases h0 : rtake 2 (decide (st.length = d)) [] (b.drop p) ≠ 0
    · simp only [if_pos h0]
      refine ⟨fun s' h => (by cases h), fun r h => ?_⟩
      injection h with h
      subst h
      exact ⟨rfl, fun he => by rw [k1 he, if_pos h0]⟩
    · have h1 : rtake 2 (decide (st.length = d)) [] (b.drop p) = 0 := Decidable.not_not.1 h0
      simp only [if_neg h0, k1 (by rw [h1]; decide)]
      refine ⟨fun s' h => ⟨h, ?_⟩, fun r h => by cases h⟩
      injection h with h
      subst h
      exact hs
  | done v =>
    cases st with
    | nil =>
      refine ⟨fun s' h => (by cases h), fun r h => ⟨?_, fun _ => h⟩⟩
      injection h with h
      subst h
      rfl
    | cons x q =>
      refine ⟨fun s' h => ⟨h, ?_⟩, fun r h => by cases h⟩
      injection h with h
      subst h
      exact hs
  | inside =>
    cases st with
    | nil =>
      refine ⟨fun s' h => (by cases h), fun r h => ⟨?_, fun _ => h⟩⟩
      injection h with h
      subst h
      rfl
    | cons x q =>
      have k1 := key 1 x.ks
      unfold mstep
      dsimp only
      by_cases hn : x.n = 0
      · rw [if_pos hn, if_pos hn]
        refine ⟨fun s' h => ⟨h, ?_⟩, fun r h => by cases h⟩
        injection h with h
        subst h
        exact Nat.le_of_succ_le hs
      rw [if_neg hn, if_neg hn]
      by_cases h8 : x.k = 8
      · rw [if_pos h8, if_pos h8]
        refine ⟨fun s' h => ⟨h, ?_⟩, fun r h => by cases h⟩
        injection h with h
        subst h
        exact hs
      rw [if_neg h8, if_neg h8]
      by_cases h0 : rtake 1 (decide ((x :: q).length = d)) x.ks (b.drop p) ≠ 0
      · rw [if_pos h0]
        refine ⟨fun s' h => (by cases h), fun r h => ?_⟩
        injection h with h
        subst h
        exact ⟨rfl, fun he => by rw [k1 he, if_pos h0]⟩
      · have h1 : rtake 1 (decide ((x :: q).length = d)) x.ks (b.drop p) = 0 := Decidable.not_not.1 h0
        rw [if_neg h0, k1 (by rw [h1]; decide), if_neg h0]
        refine ⟨fun s' h => ⟨h, ?_⟩, fun r h => by cases h⟩
        injection h with h
        subst h
        exact hs
/-- A greater depth changes no fault but the one that is too deep, and that one comes no earlier. -/
theorem mrun_deep {b : List Nat} {d d' : Nat} (hd : d ≤ d') : ∀ {n : Nat} {s : Mst} {r : Res}, s.p ≤ b.length → s.st.length ≤ d → mrun b d n s = some r → (r.e ≠ 81 → mrun b d' n s = some r) ∧ (∀ m r', mrun b d' m s = some r' → r.p ≤ r'.p)
  | 0, _, _, _, _, h => by cases h
  | n + 1, s, r, hp, hs, h => by
    obtain ⟨h1, h2⟩ := mstep_deep (b := b) hs hd
    obtain ⟨g1, _⟩ := mstep_app (tl := []) (d := d) hp
    cases hst : mstep b d s with
    | inl s' =>
      rw [mrun_next hst] at h
      obtain ⟨a0, a1⟩ := h1 s' hst
      obtain ⟨_, a2, _⟩ := g1 s' hst
      obtain ⟨c1, c2⟩ := mrun_deep hd a2 a1 h
      refine ⟨fun he => by rw [mrun_next a0]; exact c1 he, fun m r' hm => ?_⟩
      cases m with
      | zero => cases hm
      | succ m =>
        rw [mrun_next a0] at hm
        exact c2 m r' hm
    | inr r' =>
      rw [mrun_end hst] at h
      injection h with h
      subst h
      obtain ⟨a1, a2⟩ := h2 r' hst
      refine ⟨fun he => mrun_end (a2 he), fun m r'' hm => ?_⟩
      rw [a1]
      exact (mrun_at hp hm).1
/-- Where reading begins. -/
def m0 : Mst := ⟨.plain, 0, []⟩
/-- Decode's fault out of First's answer. -/
def dflt (b : List Nat) (r : Res) : Nat × Nat := if r.e = 0 then (if r.p < b.length then (85, r.p) else (0, 0)) else (r.e, r.p)
end
section
open Go.RowKit Go
/-! ### A scope with several labels -/
/-- As Q; by a goto to a label: J of it. -/
def jumps (J : Nat → Act → World → Prop) (Q : Exit → Act → World → Prop) : Exit → Act → World → Prop
  | .goto l, a, w => J l a w
  | e, a, w => Q e a w
theorem jumps_ret (J : Nat → Act → World → Prop) (Q : Exit → Act → World → Prop) (a : Act) (w : World) : jumps J Q .ret a w = Q .ret a w := rfl
theorem jumps_mono {J J' : Nat → Act → World → Prop} {Q : Exit → Act → World → Prop} (h : ∀ l a w, J l a w → J' l a w) (e : Exit) (a : Act) (w : World) (hq : jumps J Q e a w) : jumps J' Q e a w := by
  cases e with
  | goto l => exact h l a w hq
  | normal => exact hq
  | exit id => exact hq
  | ret => exact hq
  | panic ch => exact hq
  | outgrown => exact hq
theorem wp_scope_many {P : Program} {a : Act} {w : World} {Q : Exit → Act → World → Prop} {c : Code} (J : Nat → Nat → Act → World → Prop) (r : Nat → Code)
    (hf : ∀ n l a w, J n l a w → findLabel c l = some (r l))
    (pass : ∀ n l a w, J n l a w → (r l).wp P (jumps (fun l' a' w' => ∃ m, m < n ∧ J m l' a' w') Q) a w)
    (first : c.wp P (jumps (fun l a w => ∃ n, J n l a w) Q) a w) : (Code.scope c).wp P Q a w := by
  intro b k cs
  have hg : ∀ n l a w, J n l a w → gotoIn l (.inScope c :: k) = some (.code (r l) :: .inScope c :: k) := fun n l a w h => by simp [gotoIn, hf n l a w h]
  have key : ∀ n l a w, J n l a w → ∃ e a' w', Q e a' w' ∧ Arrives P (lone (b.at a (.code (r l) :: .inScope c :: k)) cs w) b k cs e a' w' := by
    intro n
    induction n using Nat.strongRecOn with
    | _ n ih =>
      intro l a w hJ
      obtain ⟨e, a₁, w₁, hq, harr⟩ := pass n l a w hJ b (.inScope c :: k) cs
      cases e with
      | normal => exact ⟨.normal, a₁, w₁, hq, Steps.trans harr (.one step_inScope)⟩
      | exit id => exact ⟨.exit id, a₁, w₁, hq, fun k' hk => harr k' (by simp [exitTo, hk])⟩
      | goto l' =>
        obtain ⟨m, hlt, hJ'⟩ := hq
        obtain ⟨e₂, a₂, w₂, hq₂, harr₂⟩ := ih m hlt l' a₁ w₁ hJ'
        exact ⟨e₂, a₂, w₂, hq₂, .of_steps (harr _ (hg m l' a₁ w₁ hJ')) harr₂⟩
      | ret => exact ⟨_, a₁, w₁, hq, harr⟩
      | panic ch => exact ⟨_, a₁, w₁, hq, harr⟩
      | outgrown => exact ⟨_, a₁, w₁, hq, harr⟩
  obtain ⟨e, a₁, w₁, hq, harr⟩ := first b (.inScope c :: k) cs
  cases e with
  | normal => exact ⟨.normal, a₁, w₁, hq, .head step_scope (Steps.trans harr (.one step_inScope))⟩
  | exit id => exact ⟨.exit id, a₁, w₁, hq, fun k' hk => .head step_scope (harr k' (by simp [exitTo, hk]))⟩
  | goto l' =>
    obtain ⟨n, hJ'⟩ := hq
    obtain ⟨e₂, a₂, w₂, hq₂, harr₂⟩ := key n l' a₁ w₁ hJ'
    exact ⟨e₂, a₂, w₂, hq₂, .of_steps (.head step_scope (harr _ (hg n l' a₁ w₁ hJ'))) harr₂⟩
  | ret => exact ⟨_, a₁, w₁, hq, .of_steps (.one step_scope) harr⟩
  | panic ch => exact ⟨_, a₁, w₁, hq, .of_steps (.one step_scope) harr⟩
  | outgrown => exact ⟨_, a₁, w₁, hq, .of_steps (.one step_scope) harr⟩

/-! ### How far the machine goes -/
def mlw : Lab → Nat
  | .plain => 0
  | .name => 0
  | .done _ => 2
  | .inside => 1
/-- How far it still is at most. -/
def mmu (b : List Nat) (s : Mst) : Nat := 4 * (b.length - s.p) + 2 * s.st.length + mlw s.lab
/-- What holds wherever it stands. -/
structure Inv8 (b : List Nat) (d : Nat) (s : Mst) : Prop where
  p : s.p ≤ b.length
  d : s.st.length ≤ d
  k : ∀ x ∈ s.st, x.ks.length ≤ s.p ∧ x.n < 18446744073709551616 ∧ (x.k = 8 ∨ x.k = 9)
  t : ∀ x ∈ s.st.tail, x.is.length + 1 ≤ s.p ∧ 0 < x.n
  h : ∀ x, s.st.head? = some x → x.is.length ≤ s.p ∧ (s.lab = .inside ∨ 0 < x.n)
  o : ∀ v, s.lab = .done v → ∀ x, s.st.head? = some x → x.is.length + 1 ≤ s.p
  i : s.lab = .inside → s.st ≠ []
theorem Inv8.start (b : List Nat) (d : Nat) : Inv8 b d m0 := ⟨Nat.zero_le _, Nat.zero_le _, fun x hx => (by cases hx), fun x hx => (by cases hx), fun x hx => (by cases hx), fun v h => (by cases h), fun h => by cases h⟩
theorem Inv8.step {b : List Nat} {d : Nat} {s s' : Mst} (hb : ∀ p, (hrd (b.drop p)).n < 18446744073709551616) (h : Inv8 b d s) (hs : mstep b d s = .inl s') : Inv8 b d s' ∧ mmu b s' < mmu b s := by
  have hd' := ((mstep_deep (b := b) h.d (Nat.le_refl d)).1 s' hs).2
  obtain ⟨lab, p, st⟩ := s
  obtain ⟨ip, id, ik, it, ih, io, ii⟩ := h
  simp only at ip id ik it ih io ii
  have key : ∀ want full ks, rtake want full ks (b.drop p) = 0 → 0 < rused (b.drop p) ∧ p + rused (b.drop p) ≤ b.length := fun want full ks h1 => by
    obtain ⟨hl, -⟩ := rtake_look h1
    have h2 := rlook_pos hl
    have h3 := rlook_le hl
    rw [List.length_drop] at h3
    exact ⟨h2, by omega⟩
  have hbp := hb p
  cases lab with
  | plain =>
    unfold mstep at hs
    dsimp only at hs
    by_cases h0 : rtake 0 (decide (st.length = d)) [] (b.drop p) ≠ 0
    · rw [if_pos h0] at hs; cases hs
    rw [if_neg h0] at hs
    obtain ⟨u1, u2⟩ := key _ _ _ (Decidable.not_not.1 h0)
    have hall : ∀ x ∈ st, x.is.length + 1 ≤ p + rused (b.drop p) ∧ 0 < x.n := fun x hx => by
      cases st with
      | nil => cases hx
      | cons y q =>
        rcases List.mem_cons.1 hx with e | e
        · subst e
          have h1 := ih x rfl
          rcases h1.2 with h2 | h2
          · cases h2
          · exact ⟨by omega, h2⟩
        · have h1 := it x e
          exact ⟨by omega, h1.2⟩
    have hks : ∀ x ∈ st, x.ks.length ≤ p + rused (b.drop p) ∧ x.n < 18446744073709551616 ∧ (x.k = 8 ∨ x.k = 9) := fun x hx => by
      have h1 := ik x hx
      exact ⟨by omega, h1.2⟩
    by_cases m6 : (hrd (b.drop p)).m = 6
    · rw [if_pos m6] at hs
      injection hs with hs
      subst hs
      refine ⟨⟨u2, hd', hks, fun x hx => hall x (List.mem_of_mem_tail hx), fun x hx => ?_, fun v h => (by cases h), fun h => by cases h⟩, by simp only [mmu, mlw]; omega⟩
      have h1 := hall x (List.mem_of_mem_head? hx)
      exact ⟨by simp only; omega, .inr h1.2⟩
    rw [if_neg m6] at hs
    by_cases m4 : (hrd (b.drop p)).m = 4
    · rw [if_pos m4] at hs
      injection hs with hs
      subst hs
      refine ⟨⟨u2, hd', fun x hx => ?_, hall, fun x hx => ?_, fun v h => (by cases h), fun _ => by simp⟩, by simp only [mmu, mlw, List.length_cons]; omega⟩
      · rcases List.mem_cons.1 hx with e | e
        · subst e
          exact ⟨Nat.zero_le _, hbp, .inl rfl⟩
        · exact hks x e
      · injection hx with hx
        subst hx
        exact ⟨Nat.zero_le _, .inl rfl⟩
    rw [if_neg m4] at hs
    by_cases m5 : (hrd (b.drop p)).m = 5
    · rw [if_pos m5] at hs
      injection hs with hs
      subst hs
      refine ⟨⟨u2, hd', fun x hx => ?_, hall, fun x hx => ?_, fun v h => (by cases h), fun _ => by simp⟩, by simp only [mmu, mlw, List.length_cons]; omega⟩
      · rcases List.mem_cons.1 hx with e | e
        · subst e
          exact ⟨Nat.zero_le _, hbp, .inr rfl⟩
        · exact hks x e
      · injection hx with hx
        subst hx
        exact ⟨Nat.zero_le _, .inl rfl⟩
    rw [if_neg m5] at hs
    injection hs with hs
    subst hs
    refine ⟨⟨u2, hd', hks, fun x hx => hall x (List.mem_of_mem_tail hx), fun x hx => ?_, fun v h x hx => (hall x (List.mem_of_mem_head? hx)).1, fun h => by cases h⟩, by simp only [mmu, mlw]; omega⟩
    have h1 := hall x (List.mem_of_mem_head? hx)
    exact ⟨by simp only; omega, .inr h1.2⟩
  | name =>
    unfold mstep at hs
    dsimp only at hs
    by_cases h0 : rtake 2 (decide (st.length = d)) [] (b.drop p) ≠ 0
    · rw [if_pos h0] at hs; cases hs
    rw [if_neg h0] at hs
    obtain ⟨u1, u2⟩ := key _ _ _ (Decidable.not_not.1 h0)
    have hall : ∀ x ∈ st, x.is.length + 1 ≤ p + rused (b.drop p) ∧ 0 < x.n := fun x hx => by
      cases st with
      | nil => cases hx
      | cons y q =>
        rcases List.mem_cons.1 hx with e | e
        · subst e
          have h1 := ih x rfl
          rcases h1.2 with h2 | h2
          · cases h2
          · exact ⟨by omega, h2⟩
        · have h1 := it x e
          exact ⟨by omega, h1.2⟩
    injection hs with hs
    subst hs
    refine ⟨⟨u2, hd', fun x hx => ?_, fun x hx => hall x (List.mem_of_mem_tail hx), fun x hx => ?_, fun v h x hx => (hall x (List.mem_of_mem_head? hx)).1, fun h => by cases h⟩, by simp only [mmu, mlw]; omega⟩
    · have h1 := ik x hx
      exact ⟨by simp only; omega, h1.2⟩
    · have h1 := hall x (List.mem_of_mem_head? hx)
      exact ⟨by simp only; omega, .inr h1.2⟩
  | done v =>
    cases st with
    | nil => cases hs
    | cons y q =>
      injection hs with hs
      subst hs
      have h1 := io v rfl y rfl
      have h2 := ik y (List.mem_cons_self ..)
      refine ⟨⟨ip, hd', fun x hx => ?_, it, fun x hx => ?_, fun v h => (by cases h), fun _ => by simp⟩, by simp only [mmu, mlw, List.length_cons]; omega⟩
      · rcases List.mem_cons.1 hx with e | e
        · subst e
          exact ⟨h2.1, by simp only; omega, h2.2.2⟩
        · exact ik x (List.mem_cons_of_mem _ e)
      · injection hx with hx
        subst hx
        exact ⟨by simp only [List.length_append, List.length_singleton]; omega, .inl rfl⟩
  | inside =>
    cases st with
    | nil => cases hs
    | cons y q =>
      unfold mstep at hs
      dsimp only at hs
      by_cases hn : y.n = 0
      · rw [if_pos hn] at hs
        injection hs with hs
        subst hs
        refine ⟨⟨ip, hd', fun x hx => ik x (List.mem_cons_of_mem _ hx), fun x hx => it x (List.mem_of_mem_tail hx), fun x hx => ?_, fun v h x hx => (it x (List.mem_of_mem_head? hx)).1, fun h => by cases h⟩, by simp only [mmu, mlw, List.length_cons]; omega⟩
        have h1 := it x (List.mem_of_mem_head? hx)
        exact ⟨by simp only; omega, .inr h1.2⟩
      rw [if_neg hn] at hs
      by_cases h8 : y.k = 8
      · rw [if_pos h8] at hs
        injection hs with hs
        subst hs
        refine ⟨⟨ip, hd', ik, it, fun x hx => ?_, fun v h => (by cases h), fun h => by cases h⟩, by simp only [mmu, mlw, List.length_cons]; omega⟩
        have h1 := ih x hx
        injection hx with hx
        subst hx
        exact ⟨h1.1, .inr (Nat.pos_of_ne_zero hn)⟩
      rw [if_neg h8] at hs
      by_cases h0 : rtake 1 (decide ((y :: q).length = d)) y.ks (b.drop p) ≠ 0
      · rw [if_pos h0] at hs; cases hs
      rw [if_neg h0] at hs
      obtain ⟨u1, u2⟩ := key _ _ _ (Decidable.not_not.1 h0)
      injection hs with hs
      subst hs
      have h2 := ik y (List.mem_cons_self ..)
      refine ⟨⟨u2, hd', fun x hx => ?_, fun x hx => ?_, fun x hx => ?_, fun v h => (by cases h), fun h => by cases h⟩, by simp only [mmu, mlw, List.length_cons]; omega⟩
      · rcases List.mem_cons.1 hx with e | e
        · subst e
          exact ⟨by simp only [List.length_append, List.length_singleton]; omega, h2.2⟩
        · have h1 := ik x (List.mem_cons_of_mem _ e)
          exact ⟨by simp only; omega, h1.2⟩
      · have h1 := it x hx
        exact ⟨by simp only; omega, h1.2⟩
      · have h1 := ih y rfl
        injection hx with hx
        subst hx
        exact ⟨by simp only; omega, .inr (Nat.pos_of_ne_zero hn)⟩
theorem mrun_ends {b : List Nat} {d : Nat} (hb : ∀ p, (hrd (b.drop p)).n < 18446744073709551616) : ∀ (n : Nat) {s : Mst}, Inv8 b d s → mmu b s < n → ∃ r, mrun b d n s = some r
  | 0, _, _, h => by omega
  | n + 1, s, hi, h => by
    cases hs : mstep b d s with
    | inl s' =>
      obtain ⟨h1, h2⟩ := hi.step hb hs
      rw [mrun_next hs]
      exact mrun_ends hb n h1 (by omega)
    | inr r => exact ⟨r, mrun_end hs⟩
end
end Go.Proofs.YtadilnmkjcmnnaaGreatDoor
