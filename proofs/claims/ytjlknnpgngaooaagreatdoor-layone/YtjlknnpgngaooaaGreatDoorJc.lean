import Derived.Test.YtjlknnpgngaooaaGreatDoorJb
import Derived.Test.YtjlknnpgngaooaaGreatDoorSlav
import Derived.Laws.Externs
import Derived.Laws.Bits64
import Derived.Test.YtjlknnpgngaooaaGreatDoorJa
import Derived.ScopeJumps
import Derived.Deep.QuietTactic
import Derived.BigQuiet
import Derived.Deep.RegionWith
import Derived.Laws.ResultCell
import Derived.Deep.LoopGhost
import Derived.Deep.DeepCutAuto
import Derived.Lib.AppendZerosOnto
import Derived.Lib.SliceRun
import Derived.Lib.BytesEntry
namespace Go.Proofs.YtjlknnpgngaooaaGreatDoor
section
open Go.RowKit Go
/-- Keys' order. -/
def bfr (a b : List Nat) : Bool := if a.length = b.length then blt a b else decide (a.length < b.length)
theorem nat_ne {a b : Nat} : ((a : Int) != (b : Int)) = decide (a ≠ b) := by
  rw [Bool.eq_iff_iff]
  simp
  omega
end
section
open Go.RowKit Go
/-- The library's tables of UTF-8 lie as its text lays them. -/
def Tabs (w : World) : Prop := Lib.Utf8Tabs (Tryz.laysValid_ren.g 3) (Tryz.laysValid_ren.g 4) w
theorem Tabs.next {w w' : World} (h : Tabs w) (hb : Below w.heap.size w w') : Tabs w' := Utf8Tabs_below h hb
/-- No good UTF-8. -/
def badb (s : ByteArray) : Bool := !Lib.validD s.data.toList
end
section
open Go.RowKit Go
/-- Finite, by its bits. -/
def finb (b : Nat) : Bool := decide (b % 9223372036854775808 < 9218868437227405312)
theorem read_def (b : Nat) : Ieee.double.read b = (if b % 9223372036854775808 < 4503599627370496 then .number (b / 9223372036854775808 % 2 == 1) (b % 9223372036854775808) (-1074) else if b % 9223372036854775808 < 9218868437227405312 then .number (b / 9223372036854775808 % 2 == 1) (4503599627370496 + b % 9223372036854775808 % 4503599627370496) (-1074 + ((b % 9223372036854775808 / 4503599627370496 - 1 : Nat) : Int)) else if b % 9223372036854775808 = 9218868437227405312 then .infinity (b / 9223372036854775808 % 2 == 1) else .nan (b / 9223372036854775808 % 2 == 1) (b % 9223372036854775808 - 9218868437227405312)) := rfl
/-- A finite float's magnitude. -/
theorem read_fin {b : Nat} (h : b % 9223372036854775808 < 9218868437227405312) : ∃ m p, Ieee.double.read b = .number (b / 9223372036854775808 % 2 == 1) m p ∧ m ≤ 9007199254740991 ∧ p ≤ 971 := by
  rw [read_def]
  by_cases h1 : b % 9223372036854775808 < 4503599627370496
  · rw [if_pos h1]
    exact ⟨_, _, rfl, by omega, by omega⟩
  · rw [if_neg h1, if_pos h]
    exact ⟨_, _, rfl, by omega, by omega⟩
theorem ord_self (b : Nat) : (Ieee.double.order b b != some .eq) = decide (9218868437227405312 < b % 9223372036854775808) := by
  unfold Ieee.Format.order
  by_cases h : b % 9223372036854775808 < 9218868437227405312
  · obtain ⟨m, p, e, _, _⟩ := read_fin h
    rw [e, decide_eq_false (by omega)]
    simp [Ieee.Datum.order]
  · rw [read_def, if_neg (by omega), if_neg h]
    by_cases h2 : b % 9223372036854775808 = 9218868437227405312
    · rw [if_pos h2, decide_eq_false (by omega)]
      simp [Ieee.Datum.order]
    · rw [if_neg h2, decide_eq_true (by omega)]
      simp [Ieee.Datum.order]
theorem ord_max {b : Nat} (hb : b ≤ 9218868437227405312) : (Ieee.double.order b 9218868437227405311 == some .gt) = decide (b = 9218868437227405312) := by
  have hm : b % 9223372036854775808 = b := Nat.mod_eq_of_lt (by omega)
  have hd : b / 9223372036854775808 % 2 = 0 := by omega
  have e2 : Ieee.double.read 9218868437227405311 = .number false 9007199254740991 971 := by rfl
  unfold Ieee.Format.order
  rw [e2]
  by_cases h : b < 9218868437227405312
  · obtain ⟨m, p, e, hmm, hp⟩ := read_fin (b := b) (by omega)
    rw [e, decide_eq_false (by omega), hd]
    have hmin : min p (971 : Int) = p := by omega
    have hsh : m ≤ 9007199254740991 <<< (971 - p).toNat := by
      rw [Nat.shiftLeft_eq]
      exact Nat.le_trans hmm (Nat.le_mul_of_pos_right _ (Nat.two_pow_pos _))
    simp only [Ieee.Datum.order, hmin, Int.sub_self, Ieee.signed]
    generalize 9007199254740991 <<< (971 - p).toNat = K at *
    have h3 : compare ((m <<< (0 : Int).toNat : Nat) : Int) ((K : Nat) : Int) ≠ .gt := by
      intro hc
      have := Int.compare_eq_gt.1 hc
      simp at this
      omega
    simp at h3 ⊢
    exact h3
  · have e : b = 9218868437227405312 := by omega
    subst e
    rfl
set_option maxRecDepth 1000000 in
theorem frombits_any (b : Nat) (w : World) : (callFunc 135 #[.int .u64 (b : Nat)]).run Tryz.prog w = .ok (.value (.float .f64 b)) w := by
  rw [run_callFunc_extern Tryz.func135 (by kernel_rfl) (by kernel_rfl) (by kernel_rfl) (e := Extern.MathFloatBits.float64frombits) (by kernel_rfl)]
  rfl
set_option maxRecDepth 1000000 in
theorem tobits_any (b : Nat) (w : World) : (callFunc 182 #[.float .f64 b]).run Tryz.prog w = .ok (.value (.int .u64 (b : Nat))) w := by
  rw [run_callFunc_extern Tryz.func182 (by kernel_rfl) (by kernel_rfl) (by kernel_rfl) (e := Extern.MathFloatBits.float64bits) (by kernel_rfl)]
  rfl
set_option maxRecDepth 1000000 in
theorem isnan_any (b : Nat) (w : World) : Calls Tryz.prog 159 #[.float .f64 b] w fun e w' => e = .returned (.bool (decide (9218868437227405312 < b % 9223372036854775808))) ∧ w' = w := by
  have HE : Hid ((FloatKind.f64.format.order b b != some .eq) = decide (9218868437227405312 < b % 9223372036854775808)) := ord_self b
  go_enter Tryz.func159, Tryz.ntmps159
  go_wp2_with fail
  go_ret
  exact ⟨by rw [← HE.out]; rfl, rfl⟩
theorem andnot_top (b : Nat) (hb : b < 18446744073709551616) : bits .andNot .u64 (b : Int) 9223372036854775808 = ((b % 9223372036854775808 : Nat) : Int) := by
  have e1 : (BitVec.ofInt 64 (b : Int)).toNat = b := by
    simp
    omega
  have e2 : (~~~ (BitVec.ofInt 64 9223372036854775808)).toNat = 9223372036854775807 := by decide
  show IntKind.u64.wrap ((BitVec.ofInt 64 (b : Int) &&& ~~~ (BitVec.ofInt 64 9223372036854775808)).toNat : Nat) = _
  rw [BitVec.toNat_and, e1, e2, IntKind.wrap_u64]
  have e3 := Nat.and_two_pow_sub_one_eq_mod b 63
  rw [show (2 ^ 63 - 1 : Nat) = 9223372036854775807 from rfl, show (2 ^ 63 : Nat) = 9223372036854775808 from rfl] at e3
  rw [e3]
  omega
set_option maxRecDepth 1000000 in
theorem abs_any (b : Nat) (hb : b < 18446744073709551616) (w : World) : Calls Tryz.prog 176 #[.float .f64 b] w fun e w' => e = .returned (.float .f64 (b % 9223372036854775808)) ∧ w' = w := by
  have h1 := tobits_any b
  have h2 := frombits_any (b % 9223372036854775808)
  rw [← andnot_top b hb] at h2
  clear hb
  generalize b % 9223372036854775808 = m at *
  go_enter Tryz.func176, Tryz.ntmps176
  go_wp2_with fail
  go_ret
  exact ⟨rfl, rfl⟩
set_option maxRecDepth 1000000 in
theorem isinf_any (b : Nat) (hb : b < 18446744073709551616) (hn : b % 9223372036854775808 ≤ 9218868437227405312) (w : World) : Calls Tryz.prog 160 #[.float .f64 b, .int .i64 0] w fun e w' => e = .returned (.bool (decide (b % 9223372036854775808 = 9218868437227405312))) ∧ w' = w := by
  have HE : Hid ((FloatKind.f64.format.order (b % 9223372036854775808) 9218868437227405311 == some .gt) = decide (b % 9223372036854775808 = 9218868437227405312)) := ord_max hn
  have HA := hide (fun W => abs_any b hb W)
  clear hb hn
  generalize b % 9223372036854775808 = m at *
  go_enter Tryz.func160, Tryz.ntmps160
  go_wp2_with (go_at_call 176; refine (Hid.out HA _).mono ?_; rintro e w' ⟨rfl, rfl⟩)
  go_ret
  exact ⟨by rw [← HE.out]; rfl, rfl⟩
set_option maxRecDepth 1000000 in
theorem finite_any (b : Nat) (hb : b < 18446744073709551616) (w : World) : Calls Tryz.prog 134 #[.float .f64 b] w fun e w' => e = .returned (.bool (finb b)) ∧ w' = w := by
  have HN := hide (fun W => isnan_any b W)
  unfold finb
  by_cases h : 9218868437227405312 < b % 9223372036854775808
  · rw [decide_eq_false (by omega)]
    rw [decide_eq_true h] at HN
    clear h
    go_enter Tryz.func134, Tryz.ntmps134
    go_wp2_with (go_at_call 159; refine (Hid.out HN _).mono ?_; rintro e w' ⟨rfl, rfl⟩)
    go_ret
    exact ⟨rfl, rfl⟩
  · have HI := hide (fun W => isinf_any b hb (by omega) W)
    have HD : Hid (decide (b % 9223372036854775808 < 9218868437227405312) = !decide (b % 9223372036854775808 = 9218868437227405312)) := by
      show _ = _
      rw [Bool.eq_iff_iff]
      simp
      omega
    rw [decide_eq_false h] at HN
    rw [HD.out]
    clear h HD
    generalize decide (b % 9223372036854775808 = 9218868437227405312) = R at *
    go_enter Tryz.func134, Tryz.ntmps134
    go_wp2_with (first
      | (go_at_call 159; refine (Hid.out HN _).mono ?_; rintro e w' ⟨rfl, rfl⟩)
      | (go_at_call 160; refine (Hid.out HI _).mono ?_; rintro e w' ⟨rfl, rfl⟩))
    go_ret
    exact ⟨rfl, rfl⟩
end
section
open Go.RowKit Go
/-! ### Strict reading, plainly -/
/-- The bytes of a string behind its head. -/
def rbody (b : List Nat) : List Nat := if (hrd b).m = 2 ∨ (hrd b).m = 3 then (b.drop (hrd b).u).take (hrd b).n else []
/-- Is it one of MajorOther that trees have? -/
def rknown (h : HR) : Bool := decide (h.i = 20 ∨ h.i = 21 ∨ h.i = 22) || (decide (h.i = 27) && finb h.n)
def rmay (h : HR) (y : List Nat) : Bool := if h.m = 3 then !badb (nstr y) else if h.m = 6 then decide (h.n = 42) else if h.m = 7 then rknown h else true
/-- May it be what it is wanted as: plain 0, a key 1, a name 2? -/
def rfit (want : Nat) (h : HR) (y : List Nat) : Bool := if want = 1 then decide (h.m = 3) else if want = 2 then decide (h.m = 2 ∧ y.head? = some 0 ∧ (lparse y.tail).2 = 0) else true
/-- The item's fault by itself. -/
def rlook (want : Nat) (b : List Nat) : Nat :=
  if (hrd b).e = 20 then 82
  else if (hrd b).e ≠ 0 ∨ (hrd b).i = 31 then 83
  else if ((hrd b).m = 2 ∨ (hrd b).m = 3) ∧ b.length - (hrd b).u < (hrd b).n then 82
  else if rmay (hrd b) (rbody b) = false ∨ rfit want (hrd b) (rbody b) = false then 83
  else 0
def rnest (b : List Nat) : Bool := match b with | [] => false | x :: _ => decide (x / 32 = 4 ∨ x / 32 = 5)
/-- Does a key stand behind the one ahead of it? -/
def rrise (ks : List ByteArray) (s : ByteArray) : Bool := match ks.getLast? with | none => true | some k => bfr (sl k) (sl s)
/-- The fault at a place. -/
def rtake (want : Nat) (full : Bool) (ks : List ByteArray) (b : List Nat) : Nat :=
  if rnest b = true ∧ full = true then 81
  else if rlook want b ≠ 0 then rlook want b
  else if (hrd b).s = false ∨ (want = 1 ∧ rrise ks (nstr (rbody b)) = false) then 84
  else 0
def rused (b : List Nat) : Nat := (hrd b).u + (rbody b).length
end
section
open Go.RowKit Go
/-- A list or a map that is open: its kind, keys, items, how many are wanted. -/
structure Nst where
  k : Int
  ks : List ByteArray
  is : List Tv
  n : Nat
def Nst.val (x : Nst) : Tv := .mk x.k false false 0 0 ⟨#[]⟩ [] ⟨0, 0, 0, []⟩ x.ks x.is
def tz8 (k : Int) : Tv := .mk k false false 0 0 ⟨#[]⟩ [] ⟨0, 0, 0, []⟩ [] []
/-- The tree that an item is which has no items and no name. -/
def rleaf (h : HR) (y : List Nat) : Tv :=
  if h.m = 0 ∨ h.m = 1 then .mk 3 false (decide (h.m = 1)) h.n 0 ⟨#[]⟩ [] ⟨0, 0, 0, []⟩ [] []
  else if h.m = 2 then .mk 6 false false 0 0 ⟨#[]⟩ y ⟨0, 0, 0, []⟩ [] []
  else if h.m = 3 then .mk 5 false false 0 0 (nstr y) [] ⟨0, 0, 0, []⟩ [] []
  else if h.i = 27 then .mk 4 false false 0 h.n ⟨#[]⟩ [] ⟨0, 0, 0, []⟩ [] []
  else if h.i = 22 then tz8 1
  else .mk 2 (decide (h.i = 21)) false 0 0 ⟨#[]⟩ [] ⟨0, 0, 0, []⟩ [] []
/-- What is gone on with. -/
inductive Lab where
  | plain | name | done (v : Tv) | inside
structure Mst where
  lab : Lab
  p : Nat
  st : List Nst
/-- The answer: its code, its place, its tree. -/
structure Res where
  e : Nat
  p : Nat
  v : Tv
def mstep (b : List Nat) (d : Nat) (s : Mst) : Mst ⊕ Res :=
  match s.lab with
  | .plain =>
    if rtake 0 (decide (s.st.length = d)) [] (b.drop s.p) ≠ 0 then .inr ⟨rtake 0 (decide (s.st.length = d)) [] (b.drop s.p), s.p, tz8 0⟩
    else if (hrd (b.drop s.p)).m = 6 then .inl ⟨.name, s.p + rused (b.drop s.p), s.st⟩
    else if (hrd (b.drop s.p)).m = 4 then .inl ⟨.inside, s.p + rused (b.drop s.p), ⟨8, [], [], (hrd (b.drop s.p)).n⟩ :: s.st⟩
    else if (hrd (b.drop s.p)).m = 5 then .inl ⟨.inside, s.p + rused (b.drop s.p), ⟨9, [], [], (hrd (b.drop s.p)).n⟩ :: s.st⟩
    else .inl ⟨.done (rleaf (hrd (b.drop s.p)) (rbody (b.drop s.p))), s.p + rused (b.drop s.p), s.st⟩
  | .name =>
    if rtake 2 (decide (s.st.length = d)) [] (b.drop s.p) ≠ 0 then .inr ⟨rtake 2 (decide (s.st.length = d)) [] (b.drop s.p), s.p, tz8 0⟩
    else .inl ⟨.done (.mk 7 false false 0 0 ⟨#[]⟩ [] (lparse (rbody (b.drop s.p)).tail).1 [] []), s.p + rused (b.drop s.p), s.st⟩
  | .done v =>
    match s.st with
    | [] => .inr ⟨0, s.p, v⟩
    | x :: q => .inl ⟨.inside, s.p, ⟨x.k, x.ks, x.is ++ [v], x.n - 1⟩ :: q⟩
  | .inside =>
    match s.st with
    | [] => .inr ⟨0, s.p, tz8 0⟩
    | x :: q =>
      if x.n = 0 then .inl ⟨.done x.val, s.p, q⟩
      else if x.k = 8 then .inl ⟨.plain, s.p, s.st⟩
      else if rtake 1 (decide (s.st.length = d)) x.ks (b.drop s.p) ≠ 0 then .inr ⟨rtake 1 (decide (s.st.length = d)) x.ks (b.drop s.p), s.p, tz8 0⟩
      else .inl ⟨.plain, s.p + rused (b.drop s.p), ⟨x.k, x.ks ++ [nstr (rbody (b.drop s.p))], x.is, x.n⟩ :: q⟩
def mrun (b : List Nat) (d : Nat) : Nat → Mst → Option Res
  | 0, _ => none
  | n + 1, s => match mstep b d s with
    | .inl s' => mrun b d n s'
    | .inr r => some r
theorem mrun_next {b : List Nat} {d n : Nat} {s s' : Mst} (h : mstep b d s = .inl s') : mrun b d (n + 1) s = mrun b d n s' := by rw [mrun, h]
theorem mrun_end {b : List Nat} {d n : Nat} {s : Mst} {r : Res} (h : mstep b d s = .inr r) : mrun b d (n + 1) s = some r := by rw [mrun, h]
theorem mrun_more {b : List Nat} {d : Nat} : ∀ {n m : Nat} {s : Mst} {r : Res}, n ≤ m → mrun b d n s = some r → mrun b d m s = some r
  | 0, _, _, _, _, h => by cases h
  | n + 1, 0, _, _, hm, _ => by omega
  | n + 1, m + 1, s, r, hm, h => by
    cases hs : mstep b d s with
    | inl s' =>
      rw [mrun_next hs] at h ⊢
      exact mrun_more (by omega) h
    | inr r' =>
      rw [mrun_end hs] at h ⊢
      exact h
theorem mrun_one {b : List Nat} {d n m : Nat} {s : Mst} {r r' : Res} (h : mrun b d n s = some r) (h' : mrun b d m s = some r') : r = r' := by
  have h1 := mrun_more (Nat.le_max_left n m) h
  have h2 := mrun_more (Nat.le_max_right n m) h'
  rw [h1] at h2
  injection h2
end
section
open Go.RowKit Go
/-- Where reading begins. -/
def m0 : Mst := ⟨.plain, 0, []⟩
end
section
open Go.RowKit Go
/-! ### A scope with several labels -/
/-! ### How far the machine goes -/
end
section
open Go.RowKit Go
/-! A value's errors, plainly (cut out of Xd6, Xe6, Xf6: hangs on no sort). -/
/-- A value whose kind's own fields are made zero. -/
def Tv.zr (t : Tv) : Tv :=
  if t.k = 2 then .mk t.k false t.g t.n t.b t.s t.y t.l t.ks t.is
  else if t.k = 3 then .mk t.k t.f false 0 t.b t.s t.y t.l t.ks t.is
  else if t.k = 4 then .mk t.k t.f t.g t.n 0 t.s t.y t.l t.ks t.is
  else if t.k = 5 then .mk t.k t.f t.g t.n t.b ⟨#[]⟩ t.y t.l t.ks t.is
  else if t.k = 6 then .mk t.k t.f t.g t.n t.b t.s [] t.l t.ks t.is
  else if t.k = 7 then .mk t.k t.f t.g t.n t.b t.s t.y ⟨0, 0, 0, []⟩ t.ks t.is
  else if t.k = 8 then .mk t.k t.f t.g t.n t.b t.s t.y t.l t.ks []
  else if t.k = 9 then .mk t.k t.f t.g t.n t.b t.s t.y t.l [] []
  else t
/-- All fields but the kind are zero. -/
def Tv.cl (t : Tv) : Bool := !t.f && (!t.g && (decide (t.n = 0) && (decide (t.b = 0) && (decide (t.s = ⟨#[]⟩) && (decide (t.l = ⟨0, 0, 0, []⟩) && (decide (t.y = []) && (decide (t.ks = []) && t.is.isEmpty)))))))
def tidyf (t : Tv) : Bool := decide (1 ≤ t.k ∧ t.k ≤ 9) && t.zr.cl
/-- The error of a value by itself, so many lists and maps about it. -/
def onef (t : Tv) (a : Nat) : Nat :=
  if (t.k = 8 ∨ t.k = 9) ∧ 1024 ≤ a then 60
  else if tidyf t = false then 61
  else if finb t.b = false then 62
  else if (badb t.s || t.ks.any badb) = true then 63
  else if t.k = 7 ∧ ¬ lok t.l then 64
  else if t.k = 9 ∧ ¬ (t.ks.length = t.is.length ∧ t.ks.Nodup) then 65
  else 0
mutual
/-- The first error in a value that stands in so many lists and maps. -/
def chkf : Tv → Nat → Nat
  | .mk k f g n b s y l ks is, a => if onef (.mk k f g n b s y l ks is) a = 0 then chkL is (a + 1) else onef (.mk k f g n b s y l ks is) a
def chkL : List Tv → Nat → Nat
  | [], _ => 0
  | t :: r, a => if chkf t a = 0 then chkL r a else chkf t a
end
theorem chkf_eq (t : Tv) (a : Nat) : chkf t a = if onef t a = 0 then chkL t.is (a + 1) else onef t a := by
  obtain ⟨k, f, g, n, b, s, y, l, ks, is⟩ := t
  rw [chkf]
  rfl
theorem chkL_none : ∀ {l : List Tv} {a : Nat}, (∀ u ∈ l, chkf u a = 0) → chkL l a = 0
  | [], _, _ => by rw [chkL]
  | t :: r, a, h => by
    rw [chkL, if_pos (h t (List.mem_cons_self ..))]
    exact chkL_none (fun u hu => h u (List.mem_cons_of_mem _ hu))
theorem chkL_at : ∀ {l : List Tv} {a i : Nat} {u : Tv}, (∀ j v, j < i → l[j]? = some v → chkf v a = 0) → l[i]? = some u → chkf u a ≠ 0 → chkL l a = chkf u a
  | [], _, _, _, _, h, _ => by simp at h
  | t :: r, a, 0, u, _, h, hn => by
    simp at h
    subst h
    rw [chkL, if_neg hn]
  | t :: r, a, i + 1, u, h0, h, hn => by
    rw [chkL, if_pos (h0 0 t (by omega) rfl)]
    exact chkL_at (i := i) (fun j v hj hv => h0 (j + 1) v (by omega) (by simpa using hv)) (by simpa using h) hn
end
section
open Go.RowKit
set_option maxRecDepth 1000000 in
theorem shortest_any (n : Nat) (w : World) (hn : n < 18446744073709551616) :
    Calls Tryz.prog 54 #[.int .u64 (n : Nat)] w fun e w' => e = .returned (.int .i64 (hinfo n : Nat)) ∧ w' = w := by
  rcases hinfo_cases n with ⟨h, e⟩ | ⟨h1, h, e⟩ | ⟨h1, h, e⟩ | ⟨h1, h, e⟩ | ⟨h1, e⟩
  · rw [e]
    have g1 : (n : Int) < 24 := by omega
    go_enter Tryz.func54, Tryz.ntmps54
    go_wp2
    go_ret
    exact ⟨rfl, rfl⟩
  · rw [e]
    have g1 : ¬ (n : Int) < 24 := by omega
    have g2 : (n : Int) ≤ 255 := by omega
    go_enter Tryz.func54, Tryz.ntmps54
    go_wp2
    go_ret
    exact ⟨rfl, rfl⟩
  · rw [e]
    have g1 : ¬ (n : Int) < 24 := by omega
    have g2 : ¬ (n : Int) ≤ 255 := by omega
    have g3 : (n : Int) ≤ 65535 := by omega
    go_enter Tryz.func54, Tryz.ntmps54
    go_wp2
    go_ret
    exact ⟨rfl, rfl⟩
  · rw [e]
    have g1 : ¬ (n : Int) < 24 := by omega
    have g2 : ¬ (n : Int) ≤ 255 := by omega
    have g3 : ¬ (n : Int) ≤ 65535 := by omega
    have g4 : (n : Int) ≤ 4294967295 := by omega
    go_enter Tryz.func54, Tryz.ntmps54
    go_wp2
    go_ret
    exact ⟨rfl, rfl⟩
  · rw [e]
    have g1 : ¬ (n : Int) < 24 := by omega
    have g2 : ¬ (n : Int) ≤ 255 := by omega
    have g3 : ¬ (n : Int) ≤ 65535 := by omega
    have g4 : ¬ (n : Int) ≤ 4294967295 := by omega
    go_enter Tryz.func54, Tryz.ntmps54
    go_wp2
    go_ret
    exact ⟨rfl, rfl⟩

set_option maxRecDepth 1000000 in
theorem behind_any (i : Nat) (w : World) (hi : i < 32) :
    Calls Tryz.prog 55 #[.int .i64 (i : Nat)] w fun e w' => e = .returned (.int .i64 (hwide i : Nat)) ∧ w' = w := by
  by_cases h27 : i = 27
  · subst h27
    go_enter Tryz.func55, Tryz.ntmps55
    go_wp2
    go_ret
    exact ⟨rfl, rfl⟩
  · by_cases h26 : i = 26
    · subst h26
      go_enter Tryz.func55, Tryz.ntmps55
      go_wp2
      go_ret
      exact ⟨rfl, rfl⟩
    · by_cases h25 : i = 25
      · subst h25
        go_enter Tryz.func55, Tryz.ntmps55
        go_wp2
        go_ret
        exact ⟨rfl, rfl⟩
      · by_cases h24 : i = 24
        · subst h24
          go_enter Tryz.func55, Tryz.ntmps55
          go_wp2
          go_ret
          exact ⟨rfl, rfl⟩
        · have e : hwide i = 0 := by unfold hwide; rw [if_neg h24, if_neg h25, if_neg h26, if_neg h27]
          rw [e]
          have g27 : ((i : Int) == 27) = false := beq_eq_false_iff_ne.2 (by omega)
          have g26 : ((i : Int) == 26) = false := beq_eq_false_iff_ne.2 (by omega)
          have g25 : ((i : Int) == 25) = false := beq_eq_false_iff_ne.2 (by omega)
          have g24 : ((i : Int) == 24) = false := beq_eq_false_iff_ne.2 (by omega)
          go_enter Tryz.func55, Tryz.ntmps55
          go_wp2
          go_ret
          exact ⟨rfl, rfl⟩

/-- There are heads of this major and info. -/
def hmay (m i : Nat) : Prop := ¬ 27 < i ∨ (i = 31 ∧ m ≠ 0 ∧ m ≠ 1 ∧ m ≠ 6)
instance (m i : Nat) : Decidable (hmay m i) := by unfold hmay; infer_instance

set_option maxRecDepth 1000000 in
theorem size_any (n : Nat) (w : World) (hn : n < 18446744073709551616) :
    Calls Tryz.prog 203 #[.int .u64 (n : Nat)] w fun e w' => e = .returned (.int .i64 (hsize n : Nat)) ∧ w' = w := by
  have HN := hide hn
  clear hn
  go_enter Tryz.func203, Tryz.ntmps203
  go_wp2_with fail
  refine (shortest_any n _ HN.out).mono ?_
  rintro e w1 ⟨rfl, rfl⟩
  go_wp2_with fail
  refine (behind_any _ _ (by have := hinfo_lt n; omega)).mono ?_
  rintro e w1 ⟨rfl, rfl⟩
  have h8 := hwide_le (hinfo n)
  have HS : Hid (((hsize n : Nat) : Int) = 1 + (hwide (hinfo n) : Int)) := by show _ = _; unfold hsize; omega
  generalize hwide (hinfo n) = W at *
  go_wp2
  go_ret
  exact ⟨by rw [HS.out]; rfl, rfl⟩
end
section
open Go.RowKit

end
section
open Go.RowKit
theorem i64_or_nat (a b : Nat) (ha : a < 9223372036854775808) (hb : b < 9223372036854775808) : bits .or .i64 (a : Int) (b : Int) = ((a ||| b : Nat) : Int) := by
  have hx : a ||| b < 2 ^ 63 := Nat.or_lt_two_pow (by omega) (by omega)
  show IntKind.i64.wrap ((BitVec.ofInt 64 (a : Int) ||| BitVec.ofInt 64 (b : Int)).toNat : Int) = _
  rw [BitVec.toNat_or, ofInt_u64 a (by omega), ofInt_u64 b (by omega), IntKind.wrap_i64]
  omega
theorem first_byte (M i : Nat) (hM : M ≤ 7) (hi : i < 32) : bits .or .i64 ((M : Int) * 32) (i : Int) % 256 = ((32 * M + i : Nat) : Int) := by
  have e : (M : Int) * 32 = ((2 ^ 5 * M : Nat) : Int) := by omega
  rw [e, i64_or_nat _ _ (by omega) (by omega), ← Nat.two_pow_add_eq_or_of_lt (i := 5) (by omega)]
  omega
theorem own_nine (w : World) (x : Nat) (o : Obj) : ((w.alloc (.cells #[.int .u8 ((x : Nat) : Int), .int .u8 0, .int .u8 0, .int .u8 0, .int .u8 0, .int .u8 0, .int .u8 0, .int .u8 0, .int .u8 0] 5)).alloc o).ownsRow w.heap.size 5 1 (.slice (some ⟨w.heap.size, 0, none⟩) 1 9) 1 (bv [x]) :=
  ⟨rfl, .inr ⟨w.heap.size, 9, _, rfl, Nat.le_refl _, blk_alloc o (heap_alloc_new w _), by decide, by decide, rfl, rfl⟩⟩
theorem be_get : ∀ k n j, j < k → (be k n).getD j 0 = n / 256 ^ (k - 1 - j) % 256
  | 0, _, _, h => by omega
  | k + 1, n, 0, _ => by simp [be]
  | k + 1, n, j + 1, h => by
    have e : k + 1 - 1 - (j + 1) = k - 1 - j := by omega
    rw [e, ← be_get k n j (by omega)]
    simp [be]
set_option maxRecDepth 1000000 in
set_option maxHeartbeats 400000 in
theorem lay_any (m : Int) (n : Nat) (w : World) (hm : -9223372036854775808 ≤ m ∧ m ≤ 9223372036854775807) (hn : n < 18446744073709551616) :
    Calls Tryz.prog 25 #[.int .i64 m, .int .u64 (n : Nat)] w fun e w' => ∃ v, e = .returned v ∧ w'.ownsRow w.heap.size 5 1 v (hlay m n).length (bv (hlay m n)) ∧ Below w.heap.size w w' := by
  by_cases h0 : 0 ≤ m ∧ m ≤ 7
  · have e : hlay m n = hl m.toNat n := by unfold hlay; rw [if_pos h0]
    rw [e]
    obtain ⟨M, rfl⟩ := Int.eq_ofNat_of_zero_le h0.1
    rw [Int.toNat_natCast]
    have h1 := h0.1
    have h2 := h0.2
    have hM : M ≤ 7 := by omega
    clear e h0 hm
    have HN := hide hn
    clear hn
    have hmk := make9
    go_enter Tryz.func25, Tryz.ntmps25
    go_wp2_with fail
    refine (shortest_any n _ HN.out).mono ?_
    rintro e w1 ⟨rfl, rfl⟩
    have hi28 := hinfo_lt n
    have HL : Hid (hl M n = (32 * M + hinfo n) :: be (hwide (hinfo n)) n) := rfl
    generalize hinfo n = i at *
    go_wp2_with fail
    refine (behind_any _ _ (by omega)).mono ?_
    rintro e w2 ⟨rfl, rfl⟩
    rw [first_byte M i hM (by omega)]
    have HO := hide (own_nine w1 (32 * M + i) (.cells #[.int .u8 ((32 * M + i : Nat) : Int)] 5))
    have HBW : Hid (Below w1.heap.size w1 ((w1.alloc (.cells #[.int .u8 ((32 * M + i : Nat) : Int), .int .u8 0, .int .u8 0, .int .u8 0, .int .u8 0, .int .u8 0, .int .u8 0, .int .u8 0, .int .u8 0] 5)).alloc (.cells #[.int .u8 ((32 * M + i : Nat) : Int)] 5))) := ((Below.refl _ _).alloc (Nat.le_refl _) _).alloc (by simp) _
    generalize ((w1.alloc (.cells #[.int .u8 ((32 * M + i : Nat) : Int), .int .u8 0, .int .u8 0, .int .u8 0, .int .u8 0, .int .u8 0, .int .u8 0, .int .u8 0, .int .u8 0] 5)).alloc (.cells #[.int .u8 ((32 * M + i : Nat) : Int)] 5)) = w3 at *
    have hk8 := hwide_le i
    generalize hwide i = k at *
    generalize hB : w1.heap.size = B at *
    have HB := hide hB
    clear hB hmk
    go_wp2
    go_loopw [6, 7] (fun bb q wr => ∃ j : Nat, j ≤ k ∧ q = .int .i64 ((k : Int) - 1 - j) ∧ wr.ownsRow B 5 1 bb (1 + j) (bv ((32 * M + i) :: (be k n).take j)) ∧ Below B w1 wr) (fun _ q _ => (intOf q + 1).toNat)
    case atStart => exact ⟨0, Nat.zero_le _, by simp, by simpa using HO.out, HBW.out⟩
    case round =>
      obtain ⟨j, hj, rfl, hown, hbel⟩ := hrel
      clear HO HBW
      have HO := hide hown
      have HBL := hide hbel
      clear hown hbel
      by_cases hlt : j < k
      · have hlt' : (0 : Int) ≤ (k : Int) - 1 - j := by omega
        have hidx : ((k : Int) - 1 - j) = ((k - 1 - j : Nat) : Int) := by omega
        rw [hidx]
        have hq8 : k - 1 - j < 8 := by omega
        have HTK : Hid ((be k n).take (j + 1) = (be k n).take j ++ [n / 256 ^ (k - 1 - j) % 256]) := by
          show _ = _
          rw [← be_get k n j hlt]
          exact take_snoc _ _ (by rw [be_len]; exact hlt)
        have HID : Hid (((k - 1 - j : Nat) : Int) - 1 = (k : Int) - 1 - ((j + 1 : Nat) : Int)) := by show _ = _; omega
        generalize k - 1 - j = q at *
        clear hidx hlt'
        have hc : ((n / 256 ^ q % 256 : Nat) : Int) = (n : Int) / 2 ^ (8 * q) % 256 := by rw [pow_int8]; omega
        have HSL := hide (one_bsl wr (n / 256 ^ q % 256) (Nat.mod_lt _ (by decide)))
        rw [hc] at HSL
        have HOA := hide (HO.out.alloc (.cells #[.int .u8 ((n : Int) / 2 ^ (8 * q) % 256)] 5))
        clear hc HO
        go_wp2_with (at_builtin; refine append_bsl rfl _ _ rfl B _ (1 + j) _ rfl HOA.out _ [n / 256 ^ q % 256] rfl HSL.out ?b1 ?b2 ?_)
        case b1 => simp; omega
        case b2 => have := HBL.out.size; have := HB.out; simp; omega
        intro v2 w2 hown2 hgr2
        have hlo := fun g (h : _ = some g) => (HOA.out.lt g h).1
        have HB2 : Hid (Below B w1 w2) := (HBL.out.alloc (by have := HBL.out.size; have := HB.out; omega) _).grown hgr2 (by have := HBL.out.size; have := HB.out; simp; omega) (fun g hg => hlo g hg)
        have HO2 : Hid (w2.ownsRow B 5 1 v2 (1 + (j + 1)) (bv ((32 * M + i) :: (be k n).take (j + 1)))) := by
          show World.ownsRow _ _ _ _ _ _ _
          rw [HTK.out]
          have h := hown2
          simpa [Nat.add_assoc] using h
        clear hown2 hgr2 hlo HSL HOA HTK
        go_wp2
        go_roundw
        case rel => exact ⟨j + 1, by omega, by rw [← HID.out], HO2.out, HB2.out⟩
        case measure => simp [intOf]
      · have hjk : j = k := by omega
        subst hjk
        have hlt' : ¬ (0 : Int) ≤ (j : Int) - 1 - j := by omega
        have ho := HO.out
        rw [List.take_of_length_le (by rw [be_len]; exact Nat.le_refl _), ← HL.out] at ho
        have HO2 : Hid _ := hide ho
        clear ho HO
        go_wp2
        go_ret
        have e : (hl M n).length = 1 + j := by rw [HL.out]; simp [be_len]; omega
        rw [e, HB.out]
        exact ⟨_, rfl, HO2.out, HBL.out⟩
  · have e : hlay m n = [] := by unfold hlay; rw [if_neg h0]
    rw [e]
    by_cases hneg : m < 0
    · go_enter Tryz.func25, Tryz.ntmps25
      go_wp2
      go_ret
      exact ⟨_, rfl, World.ownsRow_nil _ _ _ _, Below.refl _ _⟩
    · have h7 : 7 < m := by omega
      have hneg' : ¬ m < 0 := hneg
      go_enter Tryz.func25, Tryz.ntmps25
      go_wp2
      go_ret
      exact ⟨_, rfl, World.ownsRow_nil _ _ _ _, Below.refl _ _⟩
end
section
open Go.RowKit
theorem hsize_small {n : Nat} (h : n < 24) : hsize n = 1 := by
  have := hinfo_cases n
  have e : hinfo n = n := by omega
  unfold hsize
  rw [e, hwide_small h]
end
section
open Go.RowKit
theorem bnum_be : ∀ k n a, bnum a (be k n) = a * 256 ^ k + n % 256 ^ k
  | 0, n, a => by simp [be, bnum, Nat.mod_one]
  | k + 1, n, a => by
    simp only [be, bnum]
    rw [bnum_be k n, Nat.mod_pow_succ]
    have h1 : (256 * a + n / 256 ^ k % 256) * 256 ^ k = a * 256 ^ (k + 1) + 256 ^ k * (n / 256 ^ k % 256) := by
      rw [Nat.add_mul, Nat.pow_succ, Nat.mul_comm (n / 256 ^ k % 256)]
      congr 1
      rw [Nat.mul_comm 256 a, Nat.mul_assoc, Nat.mul_comm 256 (256 ^ k)]
    omega
theorem wide_cases (i : Nat) (h0 : 24 ≤ i) (h1 : i ≤ 27) : (i = 24 ∧ hwide i = 1) ∨ (i = 25 ∧ hwide i = 2) ∨ (i = 26 ∧ hwide i = 4) ∨ (i = 27 ∧ hwide i = 8) := by
  rcases (by omega : i = 24 ∨ i = 25 ∨ i = 26 ∨ i = 27) with rfl | rfl | rfl | rfl
  · exact .inl ⟨rfl, rfl⟩
  · exact .inr (.inl ⟨rfl, rfl⟩)
  · exact .inr (.inr (.inl ⟨rfl, rfl⟩))
  · exact .inr (.inr (.inr ⟨rfl, rfl⟩))
theorem pow2 : 256 ^ 2 = 65536 := rfl
theorem pow4 : 256 ^ 4 = 4294967296 := rfl
theorem pow8 : 256 ^ 8 = 18446744073709551616 := rfl
/-- What so many bytes hold. -/
theorem fits {n i : Nat} (hn : n < 18446744073709551616) (h0 : 24 ≤ i) (h1 : i ≤ 27) (h : hinfo n ≤ i) : n < 256 ^ hwide i := by
  have hc := hinfo_cases n
  rcases wide_cases i h0 h1 with ⟨rfl, e⟩ | ⟨rfl, e⟩ | ⟨rfl, e⟩ | ⟨rfl, e⟩ <;> rw [e]
  · omega
  · rw [pow2]; omega
  · rw [pow4]; omega
  · rw [pow8]; omega
/-- A head in so many bytes is read. -/
theorem hrd_be (m i n : Nat) (tl : List Nat) (hm : m ≤ 6) (h0 : 24 ≤ i) (h1 : i ≤ 27) (hn : n < 256 ^ hwide i) :
    hrd ((32 * m + i) :: (be (hwide i) n ++ tl)) = ⟨m, i, n, 1 + hwide i, decide (1 + hwide i = hsize n), 0⟩ := by
  have e1 : (32 * m + i) / 32 = m := by omega
  have e2 : (32 * m + i) % 32 = i := by omega
  have e3 : (be (hwide i) n ++ tl).take (hwide i) = be (hwide i) n := by
    have hl := be_len (hwide i) n
    rw [List.take_append_of_le_length (by omega), List.take_of_length_le (by omega)]
  have h := hrd_long (x := 32 * m + i) (r := be (hwide i) n ++ tl) (by omega) (by omega) (by rw [e2, List.length_append, be_len]; omega) (by omega)
  have e4 : bnum 0 (be (hwide i) n) = n := by rw [bnum_be]; simp [Nat.mod_eq_of_lt hn]
  rw [e1, e2, e3, e4] at h
  have e5 : decide (m = 7) = false := decide_eq_false (by omega)
  rw [e5, Bool.false_or] at h
  exact h
theorem hrd_laid (m n : Nat) (tl : List Nat) (hm : m ≤ 6) (hn : n < 18446744073709551616) : hrd (hl m n ++ tl) = ⟨m, hinfo n, n, hsize n, true, 0⟩ := by
  have hlt := hinfo_lt n
  unfold hl
  rw [List.cons_append]
  by_cases h : hinfo n < 24
  · have hc := hinfo_cases n
    have e : hinfo n = n := by omega
    rw [hrd_small (by omega), e, hsize_small (by omega)]
    have e1 : (32 * m + n) / 32 = m := by omega
    have e2 : (32 * m + n) % 32 = n := by omega
    rw [e1, e2]
  · rw [hrd_be m (hinfo n) n tl hm (by omega) (by omega) (fits hn (by omega) (by omega) (Nat.le_refl _))]
    simp [hsize]
end
section
open Go.RowKit Go
/-! ### The form, plainly -/
/-- A text's form. -/
def kfm (s : ByteArray) : List Nat := hl 3 (sl s).length ++ sl s
mutual
/-- A tree's form, its entries as they stand. -/
def tfm : Tv → List Nat
  | .mk k f g n b s y l ks is =>
    if k = 1 then [246] else if k = 2 then [if f = true then 245 else 244]
    else if k = 3 then hl (if g = true then 1 else 0) n
    else if k = 4 then 251 :: be 8 b
    else if k = 5 then kfm s
    else if k = 6 then hl 2 y.length ++ y
    else if k = 7 then hl 6 42 ++ (hl 2 (1 + (lbytes l).length) ++ 0 :: lbytes l)
    else if k = 8 then hl 4 is.length ++ tfmL is
    else if k = 9 then hl 5 is.length ++ tfmK ks is
    else []
def tfmL : List Tv → List Nat
  | [] => []
  | t :: r => tfm t ++ tfmL r
/-- Entries, one key more at most. -/
def tfmK : List ByteArray → List Tv → List Nat
  | [], _ => []
  | k :: ks, [] => kfm k ++ tfmK ks []
  | k :: ks, t :: r => kfm k ++ (tfm t ++ tfmK ks r)
end
/-! ### What an item's bytes are -/
end
section
open Go.RowKit Go
/-! ### What is read is a tree, and its form is what was read -/
/-- The keys of each map rise. -/
inductive Rsn : Tv → Prop
  | mk (t : Tv) (hk : ∀ (i : Nat) (s s' : ByteArray), t.ks[i]? = some s → t.ks[i + 1]? = some s' → bfr (sl s) (sl s') = true) (hi : ∀ u ∈ t.is, Rsn u) : Rsn t
theorem tdepthL_le : ∀ {l : List Tv} {n : Nat}, (∀ u ∈ l, tdepth u ≤ n) → tdepthL l ≤ n
  | [], _, _ => by rw [tdepthL]; exact Nat.zero_le _
  | t :: r, n, h => by
    rw [tdepthL]
    have h1 := h t (List.mem_cons_self ..)
    have h2 := tdepthL_le (l := r) (n := n) (fun u hu => h u (List.mem_cons_of_mem _ hu))
    omega
theorem body_none {r : List Nat} (h : ¬ ((hrd r).m = 2 ∨ (hrd r).m = 3)) : rbody r = [] := by
  unfold rbody
  rw [if_neg h]
end
section
open Go.RowKit Go
set_option maxRecDepth 1000000 in
set_option maxHeartbeats 1000000 in
theorem check_any (w : World) (l : Lk) (hl : Lkb l) : Calls Tryz.prog 138 #[lkv l] w fun e w' => e = .returned (.int .i64 (if lok l then 0 else 40)) ∧ Below w.heap.size w w' := by
  generalize hR : (if lok l then (0 : Int) else 40) = R
  have HR := hide hR
  clear hR
  have HL := hide hl
  have HLO : Hid (∀ x ∈ (⟨0, 112, 18, l.d⟩ : Lk).d, x < 256) := hl.d
  have HOL : Hid (lcs ⟨0, 112, 18, l.d⟩ = #[.int .i64 0, .int .u64 112, .int .u64 18, .string (nstr l.d)]) := rfl
  have HT : Hid ((w.alloc (.cells #[.int .i64 l.v, .int .u64 (l.c : Nat), .int .u64 (l.h : Nat), .string (nstr l.d)] 63)).heap[w.heap.size]? = some (.cells (lcs l) 63 (0, 0))) := heap_alloc_new w _
  have HBQ := hide (below_alloc4 w (.cells #[.int .i64 l.v, .int .u64 (l.c : Nat), .int .u64 (l.h : Nat), .string (nstr l.d)] 63))
  simp only [lkv]
  go_enter Tryz.func138, Tryz.ntmps138
  go_wp2_with fail
  generalize w.alloc (.cells #[.int .i64 l.v, .int .u64 (l.c : Nat), .int .u64 (l.h : Nat), .string (nstr l.d)] 63) = w0 at *
  go_cut [3] (fun c wx => c = .bool (decide (l = ⟨0, 112, 18, l.d⟩) && decide (okd l.h l.d)) ∧ Hid (Below w0.heap.size w0 wx))
  case first => as_aux_lemma =>
    have q3 : ∀ t : Ext w0, t.w'.cell? ⟨w.heap.size, 3, none⟩ = some (.string (nstr l.d)) := fun t => Ext.cell (blk_cell HT.out rfl) t
    have HQ : Hid (∀ wx, (∃ t : Ext w0, wx = t.w') → wx.heap[w.heap.size]? = some (.cells (lcs l) 63 (0, 0))) := by
      rintro _ ⟨t, rfl⟩
      exact (t.h.block _ (blk_lt HT.out)).trans HT.out
    have HCO : Hid (∀ t : Ext w0, Calls Tryz.prog 163 #[.string (nstr l.d)] t.w' fun e w'' => e = .returned (.agg (lcs ⟨0, 112, 18, l.d⟩)) ∧ ∃ t' : Ext w0, w'' = t'.w') := fun t => Calls.ext_below (old_any t.w' (nstr l.d))
    have HCF : Hid (∀ t : Ext w0, Calls Tryz.prog 164 #[.agg (lcs l)] t.w' fun e w'' => e = .returned (.bool (decide (okd l.h l.d))) ∧ ∃ t' : Ext w0, w'' = t'.w') := fun t => Calls.ext_below (fits4_any t.w' l HL.out)
    have HEQ : Hid (∀ wx, (∃ t : Ext w0, wx = t.w') → (Op.equalIn 10000 63 (.agg (lcs l)) (.agg (lcs ⟨0, 112, 18, l.d⟩))).run Tryz.prog wx = .ok (decide (l = ⟨0, 112, 18, l.d⟩)) wx) := fun wx _ => eqlk wx HL.out.d HLO.out
    generalize hbb : decide (l = ⟨0, 112, 18, l.d⟩) = bb at *
    generalize lcs ⟨0, 112, 18, l.d⟩ = ol at *
    have HCN : Hid ((lcs l).size = 4) := rfl
    generalize lcs l = cl at *
    clear hbb
    cases bb
    · refine region_ext (by kernel_rfl) (by kernel_rfl) ?_
      repeat (
        refine wpQuiet_step (fun K hK => ?_)
        first
          | (refine qstep_link rfl rfl w.heap.size cl rfl HCN.out HQ.out (hK _ ?_); clear hK K)
          | (refine qstep_eqlk rfl rfl cl ol false rfl rfl HEQ.out (hK _ ?_); clear hK K)
          | (go_simp
             first
               | (refine hK _ ?_; clear hK K)
               | (apply Exists.intro
                  refine ⟨fun _ => ?_, hK _ ?_⟩
                  (first
                    | (go_at_call 163; exact HCO.out _)
                    | (go_at_call 164; exact HCF.out _))
                  clear hK K)))
      refine wpQuiet_nil ?_
      rintro _ ⟨tq, rfl⟩
      go_wp2_with fail
      go_meet
      case rel => exact ⟨rfl, tq.h⟩
    · refine region_ext (by kernel_rfl) (by kernel_rfl) ?_
      repeat (
        refine wpQuiet_step (fun K hK => ?_)
        first
          | (refine qstep_link rfl rfl w.heap.size cl rfl HCN.out HQ.out (hK _ ?_); clear hK K)
          | (refine qstep_eqlk rfl rfl cl ol true rfl rfl HEQ.out (hK _ ?_); clear hK K)
          | (go_simp
             first
               | (refine hK _ ?_; clear hK K)
               | (apply Exists.intro
                  refine ⟨fun _ => ?_, hK _ ?_⟩
                  (first
                    | (go_at_call 163; exact HCO.out _)
                    | (go_at_call 164; exact HCF.out _))
                  clear hK K)))
      refine wpQuiet_nil ?_
      rintro _ ⟨tq, rfl⟩
      go_wp2_with fail
      go_meet
      case rel => exact ⟨rfl, tq.h⟩
  case rest => as_aux_lemma =>
    obtain ⟨rfl, hb1⟩ := hcut
    have HT1 : Hid (wc.heap[w.heap.size]? = some (.cells (lcs l) 63 (0, 0))) := (hb1.out.block _ (blk_lt HT.out)).trans HT.out
    have HB1 : Hid (Below w.heap.size w wc) := HBQ.out.trans (hb1.out.mono HBQ.out.size)
    have HK : Hid (lok l ↔ (l = ⟨0, 112, 18, l.d⟩ ∧ okd l.h l.d) ∨ (l.v = 1 ∧ l.c < 9223372036854775808 ∧ okd l.h l.d)) := by
      show _ ↔ _
      unfold lok
      rw [lk_ext]
      constructor
      · rintro (⟨h1, h2, h3, h4⟩ | h)
        · exact .inl ⟨⟨h1, h2, h3, rfl⟩, .inl ⟨h3, h4⟩⟩
        · exact .inr h
      · rintro (⟨⟨h1, h2, h3, _⟩, h | h⟩ | h)
        · exact .inl ⟨h1, h2, h3, h.2⟩
        · simp only at h1 h2 h3
          omega
        · exact .inr h
    clear hb1 HT HBQ HOL HLO
    by_cases hc1 : l = ⟨0, 112, 18, l.d⟩ ∧ okd l.h l.d
    · as_aux_lemma =>
      have e1 : (decide (l = ⟨0, 112, 18, l.d⟩) && decide (okd l.h l.d)) = true := by rw [decide_eq_true hc1.1, decide_eq_true hc1.2]; rfl
      have HZ : Hid (R = 0) := by show _ = _; rw [← HR.out, if_pos (HK.out.2 (.inl hc1))]
      rw [e1]
      clear e1 hc1 HR HK
      go_wp2_with fail
      go_ret
      exact ⟨by rw [HZ.out]; rfl, HB1.out⟩
    · have e1 : (decide (l = ⟨0, 112, 18, l.d⟩) && decide (okd l.h l.d)) = false := by
        rw [Bool.and_eq_false_iff, decide_eq_false_iff_not, decide_eq_false_iff_not]
        exact Decidable.not_and_iff_or_not.1 hc1
      rw [e1]
      have HE : Hid (lok l ↔ (l.v = 1 ∧ l.c < 9223372036854775808 ∧ okd l.h l.d)) := HK.out.trans ⟨fun h => h.resolve_left hc1, .inr⟩
      have q0 : wc.cell? ⟨w.heap.size, 0, none⟩ = some (.int .i64 l.v) := blk_cell HT1.out rfl
      have q1 : wc.cell? ⟨w.heap.size, 1, none⟩ = some (.int .u64 (l.c : Nat)) := blk_cell HT1.out rfl
      have q2 : wc.cell? ⟨w.heap.size, 2, none⟩ = some (.int .u64 (l.h : Nat)) := blk_cell HT1.out rfl
      have q3 : wc.cell? ⟨w.heap.size, 3, none⟩ = some (.string (nstr l.d)) := blk_cell HT1.out rfl
      have HF := hide (fits4_any wc l HL.out)
      simp only [lkv] at HF
      have HCL := hide HL.out.c
      clear e1 hc1 HK HL hl HT1
      generalize nstr l.d = S at *
      obtain ⟨v, c, h, d⟩ := l
      simp only at *
      by_cases hv : v = 1
      · subst hv
        generalize hn : (c : Int) = n at *
        have HN := hide hn
        clear hn
        by_cases hc63 : n < 9223372036854775808
        · as_aux_lemma =>
          have HZ : Hid (R = if okd h d then 0 else 40) := by
            show _ = _
            rw [← HR.out]
            have := HN.out
            by_cases hk : okd h d
            · rw [if_pos hk, if_pos (HE.out.2 ⟨rfl, by omega, hk⟩)]
            · rw [if_neg hk, if_neg (fun e => hk (HE.out.1 e).2.2)]
          clear HE HR HN
          go_wp2_with fail
          refine HF.out.mono ?_
          rintro e w2 ⟨rfl, hb2⟩
          have HB2 : Hid (Below w.heap.size w w2) := HB1.out.trans (hb2.mono HB1.out.size)
          clear hb2 HF
          by_cases hk : okd h d
          · rw [decide_eq_true hk]
            rw [if_pos hk] at HZ
            go_wp2_with fail
            go_ret
            exact ⟨by rw [HZ.out]; rfl, HB2.out⟩
          · rw [decide_eq_false hk]
            rw [if_neg hk] at HZ
            go_wp2_with fail
            go_ret
            exact ⟨by rw [HZ.out]; rfl, HB2.out⟩
        · as_aux_lemma =>
          have g2' : (9223372036854775808 : Int) ≤ n := by omega
          have HZ : Hid (R = 40) := by show _ = _; rw [← HR.out, if_neg (fun e => hc63 (by have := (HE.out.1 e).2.1; have := HN.out; omega))]
          clear HE HR HN hc63
          go_wp2_with fail
          go_ret
          exact ⟨by rw [HZ.out]; rfl, HB1.out⟩
      · as_aux_lemma =>
        have g1 : (v == 1) = false := beq_eq_false_iff_ne.2 hv
        have HZ : Hid (R = 40) := by show _ = _; rw [← HR.out, if_neg (fun e => hv (HE.out.1 e).1)]
        clear HE HR hv
        go_wp2_with fail
        go_ret
        exact ⟨by rw [HZ.out]; rfl, HB1.out⟩
end
section
open Go.RowKit Go

end
section
open Go.RowKit Go
set_option maxRecDepth 1000000 in
set_option maxHeartbeats 1000000 in
/-- slices.Grow of nil. -/
theorem grow_any (w : World) (n : Nat) (h0 : 0 < n) (hn : n ≤ 1000) :
    Calls Tryz.prog 172 #[.slice none 0 0, .int .i64 (n : Nat)] w fun e w' => ∃ v, e = .returned v ∧ w'.ownsRow w.heap.size 5 1 v 0 (bv []) ∧ Below w.heap.size w w' := by
  obtain ⟨i5, hi, hz0, hz1, hz2⟩ := info5_ex
  have hold : (Builtin.firstCells i5.size 0 (.slice none 0 0)).run Tryz.prog w.drew = .ok ([] : List Value).toArray w.drew := run_firstCells_none w.drew i5.size 0 0 0
  have hrz : ∀ ty, (Builtin.append_ #[23, 3] ty #[.slice none 0 0, .int .i64 (n : Nat)]).run Tryz.prog w = .ok (.slice (some ⟨w.heap.size, 0, none⟩) n (grownCap w n 0 5)) (w.drew.alloc (.cells (Builtin.zeroCells (Value.int .u8 0).cells n ++ Builtin.zeroCells (Value.int .u8 0).cells (grownCap w n 0 5 - n)) 5)) := fun ty => by
    have h := Lib.run_append_grow_zeros w 23 3 ty 5 i5 (.int .u8 0) .i64 .i64 Tryz.underlying23 Tryz.underlying3 hi hz0 none 0 0 [] hold n h0 (by rw [hz1]; omega) (by omega) (by omega) (by rw [hz2]; omega) (growslice_fits (by omega) (by rw [hz2]; omega))
    simpa using h
  have hG := grownCap_ge w n 0 5
  have hM := grownCap_le_maxLen w n 0 5 (by unfold maxLen; omega)
  have HO : Hid ((w.drew.alloc (.cells (Builtin.zeroCells (Value.int .u8 0).cells n ++ Builtin.zeroCells (Value.int .u8 0).cells (grownCap w n 0 5 - n)) 5)).ownsRow w.heap.size 5 1 (.slice (some ⟨w.heap.size, 0, none⟩) 0 (grownCap w n 0 5)) 0 (bv [])) := by
    refine ⟨rfl, .inr ⟨w.heap.size, grownCap w n 0 5, _, rfl, Nat.le_refl _, heap_alloc_new w.drew _, by omega, hM, ?_, by simp [bv]⟩⟩
    simp [Builtin.zeroCells, Value.cells]
    omega
  have HB : Hid (Below w.heap.size w (w.drew.alloc (.cells (Builtin.zeroCells (Value.int .u8 0).cells n ++ Builtin.zeroCells (Value.int .u8 0).cells (grownCap w n 0 5 - n)) 5))) := (Below.refl w.heap.size w).drew.alloc (Nat.le_refl _) _
  clear hold hi hz0 hz1 hz2
  have h1 : ¬ ((n : Int) < 0) := by omega
  have h4 : (n : Int) > 0 := by omega
  have hG63 : (grownCap w n 0 5 : Int) ≤ 9223372036854775807 := by unfold maxLen at hM; omega
  generalize grownCap w n 0 5 = G at *
  go_enter Tryz.func172, Tryz.ntmps172
  go_wp2_with (at_builtin; refine Lib.wpList_append_run _ rfl _ _ _ _ rfl _ _ rfl rfl _ _ (hrz _) ?_)
  go_ret
  exact ⟨_, rfl, HO.out, HB.out⟩
end
section
open Go.RowKit Go
/-- Rows of bytes in a block of slices. -/
structure Rws (w : World) (g : Nat) (vs : List Value) (xss : List (List Nat)) : Prop where
  n : vs.length = xss.length
  c : ∀ i, i < vs.length → w.cell? ⟨g, i, none⟩ = some (vs.getD i undef)
  b : ∀ i, i < vs.length → BSl w (vs.getD i undef) (xss.getD i [])
theorem Rws.below {w w' : World} {g : Nat} {vs : List Value} {xss : List (List Nat)} (h : Rws w g vs xss) (hb : Below w.heap.size w w') : Rws w' g vs xss :=
  ⟨h.n, fun i hi => keep_below hb _ _ (h.c i hi), fun i hi => (h.b i hi).move (keep_below hb)⟩
/-- How many bytes the first k rows have, and all bytes. -/
def fln (xss : List (List Nat)) (k : Nat) : Nat := (xss.take k).flatten.length
def fla (xss : List (List Nat)) (k : Nat) : List Nat := (xss.take k).flatten
theorem fla_len (xss : List (List Nat)) (k : Nat) : (fla xss k).length = fln xss k := rfl
theorem fla_succ (xss : List (List Nat)) (k : Nat) (hk : k < xss.length) : fla xss (k + 1) = fla xss k ++ xss.getD k [] := by
  unfold fla
  rw [List.take_succ_eq_append_getElem hk, List.flatten_append]
  simp [List.getD, hk]
theorem fln_succ (xss : List (List Nat)) (k : Nat) (hk : k < xss.length) : fln xss (k + 1) = fln xss k + (xss.getD k []).length := by
  rw [← fla_len, ← fla_len, fla_succ xss k hk, List.length_append]
theorem fln_le (xss : List (List Nat)) (k : Nat) : fln xss k ≤ fln xss xss.length := by
  unfold fln
  rw [List.take_length]
  conv => rhs; rw [← List.take_append_drop k xss, List.flatten_append, List.length_append]
  omega
end
section
open Go.RowKit Go
/-- What Bytes lays. -/
def lrow (l : Lk) : List Nat := if lok l then lbytes l else []
theorem lrow_byte {l : Lk} (h : ∀ x ∈ l.d, x < 256) : ∀ x ∈ lrow l, x < 256 := by
  unfold lrow
  split
  · exact lbytes_byte (by assumption) h
  · simp
end
section
open Go.RowKit Go
theorem blt_self : ∀ x, blt x x = false
  | [] => rfl
  | x :: r => by rw [blt, if_pos rfl, blt_self r]
end
section
open Go.RowKit Go
theorem blt_tr : ∀ (x y z : List Nat), x.length = y.length → y.length = z.length → blt x y = true → blt y z = true → blt x z = true
  | [], _, _, _, _, h, _ => by simp [blt] at h
  | _ :: _, [], _, h, _, _, _ => by simp at h
  | _ :: _, _ :: _, [], _, h, _, _ => by simp at h
  | a :: x, b :: y, c :: z, h1, h2, h3, h4 => by
    have ih := blt_tr x y z (by simpa using h1) (by simpa using h2)
    simp only [blt] at *
    by_cases e1 : a = b
    · by_cases e2 : b = c
      · rw [if_pos e1] at h3
        rw [if_pos e2] at h4
        rw [if_pos (by omega)]
        exact ih h3 h4
      · rw [if_neg e2] at h4
        rw [if_neg (by omega)]
        simp at *
        omega
    · rw [if_neg e1] at h3
      by_cases e2 : b = c
      · rw [if_neg (by omega)]
        simp at *
        omega
      · rw [if_neg e2] at h4
        simp at h3 h4
        rw [if_neg (by omega)]
        simp
        omega
theorem blt_nt : ∀ (x y z : List Nat), x.length = y.length → y.length = z.length → blt x y = false → blt y z = false → blt x z = false
  | [], _, _, _, _, _, _ => by simp [blt]
  | _ :: _, [], _, h, _, _, _ => by simp at h
  | _ :: _, _ :: _, [], _, h, _, _ => by simp at h
  | a :: x, b :: y, c :: z, h1, h2, h3, h4 => by
    have ih := blt_nt x y z (by simpa using h1) (by simpa using h2)
    simp only [blt] at *
    by_cases e1 : a = b
    · by_cases e2 : b = c
      · rw [if_pos e1] at h3
        rw [if_pos e2] at h4
        rw [if_pos (by omega)]
        exact ih h3 h4
      · rw [if_neg e2] at h4
        rw [if_neg (by omega)]
        simp at *
        omega
    · rw [if_neg e1] at h3
      by_cases e2 : b = c
      · rw [if_neg (by omega)]
        simp at *
        omega
      · rw [if_neg e2] at h4
        simp at h3 h4
        rw [if_neg (by omega)]
        simp
        omega
theorem bfr_self (x : List Nat) : bfr x x = false := by
  unfold bfr
  rw [if_pos rfl]
  exact blt_self x
theorem bfr_tr (x y z : List Nat) (h1 : bfr x y = true) (h2 : bfr y z = true) : bfr x z = true := by
  unfold bfr at *
  by_cases e1 : x.length = y.length
  · rw [if_pos e1] at h1
    by_cases e2 : y.length = z.length
    · rw [if_pos e2] at h2
      rw [if_pos (by omega)]
      exact blt_tr x y z e1 e2 h1 h2
    · rw [if_neg e2] at h2
      rw [if_neg (by omega)]
      simp at *
      omega
  · rw [if_neg e1] at h1
    by_cases e2 : y.length = z.length
    · rw [if_neg (by omega)]
      simp at *
      omega
    · rw [if_neg e2] at h2
      simp at h1 h2
      rw [if_neg (by omega)]
      simp
      omega
theorem bfr_nt (x y z : List Nat) (h1 : bfr x y = false) (h2 : bfr y z = false) : bfr x z = false := by
  unfold bfr at *
  by_cases e1 : x.length = y.length
  · rw [if_pos e1] at h1
    by_cases e2 : y.length = z.length
    · rw [if_pos e2] at h2
      rw [if_pos (by omega)]
      exact blt_nt x y z e1 e2 h1 h2
    · rw [if_neg e2] at h2
      rw [if_neg (by omega)]
      simp at *
      omega
  · rw [if_neg e1] at h1
    by_cases e2 : y.length = z.length
    · rw [if_neg (by omega)]
      simp at *
      omega
    · rw [if_neg e2] at h2
      simp at h1 h2
      rw [if_neg (by omega)]
      simp
      omega
end
end Go.Proofs.YtjlknnpgngaooaaGreatDoor
