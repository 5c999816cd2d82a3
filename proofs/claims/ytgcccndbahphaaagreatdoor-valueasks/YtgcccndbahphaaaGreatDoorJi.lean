import Derived.Test.YtgcccndbahphaaaGreatDoorJh
import Derived.Test.YtgcccndbahphaaaGreatDoorJc
import Derived.Laws.Externs
import Derived.Laws.Bits64
import Derived.Test.YtgcccndbahphaaaGreatDoorSlav
import Derived.Test.YtgcccndbahphaaaGreatDoorJd
import Derived.Test.YtgcccndbahphaaaGreatDoorJb
import Derived.Test.YtgcccndbahphaaaGreatDoorJe
import Derived.Test.YtgcccndbahphaaaGreatDoorJa
namespace Go.Proofs.YtgcccndbahphaaaGreatDoor
section
open Go.RowKit Go
theorem sorted6_any (t : Tv) : AgainC 20 SrtR t := by
  have h : ∀ N, ∀ t : Tv, SizeOf.sizeOf t = N → AgainC 20 SrtR t := by
    intro N
    induction N using Nat.strongRecOn with
    | _ N ih => exact fun t hN => sorted_step t (fun u hu => ih _ (by rw [← hN]; exact Tv.is_lt hu) u rfl)
  exact h _ t rfl
theorem end_fr {wx : World} {R : Nat} {c : Array Value} {tmps : Array Value} (hn : c.size = 13) (hr : wx.heap[R]? = some (.cells c 55 (0, 0))) (hp : tmps.getD 2 undef = .pointer (some ⟨R, 0, none⟩)) : (results Tryz.f58 tmps).run Tryz.prog wx = .ok (.agg c) wx := by
  refine (results_one (p := 2) (ty := 55) rfl _ _ _).trans ?_
  rw [hp]
  have h1 := run_loadVar_row (P := Tryz.prog) wx R 55 55 c (0, 0) _ hr Tryz.underlying55 rfl (by rw [hn]; exact infoV)
  simp [asAddr, h1, Result.andThen]
theorem mad_eq {is js : List Tv} (h : Mad (fun u s => s = u) is js) : js = is := by
  apply List.ext_getElem?
  intro i
  by_cases hi : i < is.length
  · have hj : i < js.length := by rw [h.n]; exact hi
    rw [List.getElem?_eq_getElem hi, List.getElem?_eq_getElem hj, h.r i _ _ (List.getElem?_eq_getElem hi) (List.getElem?_eq_getElem hj)]
  · have := h.n
    rw [List.getElem?_eq_none (by omega), List.getElem?_eq_none (by omega)]
theorem wi_self (t : Tv) : t.wi t.is = t := by
  obtain ⟨k, f, g, n, b, s, y, l, ks, is⟩ := t
  rfl
end
section
open Go.RowKit Go
/-- Finite, by its bits. -/
def finb (b : Nat) : Bool := decide (b % 9223372036854775808 < 9218868437227405312)
theorem read_def (b : Nat) : Ieee.double.read b = (if b % 9223372036854775808 < 4503599627370496 then .number (b / 9223372036854775808 % 2 == 1) (b % 9223372036854775808) (-1074) else if b % 9223372036854775808 < 9218868437227405312 then .number (b / 9223372036854775808 % 2 == 1) (4503599627370496 + b % 9223372036854775808 % 4503599627370496) (-1074 + ((b % 9223372036854775808 / 4503599627370496 - 1 : Nat) : Int)) else if b % 9223372036854775808 = 9218868437227405312 then .infinity (b / 9223372036854775808 % 2 == 1) else .nan (b / 9223372036854775808 % 2 == 1) (b % 9223372036854775808 - 9218868437227405312)) := rfl
/-- A finite float's magnitude. -/
theorem read_fin {b : Nat} (h : b % 9223372036854775808 < 9218868437227405312) : ∃ m p, Ieee.double.read b = .number (b / 9223372036854775808 % 2 == 1) m p ∧ m ≤ 9007199254740991 ∧ p ≤ 971 := by
  rw [read_def]
  by_cases h1 : b % 9223372036854775808 < 4503599627370496
  · rw [if_pos h1]
    exact ⟨_, _, rfl, by omega, by omega⟩
  · rw [if_neg h1, if_pos h]
    exact ⟨_, _, rfl, by omega, by omega⟩
theorem ord_self (b : Nat) : (Ieee.double.order b b != some .eq) = decide (9218868437227405312 < b % 9223372036854775808) := by
  unfold Ieee.Format.order
  by_cases h : b % 9223372036854775808 < 9218868437227405312
  · obtain ⟨m, p, e, _, _⟩ := read_fin h
    rw [e, decide_eq_false (by omega)]
    simp [Ieee.Datum.order]
  · rw [read_def, if_neg (by omega), if_neg h]
    by_cases h2 : b % 9223372036854775808 = 9218868437227405312
    · rw [if_pos h2, decide_eq_false (by omega)]
      simp [Ieee.Datum.order]
    · rw [if_neg h2, decide_eq_true (by omega)]
      simp [Ieee.Datum.order]
theorem ord_max {b : Nat} (hb : b ≤ 9218868437227405312) : (Ieee.double.order b 9218868437227405311 == some .gt) = decide (b = 9218868437227405312) := by
  have hm : b % 9223372036854775808 = b := Nat.mod_eq_of_lt (by omega)
  have hd : b / 9223372036854775808 % 2 = 0 := by omega
  have e2 : Ieee.double.read 9218868437227405311 = .number false 9007199254740991 971 := by rfl
  unfold Ieee.Format.order
  rw [e2]
  by_cases h : b < 9218868437227405312
  · obtain ⟨m, p, e, hmm, hp⟩ := read_fin (b := b) (by omega)
    rw [e, decide_eq_false (by omega), hd]
    have hmin : min p (971 : Int) = p := by omega
    have hsh : m ≤ 9007199254740991 <<< (971 - p).toNat := by
      rw [Nat.shiftLeft_eq]
      exact Nat.le_trans hmm (Nat.le_mul_of_pos_right _ (Nat.two_pow_pos _))
    simp only [Ieee.Datum.order, hmin, Int.sub_self, Ieee.signed]
    generalize 9007199254740991 <<< (971 - p).toNat = K at *
    have h3 : compare ((m <<< (0 : Int).toNat : Nat) : Int) ((K : Nat) : Int) ≠ .gt := by
      intro hc
      have := Int.compare_eq_gt.1 hc
      simp at this
      omega
    simp at h3 ⊢
    exact h3
  · have e : b = 9218868437227405312 := by omega
    subst e
    rfl
set_option maxRecDepth 1000000 in
theorem frombits_any (b : Nat) (w : World) : (callFunc 125 #[.int .u64 (b : Nat)]).run Tryz.prog w = .ok (.value (.float .f64 b)) w := by
  rw [run_callFunc_extern Tryz.func125 (by kernel_rfl) (by kernel_rfl) (by kernel_rfl) (e := Extern.MathFloatBits.float64frombits) (by kernel_rfl)]
  rfl
set_option maxRecDepth 1000000 in
theorem tobits_any (b : Nat) (w : World) : (callFunc 164 #[.float .f64 b]).run Tryz.prog w = .ok (.value (.int .u64 (b : Nat))) w := by
  rw [run_callFunc_extern Tryz.func164 (by kernel_rfl) (by kernel_rfl) (by kernel_rfl) (e := Extern.MathFloatBits.float64bits) (by kernel_rfl)]
  rfl
set_option maxRecDepth 1000000 in
theorem isnan_any (b : Nat) (w : World) : Calls Tryz.prog 146 #[.float .f64 b] w fun e w' => e = .returned (.bool (decide (9218868437227405312 < b % 9223372036854775808))) ∧ w' = w := by
  have HE : Hid ((FloatKind.f64.format.order b b != some .eq) = decide (9218868437227405312 < b % 9223372036854775808)) := ord_self b
  go_enter Tryz.func146, Tryz.ntmps146
  go_wp2_with fail
  go_ret
  exact ⟨by rw [← HE.out]; rfl, rfl⟩
theorem andnot_top (b : Nat) (hb : b < 18446744073709551616) : bits .andNot .u64 (b : Int) 9223372036854775808 = ((b % 9223372036854775808 : Nat) : Int) := by
  have e1 : (BitVec.ofInt 64 (b : Int)).toNat = b := by
    simp
    omega
  have e2 : (~~~ (BitVec.ofInt 64 9223372036854775808)).toNat = 9223372036854775807 := by decide
  show IntKind.u64.wrap ((BitVec.ofInt 64 (b : Int) &&& ~~~ (BitVec.ofInt 64 9223372036854775808)).toNat : Nat) = _
  rw [BitVec.toNat_and, e1, e2, IntKind.wrap_u64]
  have e3 := Nat.and_two_pow_sub_one_eq_mod b 63
  rw [show (2 ^ 63 - 1 : Nat) = 9223372036854775807 from rfl, show (2 ^ 63 : Nat) = 9223372036854775808 from rfl] at e3
  rw [e3]
  omega
set_option maxRecDepth 1000000 in
theorem abs_any (b : Nat) (hb : b < 18446744073709551616) (w : World) : Calls Tryz.prog 161 #[.float .f64 b] w fun e w' => e = .returned (.float .f64 (b % 9223372036854775808)) ∧ w' = w := by
  have h1 := tobits_any b
  have h2 := frombits_any (b % 9223372036854775808)
  rw [← andnot_top b hb] at h2
  clear hb
  generalize b % 9223372036854775808 = m at *
  go_enter Tryz.func161, Tryz.ntmps161
  go_wp2_with fail
  go_ret
  exact ⟨rfl, rfl⟩
set_option maxRecDepth 1000000 in
theorem isinf_any (b : Nat) (hb : b < 18446744073709551616) (hn : b % 9223372036854775808 ≤ 9218868437227405312) (w : World) : Calls Tryz.prog 147 #[.float .f64 b, .int .i64 0] w fun e w' => e = .returned (.bool (decide (b % 9223372036854775808 = 9218868437227405312))) ∧ w' = w := by
  have HE : Hid ((FloatKind.f64.format.order (b % 9223372036854775808) 9218868437227405311 == some .gt) = decide (b % 9223372036854775808 = 9218868437227405312)) := ord_max hn
  have HA := hide (fun W => abs_any b hb W)
  clear hb hn
  generalize b % 9223372036854775808 = m at *
  go_enter Tryz.func147, Tryz.ntmps147
  go_wp2_with (go_at_call 161; refine (Hid.out HA _).mono ?_; rintro e w' ⟨rfl, rfl⟩)
  go_ret
  exact ⟨by rw [← HE.out]; rfl, rfl⟩
set_option maxRecDepth 1000000 in
theorem finite_any (b : Nat) (hb : b < 18446744073709551616) (w : World) : Calls Tryz.prog 124 #[.float .f64 b] w fun e w' => e = .returned (.bool (finb b)) ∧ w' = w := by
  have HN := hide (fun W => isnan_any b W)
  unfold finb
  by_cases h : 9218868437227405312 < b % 9223372036854775808
  · rw [decide_eq_false (by omega)]
    rw [decide_eq_true h] at HN
    clear h
    go_enter Tryz.func124, Tryz.ntmps124
    go_wp2_with (go_at_call 146; refine (Hid.out HN _).mono ?_; rintro e w' ⟨rfl, rfl⟩)
    go_ret
    exact ⟨rfl, rfl⟩
  · have HI := hide (fun W => isinf_any b hb (by omega) W)
    have HD : Hid (decide (b % 9223372036854775808 < 9218868437227405312) = !decide (b % 9223372036854775808 = 9218868437227405312)) := by
      show _ = _
      rw [Bool.eq_iff_iff]
      simp
      omega
    rw [decide_eq_false h] at HN
    rw [HD.out]
    clear h HD
    generalize decide (b % 9223372036854775808 = 9218868437227405312) = R at *
    go_enter Tryz.func124, Tryz.ntmps124
    go_wp2_with (first
      | (go_at_call 146; refine (Hid.out HN _).mono ?_; rintro e w' ⟨rfl, rfl⟩)
      | (go_at_call 147; refine (Hid.out HI _).mono ?_; rintro e w' ⟨rfl, rfl⟩))
    go_ret
    exact ⟨rfl, rfl⟩
end
section
open Go.RowKit Go
/-! Sorted values, plainly. -/
/-- What of a tree the order of its entries hangs on. -/
inductive Trk : Tv → Prop
  | mk (t : Tv) (h9 : t.k = 9 → t.ks.length = t.is.length ∧ t.ks.Nodup ∧ t.f = false ∧ t.g = false ∧ t.n = 0 ∧ t.b = 0 ∧ t.s = ⟨#[]⟩ ∧ t.y = [] ∧ t.l = ⟨0, 0, 0, []⟩) (hn : t.k ≠ 9 → t.ks = []) (hi : ∀ u ∈ t.is, Trk u) : Trk t
theorem Trk.m {t : Tv} (h : Trk t) (h9 : t.k = 9) : t.ks.length = t.is.length ∧ t.ks.Nodup ∧ t.f = false ∧ t.g = false ∧ t.n = 0 ∧ t.b = 0 ∧ t.s = ⟨#[]⟩ ∧ t.y = [] ∧ t.l = ⟨0, 0, 0, []⟩ := by
  cases h with
  | mk _ a b c => exact a h9
theorem Trk.e {t : Tv} (h : Trk t) (h9 : t.k ≠ 9) : t.ks = [] := by
  cases h with
  | mk _ a b c => exact b h9
theorem Trk.i {t : Tv} (h : Trk t) : ∀ u ∈ t.is, Trk u := by
  cases h with
  | mk _ a b c => exact c
/-- The same tree, whatever the order of maps' entries. -/
def Teq (a b : Tv) : Prop := ∃ s, SrtR a s ∧ SrtR b s
theorem blt_tot : ∀ (x y : List Nat), x.length = y.length → blt x y = false → blt y x = false → x = y
  | [], [], _, _, _ => rfl
  | [], _ :: _, h, _, _ => by simp at h
  | _ :: _, [], h, _, _ => by simp at h
  | a :: x, b :: y, h, h1, h2 => by
    simp only [blt] at h1 h2
    by_cases e : a = b
    · rw [if_pos e] at h1
      rw [if_pos e.symm] at h2
      rw [e, blt_tot x y (by simpa using h) h1 h2]
    · rw [if_neg e] at h1
      rw [if_neg (fun h => e h.symm)] at h2
      simp at h1 h2
      omega
theorem bfr_tot {x y : List Nat} (h1 : bfr x y = false) (h2 : bfr y x = false) : x = y := by
  unfold bfr at *
  by_cases e : x.length = y.length
  · rw [if_pos e] at h1
    rw [if_pos e.symm] at h2
    exact blt_tot x y e h1 h2
  · rw [if_neg e] at h1
    rw [if_neg (fun h => e h.symm)] at h2
    simp at h1 h2
    omega
theorem sl_inj {s t : ByteArray} (h : sl s = sl t) : s = t := by rw [← nstr_sl s, h, nstr_sl]
theorem nodup_at {ks : List ByteArray} (h : ks.Nodup) {i j : Nat} (hi : i < ks.length) (hj : j < ks.length) (e : ks.getD i ⟨#[]⟩ = ks.getD j ⟨#[]⟩) : i = j := by
  simp only [List.getD, List.getElem?_eq_getElem hi, List.getElem?_eq_getElem hj, Option.getD_some] at e
  have hp := List.pairwise_iff_getElem.1 h
  rcases Nat.lt_trichotomy i j with hij | hij | hij
  · exact absurd e (hp i j hi hj hij)
  · exact hij
  · exact absurd e.symm (hp j i hj hi hij)
theorem Srp.pw {ks : List ByteArray} {n : Nat} {ps : List Nat} (h : Srp ks n ps) : ps.Pairwise (fun p q => bfr (sl (ks.getD q ⟨#[]⟩)) (sl (ks.getD p ⟨#[]⟩)) = false) := by
  rw [List.pairwise_iff_getElem]
  intro i j hi hj hij
  exact h.s i j _ _ hij (List.getElem?_eq_getElem hi) (List.getElem?_eq_getElem hj)
/-- Where no key stands twice there is one order. -/
theorem srp_one {ks : List ByteArray} {n : Nat} {ps qs : List Nat} (hnd : ks.Nodup) (hl : n ≤ ks.length) (h1 : Srp ks n ps) (h2 : Srp ks n qs) : ps = qs := by
  refine List.Perm.eq_of_pairwise (le := fun p q => bfr (sl (ks.getD q ⟨#[]⟩)) (sl (ks.getD p ⟨#[]⟩)) = false) ?_ h1.pw h2.pw (h1.p.trans h2.p.symm)
  intro a b ha hb hab hba
  have e := sl_inj (bfr_tot hab hba)
  have la := h1.lt a ha
  have lb := h2.lt b hb
  exact (nodup_at hnd (by omega) (by omega) e).symm
/-- A list of things that are there one by one. -/
theorem list_of {α : Type} (n : Nat) (P : Nat → α → Prop) (h : ∀ i, i < n → ∃ v, P i v) : ∃ l : List α, l.length = n ∧ ∀ (i : Nat) (v : α), l[i]? = some v → P i v := by
  induction n with
  | zero => exact ⟨[], rfl, fun i v h => by simp at h⟩
  | succ n ih =>
    obtain ⟨l, hl, hp⟩ := ih (fun i hi => h i (by omega))
    obtain ⟨v, hv⟩ := h n (by omega)
    refine ⟨l ++ [v], by simp [hl], fun i u hu => ?_⟩
    rcases Nat.lt_or_ge i l.length with h1 | h1
    · rw [List.getElem?_append_left h1] at hu
      exact hp i u hu
    · rw [List.getElem?_append_right h1] at hu
      have e : i - l.length = 0 := by
        rcases Nat.eq_zero_or_pos (i - l.length) with e | e
        · exact e
        · rw [List.getElem?_eq_none (by simp; omega)] at hu
          cases hu
      rw [e] at hu
      simp at hu
      subst hu
      have : i = n := by omega
      subst this
      exact hv
theorem SrtR.top {t s : Tv} (h : SrtR t s) : Top t s := by
  cases h with
  | rest _ _ _ ht => exact ht
  | map _ _ _ _ ht => exact ht
theorem teq_rest {a b : Tv} (h9 : a.k ≠ 9) (ht : Top a b) (hka : a.ks = []) (hkb : b.ks = []) (hn : a.is.length = b.is.length) (hi : ∀ (i : Nat) (u v : Tv), a.is[i]? = some u → b.is[i]? = some v → Teq u v) : Teq a b := by
  obtain ⟨l, hl, hp⟩ := list_of a.is.length (fun i s => ∀ u v, a.is[i]? = some u → b.is[i]? = some v → SrtR u s ∧ SrtR v s) (fun i hil => by
    obtain ⟨s, h1, h2⟩ := hi i a.is[i] (b.is[i]'(by omega)) (List.getElem?_eq_getElem hil) (List.getElem?_eq_getElem (by omega))
    refine ⟨s, fun u v hu hv => ?_⟩
    rw [List.getElem?_eq_getElem hil] at hu
    rw [List.getElem?_eq_getElem (show i < b.is.length by omega)] at hv
    injection hu with hu
    injection hv with hv
    subst hu hv
    exact ⟨h1, h2⟩)
  refine ⟨a.wi l, SrtR.rest a (a.wi l) h9 ⟨rfl, rfl, rfl, rfl, rfl, rfl, rfl, rfl⟩ rfl hl (fun i u v hu hv => ?_), SrtR.rest b (a.wi l) (by rw [ht.k]; exact h9) ⟨ht.k.symm, ht.f.symm, ht.g.symm, ht.n.symm, ht.b.symm, ht.s.symm, ht.y.symm, ht.l.symm⟩ (by show a.ks = b.ks; rw [hka, hkb]) (by show l.length = _; omega) (fun i u v hu hv => ?_)⟩
  · have hil := (List.getElem?_eq_some_iff.1 hu).1
    exact (hp i v hv u (b.is[i]'(by omega)) hu (List.getElem?_eq_getElem (by omega))).1
  · have hil := (List.getElem?_eq_some_iff.1 hu).1
    exact (hp i v hv (a.is[i]'(by omega)) u (List.getElem?_eq_getElem (by omega)) hu).2
theorem teq_top {a b : Tv} (h : Teq a b) : Top a b := by
  obtain ⟨s, h1, h2⟩ := h
  have t1 := h1.top
  have t2 := h2.top
  exact ⟨t2.k.symm.trans t1.k, t2.f.symm.trans t1.f, t2.g.symm.trans t1.g, t2.n.symm.trans t1.n, t2.b.symm.trans t1.b, t2.s.symm.trans t1.s, t2.y.symm.trans t1.y, t2.l.symm.trans t1.l⟩
theorem teq_items {a b : Tv} (h9 : a.k ≠ 9) (h : Teq a b) : a.is.length = b.is.length ∧ ∀ (i : Nat) (u v : Tv), a.is[i]? = some u → b.is[i]? = some v → Teq u v := by
  have hk := (teq_top h).k
  obtain ⟨s, h1, h2⟩ := h
  cases h1 with
  | map _ _ _ e => exact absurd e h9
  | rest _ _ _ _ _ n1 i1 =>
    cases h2 with
    | map _ _ _ e => exact absurd (hk.symm.trans e) h9
    | rest _ _ _ _ _ n2 i2 =>
      refine ⟨by omega, fun i u v hu hv => ?_⟩
      have hil := (List.getElem?_eq_some_iff.1 hu).1
      have hs : s.is[i]? = some (s.is[i]'(by omega)) := List.getElem?_eq_getElem (by omega)
      exact ⟨_, i1 i u _ hu hs, i2 i v _ hv hs⟩
theorem pickS_at {ks : List ByteArray} {ps : List Nat} {i p : Nat} (hp : ps[i]? = some p) : (pickS ks ps)[i]? = some (ks.getD p ⟨#[]⟩) := by simp [pickS, hp]
/-- Two maps, by the orders of their keys. -/
theorem teq_map {a b : Tv} {pa pb : List Nat} (ha : Trk a) (hb : Trk b) (ka : a.k = 9) (kb : b.k = 9) (spa : Srp a.ks (min a.ks.length a.is.length) pa) (spb : Srp b.ks (min b.ks.length b.is.length) pb) :
    Teq a b ↔ pa.length = pb.length ∧ ∀ (i p q : Nat), pa[i]? = some p → pb[i]? = some q → a.ks.getD p ⟨#[]⟩ = b.ks.getD q ⟨#[]⟩ ∧ ∀ u v, a.is[p]? = some u → b.is[q]? = some v → Teq u v := by
  obtain ⟨la, na, fa⟩ := ha.m ka
  obtain ⟨lb, nb, fb⟩ := hb.m kb
  constructor
  · rintro ⟨s, h1, h2⟩
    cases h1 with
    | rest _ _ e => exact absurd ka e
    | map _ _ pa' _ _ spa' hka hna hia =>
      cases h2 with
      | rest _ _ e => exact absurd kb e
      | map _ _ pb' _ _ spb' hkb hnb hib =>
        have e1 := srp_one na (by omega) spa spa'
        have e2 := srp_one nb (by omega) spb spb'
        subst e1 e2
        refine ⟨by omega, fun i p q hp hq => ⟨?_, fun u v hu hv => ?_⟩⟩
        · have h1 := pickS_at (ks := a.ks) hp
          have h2 := pickS_at (ks := b.ks) hq
          rw [← hka] at h1
          rw [← hkb] at h2
          rw [h1] at h2
          exact Option.some.inj h2
        · have hil := (List.getElem?_eq_some_iff.1 hp).1
          have hs : s.is[i]? = some (s.is[i]'(by omega)) := List.getElem?_eq_getElem (by omega)
          exact ⟨_, hia i p u _ hp hu hs, hib i q v _ hq hv hs⟩
  · rintro ⟨hl, hi⟩
    have lpa := spa.len
    have lpb := spb.len
    obtain ⟨l, hll, hp⟩ := list_of pa.length (fun i s => ∀ p q u v, pa[i]? = some p → pb[i]? = some q → a.is[p]? = some u → b.is[q]? = some v → SrtR u s ∧ SrtR v s) (fun i hil => by
      have h1 : pa[i]? = some pa[i] := List.getElem?_eq_getElem hil
      have h2 : pb[i]? = some (pb[i]'(by omega)) := List.getElem?_eq_getElem (by omega)
      have m1 := spa.lt _ (List.mem_of_getElem? h1)
      have m2 := spb.lt _ (List.mem_of_getElem? h2)
      obtain ⟨s, h3, h4⟩ := (hi i _ _ h1 h2).2 _ _ (List.getElem?_eq_getElem (show pa[i] < a.is.length by omega)) (List.getElem?_eq_getElem (show pb[i]'(by omega) < b.is.length by omega))
      refine ⟨s, fun p q u v hp hq hu hv => ?_⟩
      rw [h1] at hp
      rw [h2] at hq
      injection hp with hp
      injection hq with hq
      subst hp hq
      rw [List.getElem?_eq_getElem (show pa[i] < a.is.length by omega)] at hu
      rw [List.getElem?_eq_getElem (show pb[i]'(by omega) < b.is.length by omega)] at hv
      injection hu with hu
      injection hv with hv
      subst hu hv
      exact ⟨h3, h4⟩)
    have hks : pickS a.ks pa = pickS b.ks pb := by
      apply List.ext_getElem?
      intro i
      by_cases hil : i < pa.length
      · have h1 : pa[i]? = some pa[i] := List.getElem?_eq_getElem hil
        have h2 : pb[i]? = some (pb[i]'(by omega)) := List.getElem?_eq_getElem (by omega)
        rw [pickS_at h1, pickS_at h2, (hi i _ _ h1 h2).1]
      · rw [List.getElem?_eq_none (by rw [pickS_len]; omega), List.getElem?_eq_none (by rw [pickS_len]; omega)]
    refine ⟨.mk 9 false false 0 0 ⟨#[]⟩ [] ⟨0, 0, 0, []⟩ (pickS a.ks pa) l, SrtR.map a _ pa ka ⟨ka.symm, fa.1.symm, fa.2.1.symm, fa.2.2.1.symm, fa.2.2.2.1.symm, fa.2.2.2.2.1.symm, fa.2.2.2.2.2.1.symm, fa.2.2.2.2.2.2.symm⟩ spa rfl hll (fun i p u v hp' hu hv => ?_), SrtR.map b _ pb kb ⟨kb.symm, fb.1.symm, fb.2.1.symm, fb.2.2.1.symm, fb.2.2.2.1.symm, fb.2.2.2.2.1.symm, fb.2.2.2.2.2.1.symm, fb.2.2.2.2.2.2.symm⟩ spb hks (by show l.length = _; omega) (fun i q u v hq hu hv => ?_)⟩
    · have hil := (List.getElem?_eq_some_iff.1 hp').1
      have h2 : pb[i]? = some (pb[i]'(by omega)) := List.getElem?_eq_getElem (by omega)
      have m2 := spb.lt _ (List.mem_of_getElem? h2)
      exact (hp i v hv p _ u _ hp' h2 hu (List.getElem?_eq_getElem (by omega))).1
    · have hil := (List.getElem?_eq_some_iff.1 hq).1
      have h1 : pa[i]? = some (pa[i]'(by omega)) := List.getElem?_eq_getElem (by omega)
      have m1 := spa.lt _ (List.mem_of_getElem? h1)
      exact (hp i v hv _ q _ u h1 hq (List.getElem?_eq_getElem (by omega)) hu).2
end
section
open Go.RowKit Go
/-- The library's tables of UTF-8 lie as its text lays them. -/
def Tabs (w : World) : Prop := Lib.Utf8Tabs (Tryz.laysValid_ren.g 3) (Tryz.laysValid_ren.g 4) w
theorem Tabs.next {w w' : World} (h : Tabs w) (hb : Below w.heap.size w w') : Tabs w' := Utf8Tabs_below h hb
/-- No good UTF-8. -/
def badb (s : ByteArray) : Bool := !Lib.validD s.data.toList
end
section
open Go.RowKit Go
set_option maxRecDepth 1000000 in
theorem bad6_any (s : ByteArray) (w : World) (hs : s.size ≤ 140737488351232) (hT : Tabs w) : Calls Tryz.prog 126 #[.string s] w fun e w' => e = .returned (.bool (badb s)) ∧ Below w.heap.size w w' := by
  have cV : Calls Tryz.prog 148 #[.string s] w fun e w' => e = .returned (.bool (Lib.validD s.data.toList)) ∧ Below w.heap.size w w' := Any.utf8_ValidString Tryz.laysValid s w (by omega) hT
  have HV := hide cV
  unfold badb
  clear cV hT
  generalize Lib.validD s.data.toList = V at *
  go_enter Tryz.func126, Tryz.ntmps126
  go_wp2_with fail
  refine (Hid.out HV).mono ?_
  rintro e w1 ⟨rfl, hb1⟩
  have HB1 := hide hb1
  clear hb1 HV
  go_wp2_with fail
  go_ret
  exact ⟨rfl, HB1.out⟩
set_option maxRecDepth 1000000 in
set_option maxHeartbeats 1000000 in
theorem indexFunc_any (w : World) (v : Value) (ks : List ByteArray) (hv : SSl w v ks) (hT : Tabs w) : Calls Tryz.prog 149 #[v, .func (.func 126) #[] #[]] w fun e w' => ∃ r : Int, e = .returned (.int .i64 r) ∧ decide (0 ≤ r) = ks.any badb ∧ Below w.heap.size w w' := by
  have HSZ := hide hv.size
  have HT := hide hT
  obtain ⟨⟨a, cap, rfl, _, hc⟩, hmax, _⟩ := hv
  have HC := hide hc
  clear hc hT
  go_enter Tryz.func149, Tryz.ntmps149
  go_wp2_with fail
  go_loopw [8] (fun ii wx => ∃ i : Nat, i ≤ ks.length ∧ ii = .int .i64 (i : Nat) ∧ Hid (∀ j s, j < i → ks[j]? = some s → badb s = false) ∧ Hid (Below w.heap.size w wx)) (fun ii _ => ks.length - (intOf ii).toNat)
  case atStart => exact ⟨0, by omega, rfl, fun j s hj => absurd hj (by omega), Below.refl _ _⟩
  case round =>
    obtain ⟨i, hi, rfl, HI, HBw⟩ := hrel
    by_cases hlt : i < ks.length
    · as_aux_lemma =>
      have g1 : (i : Int) < (ks.length : Int) := by omega
      obtain ⟨s, hs⟩ : ∃ s, ks[i]? = some s := ⟨ks[i], List.getElem?_eq_getElem hlt⟩
      obtain ⟨b, off, rfl, hcc⟩ := HC.out.resolve_left (fun h => by rw [h] at hlt; simp at hlt)
      have c1 := keep_below HBw.out _ _ (hcc i s hs)
      have HCA := hide (bad6_any s wr (HSZ.out s (List.mem_of_getElem? hs)) (HT.out.next HBw.out))
      have HS1 := hide hs
      clear hcc hs HC
      go_wp2_with fail
      refine HCA.out.mono ?_
      rintro e w1 ⟨rfl, hb1⟩
      have HB1 : Hid (Below w.heap.size w w1) := HBw.out.trans (hb1.mono HBw.out.size)
      clear hb1 HCA c1
      rcases Bool.eq_false_or_eq_true (badb s) with hr | hr
      · have HA : Hid (ks.any badb = true) := List.any_eq_true.2 ⟨s, List.mem_of_getElem? HS1.out, hr⟩
        rw [hr]
        go_wp2_with fail
        go_ret
        exact ⟨_, rfl, by rw [HA.out, decide_eq_true (by omega)], HB1.out⟩
      · have HI2 : Hid (∀ j s, j < i + 1 → ks[j]? = some s → badb s = false) := fun j s' hj h1 => by
          by_cases hji : j = i
          · subst hji
            rw [HS1.out] at h1
            injection h1 with h1
            rw [← h1]
            exact hr
          · exact HI.out j s' (by omega) h1
        rw [hr]
        clear hr HS1 HI
        go_wp2_with fail
        go_roundw
        case rel => exact ⟨i + 1, by omega, by go_num, HI2, HB1⟩
        case measure => simp [intOf]; omega
    · as_aux_lemma =>
      have g1 : ¬ (i : Int) < (ks.length : Int) := by omega
      have HA : Hid (ks.any badb = false) := by
        show _ = _
        rw [List.any_eq_false]
        intro s hs
        obtain ⟨j, hj, e⟩ := List.getElem_of_mem hs
        have h := HI.out j s (by omega) (by rw [List.getElem?_eq_getElem hj, e])
        rw [h]
        simp
      go_wp2_with fail
      go_ret
      exact ⟨_, rfl, by rw [HA.out]; rfl, HBw.out⟩
set_option maxRecDepth 1000000 in
theorem containsFunc_any (w : World) (v : Value) (ks : List ByteArray) (hv : SSl w v ks) (hT : Tabs w) : Calls Tryz.prog 127 #[v, .func (.func 126) #[] #[]] w fun e w' => e = .returned (.bool (ks.any badb)) ∧ Below w.heap.size w w' := by
  have HX := hide (indexFunc_any w v ks hv hT)
  obtain ⟨⟨a, cap, rfl, _, hc⟩, hmax, _⟩ := hv
  clear hc hT
  go_enter Tryz.func127, Tryz.ntmps127
  go_wp2_with fail
  refine HX.out.mono ?_
  rintro e w1 ⟨r, rfl, hr, hb1⟩
  have HR := hide hr
  have HB1 := hide hb1
  clear hr hb1 HX
  go_wp2_with fail
  go_ret
  exact ⟨by rw [← HR.out]; rfl, HB1.out⟩
end
section
open Go.RowKit Go
theorem qstep_valAt {C : World → Prop} {ops : Array Oper} {o : Oper} {a : Act} {K : Act → Prop} {p : Operand} (hgd : Region.wanted o (yielded ops a.tmps) = true) (ho : o.op = .load 55 p) (g off : Nat) (cs : Array Value) (hn : cs.size = 13)
    (hp : a.eval p = .pointer (some ⟨g, off, none⟩)) (hc : ∀ w, C w → ∀ j u, cs[j]? = some u → w.cell? ⟨g, off + j, none⟩ = some u)
    (h : K (a.put o.dst (.agg cs))) : if Region.wanted o (yielded ops a.tmps) = true then o.quiet Tryz.prog a C K else K (a.put o.dst undef) := by
  rw [if_pos hgd]
  refine ⟨.agg cs, fun w hC => ?_, h⟩
  unfold Oper.quietAt execOp
  simp only [ho, Sem.run_bind, hp, load_val g off cs hn (hc w hC), Result.andThen_ok]
  exact ⟨rfl, rfl⟩
theorem eqlk_selfV (w : World) (a : Lk) : (Op.equalIn 10000 53 (.agg (lcs a)) (.agg (lcs a))).run Tryz.prog w = .ok true w := by
  have u3 := Tryz.underlying3
  have u9 := Tryz.underlying9
  have u33 := Tryz.underlying50
  have a3 := Tryz.isAgg3
  have a9 := Tryz.isAgg9
  have a33 := Tryz.isAgg50
  have z3 := Tryz.sizeOf3
  have z9 := Tryz.sizeOf9
  have z33 := Tryz.sizeOf50
  have hS : Tryz.prog.underlying 53 = some (.struct (Tryz.prog.fieldsOf 53)) := by kernel_rfl
  have hp : Tryz.prog.stoodInHeld 53 = false := by kernel_rfl
  unfold lcs
  rw [show (10000 : Nat) = 9999 + 1 from rfl, run_equalIn_agg w 9999 53 _ _ hS hp]
  simp only [Program.fieldsOf, Tryz.underlying53]
  go_simp
theorem intactV {w : World} {base g cap : Nat} {xs : List Nat} (h : Lnt w base g cap xs) (vb : Value) (hb : BSl w vb xs) :
    Calls Tryz.prog 30 #[.slice (some ⟨g, 0, none⟩) xs.length cap, vb] w fun e w' => e = .returned (.bool true) ∧ Below w.heap.size w w' :=
  (intact_any h vb hb).mono fun _ _ ⟨he, hk⟩ => ⟨he, hk.below (Nat.le_refl _) (fun _ h => h.elim)⟩
/-- Two values' blocks. -/
structure Bw (w wx : World) (c0 c1 : Array Value) : Prop where
  a : wx.heap[w.heap.size]? = some (.cells c0 55 (0, 0))
  c : wx.heap[w.heap.size + 1]? = some (.cells c1 55 (0, 0))
  b : Below w.heap.size w wx
theorem Bw.start (w : World) (c0 c1 : Array Value) : Bw w ((w.alloc (.cells c0 55)).alloc (.cells c1 55)) c0 c1 := by
  have h1 := heap_alloc_new w (.cells c0 55)
  have e1 : (w.alloc (.cells c0 55)).heap.size = w.heap.size + 1 := by simp
  have h2 := heap_alloc_new (w.alloc (.cells c0 55)) (.cells c1 55)
  rw [e1] at h2
  have b1 := below_alloc4 w (.cells c0 55)
  have b2 := below_alloc4 (w.alloc (.cells c0 55)) (.cells c1 55)
  exact ⟨blk_alloc _ h1, h2, b1.trans (b2.mono b1.size)⟩
theorem Bw.next {w wx wy : World} {c0 c1 : Array Value} (h : Bw w wx c0 c1) (hb : Below wx.heap.size wx wy) : Bw w wy c0 c1 :=
  ⟨(hb.block _ (blk_lt h.a)).trans h.a, (hb.block _ (blk_lt h.c)).trans h.c, h.b.trans (hb.mono h.b.size)⟩
theorem lk_in {w : World} {g : Nat} {t : Tv} {vy vk vi : Value} (h : w.heap[g]? = some (.cells (vcs t vy vk vi) 55 (0, 0))) {j : Nat} {u : Value} (hu : (lcs t.l)[j]? = some u) : w.cell? ⟨g, 7 + j, none⟩ = some u := by
  refine blk_cell h ?_
  match j, hu with
  | 0, hu => exact hu
  | 1, hu => exact hu
  | 2, hu => exact hu
  | 3, hu => exact hu
  | j + 4, hu => simp [lcs] at hu
def BacksV (N : Nat) : Prop := ∀ t : Tv, SizeOf.sizeOf t < N → ∀ (w : World) (lo hi : Nat) (c cs : Array Value), Ltv w lo hi t c → Tin w t cs → Calls Tryz.prog 12 #[.agg c, .agg cs] w fun e w' => e = .returned (.bool true) ∧ Below w.heap.size w w'
theorem Tin.size {w : World} {t : Tv} {c : Array Value} (h : Tin w t c) : c.size = 13 := by
  obtain ⟨_, _, _, e, _⟩ := h.parts
  rw [e]
  rfl
set_option maxRecDepth 1000000 in
set_option maxHeartbeats 1000000 in
theorem backValues_any (N : Nat) (ih : BacksV N) (is : List Tv) (hN : ∀ u ∈ is, SizeOf.sizeOf u < N) (w : World) (lo hh gi ci : Nat) (L : List (Array Value)) (v : Value)
    (ho : w.ownsRow lo 55 13 (.slice (some ⟨gi, 0, none⟩) (is.length + 9) ci) (is.length + 9) (vfl (L ++ List.replicate 9 mv))) (hil : is.length ≤ 100000) (hL : L.length = is.length) (h13 : ∀ c ∈ L, c.size = 13) (hcs : ∀ (i : Nat) (u : Tv) (c : Array Value), is[i]? = some u → L[i]? = some c → Ltv w lo hh u c) (hsl : VSl w v is) :
    Calls Tryz.prog 32 #[.slice (some ⟨gi, 0, none⟩) is.length ci, v] w fun e w' => e = .returned (.bool true) ∧ Below w.heap.size w w' := by
  have HIH := hide ih
  have HNN := hide hN
  have HCS := hide hcs
  have HLe := hide hL
  have H13 := hide h13
  have HCE : Hid (∀ k c, (L ++ List.replicate 9 mv)[k]? = some c → ∀ j u, c[j]? = some u → w.cell? ⟨gi, k * 13 + j, none⟩ = some u) := fun k c hk => own_val ho (all13 h13 9) hk
  have hcap : is.length + 9 ≤ ci := by
    rcases ho.2 with ⟨e, _⟩ | ⟨g', cap', cur, e, _, _, h1, _⟩
    · cases e
    · injection e with _ _ e
      subst e
      exact h1
  have hcap2 : (is.length : Int) + 9 ≤ (ci : Int) := by omega
  obtain ⟨⟨a, cap, rfl, _, hf⟩, _⟩ := hsl
  have HF := hide hf
  clear ih hN hcs hL h13 ho hcap hf
  go_enter Tryz.func32, Tryz.ntmps32
  go_wp2_with fail
  go_loopw [5] (fun ii wx => ∃ i : Nat, i ≤ is.length ∧ ii = .int .i64 (i : Nat) ∧ Hid (Below w.heap.size w wx)) (fun ii _ => is.length - (intOf ii).toNat)
  case atStart => exact ⟨0, by omega, rfl, Below.refl _ _⟩
  case round =>
    obtain ⟨i, hi, rfl, HBw⟩ := hrel
    by_cases hlt : i < is.length
    · as_aux_lemma =>
      have g1 : (i : Int) < (is.length : Int) := by omega
      obtain ⟨u, hu⟩ : ∃ u, is[i]? = some u := ⟨is[i], List.getElem?_eq_getElem hlt⟩
      obtain ⟨b, off, rfl, hcells⟩ := HF.out.resolve_left (fun h => by rw [h] at hlt; simp at hlt)
      obtain ⟨cu, hcu, hcc⟩ := hcells i u hu
      obtain ⟨c, hc⟩ : ∃ c, L[i]? = some c := ⟨L[i]'(by rw [HLe.out]; exact hlt), List.getElem?_eq_getElem (by rw [HLe.out]; exact hlt)⟩
      have HLc := hide (HCS.out i u c hu hc)
      have HSc := hide HLc.out.size
      have HSu := hide hcu.size
      have HQ1 : Hid (∀ wx, (∃ t : Ext wr, wx = t.w') → ∀ j x, c[j]? = some x → wx.cell? ⟨gi, i * 13 + j, none⟩ = some x) := by
        rintro _ ⟨t, rfl⟩ j x hx
        exact keep_below t.h _ _ (keep_below HBw.out _ _ (HCE.out i c (by rw [List.getElem?_append_left (List.getElem?_eq_some_iff.1 hc).1]; exact hc) j x hx))
      have HQ2 : Hid (∀ wx, (∃ t : Ext wr, wx = t.w') → ∀ j x, cu[j]? = some x → wx.cell? ⟨b, off + i * 13 + j, none⟩ = some x) := by
        rintro _ ⟨t, rfl⟩ j x hx
        exact keep_below t.h _ _ (keep_below HBw.out _ _ (hcc j x hx))
      have HC1 : Hid (∀ t : Ext wr, Calls Tryz.prog 12 #[.agg c, .agg cu] t.w' fun e w'' => e = .returned (.bool true) ∧ ∃ t' : Ext wr, w'' = t'.w') := fun t => Calls.ext_below (HIH.out u (HNN.out u (List.mem_of_getElem? hu)) t.w' lo hh c cu ((HLc.out.kept HBw.out).kept t.h) ((hcu.move (keep_below HBw.out)).move (keep_below t.h)))
      clear hu hcells hcu hcc hc
      go_wp2_with fail
      refine region_ext (by kernel_rfl) (by kernel_rfl) ?_
      repeat (
        refine wpQuiet_step (fun K hK => ?_)
        first
          | (refine qstep_valAt rfl rfl gi (i * 13) c HSc.out rfl HQ1.out (hK _ ?_); clear hK K)
          | (refine qstep_valAt rfl rfl b (off + i * 13) cu HSu.out rfl HQ2.out (hK _ ?_); clear hK K)
          | (go_simp
             first
               | (refine hK _ ?_; clear hK K)
               | (apply Exists.intro
                  refine ⟨fun _ => ?_, hK _ ?_⟩
                  (go_at_call 12; exact HC1.out _)
                  clear hK K)))
      refine wpQuiet_nil ?_
      rintro _ ⟨tq, rfl⟩
      have HB2 : Hid (Below w.heap.size w tq.w') := HBw.out.trans (tq.h.mono HBw.out.size)
      go_wp2_with fail
      go_roundw
      case rel => exact ⟨i + 1, by omega, by go_num, HB2⟩
      case measure => simp [intOf]; omega
    · have g1 : ¬ (i : Int) < (is.length : Int) := by omega
      go_wp2_with fail
      go_loopw [7] (fun ii wx => ∃ j : Nat, j ≤ 9 ∧ ii = .int .i64 ((is.length + j : Nat) : Int) ∧ Hid (Below w.heap.size w wx)) (fun ii _ => is.length + 9 - (intOf ii).toNat)
      case atStart => exact ⟨0, by omega, by simp, HBw⟩
      case round => as_aux_lemma =>
        rename World => wz
        obtain ⟨j, hj, rfl, HBz⟩ := hrel
        clear HBw
        by_cases hlt2 : j < 9
        · have g2 : ((is.length + j : Nat) : Int) < (is.length : Int) + 9 := by omega
          have HMk : Hid (∀ k x, mv[k]? = some x → wz.cell? ⟨gi, (is.length + j) * 13 + k, none⟩ = some x) := fun k x hx => keep_below HBz.out _ _ (HCE.out (is.length + j) mv (by rw [List.getElem?_append_right (by rw [HLe.out]; omega), HLe.out, Nat.add_sub_cancel_left, List.getElem?_replicate_of_lt hlt2]) k x hx)
          have c0 : wz.cell? ⟨gi, (is.length + j) * 13, none⟩ = some (.int .i64 777) := HMk.out 0 _ rfl
          have g2b : (j : Int) < 9 := by omega
          have c12 : wz.cell? ⟨gi, (is.length + j) * 13 + 12, none⟩ = some (.slice none 0 0) := HMk.out 12 _ rfl
          have c6 : wz.cell? ⟨gi, (is.length + j) * 13 + 6, none⟩ = some (.slice none 0 0) := HMk.out 6 _ rfl
          have c3 : wz.cell? ⟨gi, (is.length + j) * 13 + 3, none⟩ = some (.int .u64 0) := HMk.out 3 _ rfl
          have hm : is.length + j ≤ 100009 := by omega
          have g2' : is.length + j < is.length + 9 := by omega
          have hkj : ((is.length + j : Nat) : Int) + 1 = ((is.length + (j + 1) : Nat) : Int) := by omega
          have HME : Hid (is.length + 9 - (is.length + (j + 1)) < is.length + 9 - (is.length + j)) := by show _ < _; omega
          go_wp2_with fail
          go_roundw
          case rel => exact ⟨j + 1, by omega, by go_num, HBz⟩
          case measure => simp [intOf]; omega
        · have g2 : ¬ ((is.length + j : Nat) : Int) < (is.length : Int) + 9 := by omega
          go_wp2_with fail
          go_ret
          exact ⟨rfl, HBz.out⟩
set_option maxRecDepth 1000000 in
set_option maxHeartbeats 1000000 in
theorem backValue_step (N : Nat) (ih : BacksV N) (t : Tv) (hN : SizeOf.sizeOf t = N) (w : World) (lo hh : Nat) (c cs : Array Value) (hl : Ltv w lo hh t c) (ht : Tin w t cs) : Calls Tryz.prog 12 #[.agg c, .agg cs] w fun e w' => e = .returned (.bool true) ∧ Below w.heap.size w w' := by
  have HIH := hide ih
  have HNN : Hid (∀ u ∈ t.is, SizeOf.sizeOf u < N) := fun u hu => by rw [← hN]; exact Tv.is_lt hu
  clear ih hN
  obtain ⟨vy, vk, vi, rfl, hy, hk, hv, hb⟩ := ht.parts
  have HY := hide hy
  have HK := hide hk
  have HV := hide hv
  obtain ⟨⟨ay, cy, rfl, _, _⟩, _, _⟩ := hy
  obtain ⟨⟨ak, ck, rfl, _, _⟩, _, _⟩ := hk
  obtain ⟨⟨ai, ci, rfl, _, _⟩, _⟩ := hv
  have HL := hide hl
  clear ht hb
  cases hl with
  | mk _ gy cy2 gk ck2 gi ci2 L hbd hly hgy hlk hgk hkl hks hlv hgi hil hLn h13 hcs =>
  have HLY := hide hly
  have HLK : Hid (Lts w lo (.slice (some ⟨gk, 0, none⟩) t.ks.length ck2) t.ks) := ⟨⟨gk, ck2, rfl, hlk⟩, hkl, hks⟩
  have HLV : Hid (∀ wx, Below w.heap.size w wx → Calls Tryz.prog 32 #[.slice (some ⟨gi, 0, none⟩) t.is.length ci2, .slice ai t.is.length ci] wx fun e w' => e = .returned (.bool true) ∧ Below wx.heap.size wx w') := fun wx hbx => backValues_any N HIH.out t.is HNN.out wx lo hh gi ci2 L _ ((Kp.of_below (S := fun _ => False) hbx).owns hlv (fun _ _ h => h)) hil hLn h13 (fun i u c e1 e2 => (hcs i u c e1 e2).kept hbx) (HV.out.move (keep_below hbx))
  clear hbd hly hgy hlk hgk hkl hks hlv hgi hil hLn h13 hcs HL
  unfold vcs
  have HW0 : Hid (Bw w ((w.alloc (.cells #[.int .i64 t.k, .bool t.f, .bool t.g, .int .u64 (t.n : Nat), .int .u64 (t.b : Nat), .string t.s, .slice (some ⟨gy, 0, none⟩) t.y.length cy2, .int .i64 t.l.v, .int .u64 (t.l.c : Nat), .int .u64 (t.l.h : Nat), .string (nstr t.l.d), .slice (some ⟨gk, 0, none⟩) t.ks.length ck2, .slice (some ⟨gi, 0, none⟩) t.is.length ci2] 55)).alloc (.cells #[.int .i64 t.k, .bool t.f, .bool t.g, .int .u64 (t.n : Nat), .int .u64 (t.b : Nat), .string t.s, .slice ay t.y.length cy, .int .i64 t.l.v, .int .u64 (t.l.c : Nat), .int .u64 (t.l.h : Nat), .string (nstr t.l.d), .slice ak t.ks.length ck, .slice ai t.is.length ci] 55)) (vcs t (.slice (some ⟨gy, 0, none⟩) t.y.length cy2) (.slice (some ⟨gk, 0, none⟩) t.ks.length ck2) (.slice (some ⟨gi, 0, none⟩) t.is.length ci2)) (vcs t (.slice ay t.y.length cy) (.slice ak t.ks.length ck) (.slice ai t.is.length ci))) := Bw.start w _ _
  have HEQ := hide (fun wx => eqlk_selfV wx t.l)
  have HA := hide (fun j u (h : (lcs t.l)[j]? = some u) => lk_in HW0.out.a h)
  have HBb := hide (fun j u (h : (lcs t.l)[j]? = some u) => lk_in HW0.out.c h)
  go_enter Tryz.func12, Tryz.ntmps12
  go_wp2_with (first
    | (refine wpList_lkAt rfl rfl w.heap.size 7 t.l rfl HA.out ?_)
    | (refine wpList_lkAt rfl rfl (w.heap.size + 1) 7 t.l rfl HBb.out ?_)
    | (refine wpList_eqlk rfl rfl _ _ true rfl rfl (HEQ.out _) ?_))
  generalize (w.alloc (.cells #[.int .i64 t.k, .bool t.f, .bool t.g, .int .u64 (t.n : Nat), .int .u64 (t.b : Nat), .string t.s, .slice (some ⟨gy, 0, none⟩) t.y.length cy2, .int .i64 t.l.v, .int .u64 (t.l.c : Nat), .int .u64 (t.l.h : Nat), .string (nstr t.l.d), .slice (some ⟨gk, 0, none⟩) t.ks.length ck2, .slice (some ⟨gi, 0, none⟩) t.is.length ci2] 55)).alloc (.cells #[.int .i64 t.k, .bool t.f, .bool t.g, .int .u64 (t.n : Nat), .int .u64 (t.b : Nat), .string t.s, .slice ay t.y.length cy, .int .i64 t.l.v, .int .u64 (t.l.c : Nat), .int .u64 (t.l.h : Nat), .string (nstr t.l.d), .slice ak t.ks.length ck, .slice ai t.is.length ci] 55) = w2 at *
  refine (intactV (HLY.out.kp (Kp.of_below (S := fun _ => False) HW0.out.b) (fun h => h)) _ (HY.out.move (keep_below HW0.out.b))).mono ?_
  rintro e w3 ⟨rfl, hb3⟩
  have HW3 := hide (HW0.out.next hb3)
  clear hb3 HW0
  have a11 := blk_cell (j := 11) HW3.out.a rfl
  have b11 := blk_cell (j := 11) HW3.out.c rfl
  go_wp2_with fail
  refine (backTexts_any (HLK.out.below HW3.out.b) _ (HK.out.move (keep_below HW3.out.b))).mono ?_
  rintro e w4 ⟨rfl, hb4⟩
  have HW4 := hide (HW3.out.next hb4)
  clear hb4 HW3 a11 b11
  have a12 := blk_cell (j := 12) HW4.out.a rfl
  have b12 := blk_cell (j := 12) HW4.out.c rfl
  go_wp2_with fail
  refine (HLV.out w4 HW4.out.b).mono ?_
  rintro e w5 ⟨rfl, hb5⟩
  have HB5 : Hid (Below w.heap.size w w5) := HW4.out.b.trans (hb5.mono HW4.out.b.size)
  clear hb5 a12 b12
  go_wp2_with fail
  go_ret
  exact ⟨rfl, HB5.out⟩
theorem backValue_any (t : Tv) (w : World) (lo hh : Nat) (c cs : Array Value) (hl : Ltv w lo hh t c) (ht : Tin w t cs) : Calls Tryz.prog 12 #[.agg c, .agg cs] w fun e w' => e = .returned (.bool true) ∧ Below w.heap.size w w' := by
  have h : ∀ N, BacksV N := by
    intro N
    induction N with
    | zero => exact fun t h => absurd h (by omega)
    | succ N ih =>
      intro t htN w lo hh c cs hl ht
      exact backValue_step (SizeOf.sizeOf t) (fun u hu => ih u (by omega)) t rfl w lo hh c cs hl ht
  exact h _ t (Nat.lt_succ_self _) w lo hh c cs hl ht
end
section
open Go.RowKit Go

end
section
open Go.RowKit Go
theorem nstr_eq {xs : List Nat} {S : ByteArray} (h : ∀ x ∈ xs, x < 256) : ((nstr xs).toList == S.toList) = decide (xs = sl S) := by
  by_cases e : xs = sl S
  · rw [e, nstr_sl]
    simp
  · rw [decide_eq_false e]
    refine beq_eq_false_iff_ne.2 fun h2 => e (nstr_inj h (sl_byte S) ?_)
    rw [nstr_sl]
    exact h2
end
section
open Go.RowKit Go
theorem str_bne (s t : ByteArray) : (s.toList != t.toList) = !decide (s = t) := by
  have h := nstr_eq (S := t) (sl_byte s)
  rw [nstr_sl] at h
  unfold bne
  rw [h]
  congr 1
  by_cases e : s = t
  · rw [e]; simp
  · have e2 : sl s ≠ sl t := fun h2 => e (by rw [← nstr_sl s, h2, nstr_sl])
    simp [e, e2]
set_option maxRecDepth 1000000 in
set_option maxHeartbeats 400000 in
theorem eqStrings_any {w : World} {v u : Value} {ks ls : List ByteArray} (hv : SSl w v ks) (hu : SSl w u ls) :
    Calls Tryz.prog 38 #[v, u] w fun e w' => e = .returned (.bool (decide (ks = ls))) ∧ Below w.heap.size w w' := by
  generalize hR : decide (ks = ls) = R
  have HR := hide hR
  clear hR
  obtain ⟨⟨av, cv, rfl, _, hf⟩, hkm, _⟩ := hv
  obtain ⟨⟨au, cu, rfl, _, hg⟩, hlm, _⟩ := hu
  have HF := hide hf
  have HG := hide hg
  clear hf hg
  by_cases hl : ks.length = ls.length
  · have g0 : ((ks.length : Int) != (ls.length : Int)) = false := by rw [nat_ne]; simp [hl]
    have HL := hide hl
    clear hl
    go_enter Tryz.func38, Tryz.ntmps38
    go_wp2_with fail
    go_loopw [5] (fun ii wx => ∃ i : Nat, i ≤ ks.length ∧ ii = .int .i64 (i : Nat) ∧ Hid (∀ j, j < i → ks[j]? = ls[j]?) ∧ Hid (Below w.heap.size w wx)) (fun ii _ => ks.length - (intOf ii).toNat)
    case atStart => exact ⟨0, by omega, rfl, fun j hj => absurd hj (by omega), Below.refl _ _⟩
    case round =>
      obtain ⟨i, hi, rfl, HI, HBw⟩ := hrel
      by_cases hlt : i < ks.length
      · have g1 : (i : Int) < (ks.length : Int) := by omega
        have hlt2 : i < ls.length := by rw [← HL.out]; exact hlt
        have g2 : (i : Int) < (ls.length : Int) := by omega
        obtain ⟨s, hs⟩ : ∃ s, ks[i]? = some s := ⟨ks[i], List.getElem?_eq_getElem hlt⟩
        obtain ⟨t, ht⟩ : ∃ s, ls[i]? = some s := ⟨ls[i], List.getElem?_eq_getElem hlt2⟩
        obtain ⟨b, off, rfl, hcc⟩ := HF.out.resolve_left (fun h => by rw [h] at hlt; simp at hlt)
        obtain ⟨b2, off2, rfl, hcd⟩ := HG.out.resolve_left (fun h => by rw [h] at hlt2; simp at hlt2)
        have c1 := keep_below HBw.out _ _ (hcc i s hs)
        have c2 := keep_below HBw.out _ _ (hcd i t ht)
        clear hcc hcd HF HG
        by_cases he : s = t
        · as_aux_lemma =>
          have hne : (s.toList == t.toList) = true := by rw [he]; simp
          have HI2 : Hid (∀ j, j < i + 1 → ks[j]? = ls[j]?) := fun j hj => by
            by_cases hji : j = i
            · rw [hji, hs, ht, he]
            · exact HI.out j (by omega)
          clear he hs ht HI
          go_wp2_with fail
          go_region
          go_wp2_with fail
          have HB2 : Hid (Below w.heap.size w wr.drew) := HBw.out.drew
          go_roundw
          case rel => exact ⟨i + 1, by omega, by go_num, HI2, HB2⟩
          case measure => simp [intOf]; omega
        · as_aux_lemma =>
          have hne : (s.toList == t.toList) = false := by have h := str_bne s t; simp [he] at h; exact beq_eq_false_iff_ne.2 h
          have HN : Hid (ks ≠ ls) := fun h => by
            rw [h, ht] at hs
            exact he (Option.some.inj hs).symm
          clear he hs ht HI
          go_wp2_with fail
          go_region
          go_wp2_with fail
          go_ret
          exact ⟨by rw [← HR.out, decide_eq_false HN.out]; rfl, HBw.out.drew⟩
      · as_aux_lemma =>
        have g1 : ¬ (i : Int) < (ks.length : Int) := by omega
        have HN : Hid (ks = ls) := List.ext_getElem? fun j => by
          by_cases hj : j < i
          · exact HI.out j hj
          · rw [List.getElem?_eq_none (by omega), List.getElem?_eq_none (by rw [← HL.out]; omega)]
        go_wp2_with fail
        go_ret
        exact ⟨by rw [← HR.out, decide_eq_true HN.out]; rfl, HBw.out⟩
  · as_aux_lemma =>
    have g0 : ((ks.length : Int) != (ls.length : Int)) = true := by rw [nat_ne]; simp [hl]
    have HN : Hid (ks ≠ ls) := fun h => hl (by rw [h])
    clear hl HF HG
    go_enter Tryz.func38, Tryz.ntmps38
    go_wp2_with fail
    go_ret
    exact ⟨by rw [← HR.out, decide_eq_false HN.out]; rfl, Below.refl _ _⟩
end
section
open Go.RowKit Go
theorem r_yes {R : Bool} {p : Prop} (h : R = true ↔ p) (hp : p) : R = true := h.2 hp
theorem r_no {R : Bool} {p : Prop} (h : R = true ↔ p) (hp : ¬ p) : R = false := by
  cases R with
  | false => rfl
  | true => exact absurd (h.1 rfl) hp
def EqsV (N : Nat) : Prop := ∀ t : Tv, SizeOf.sizeOf t < N → ∀ (u : Tv) (r : Bool), (r = true ↔ t = u) → ∀ (w : World) (c cs : Array Value), Tin w t c → Tin w u cs → Calls Tryz.prog 22 #[.agg c, .agg cs] w fun e w' => e = .returned (.bool r) ∧ Below w.heap.size w w'
set_option maxRecDepth 1000000 in
set_option maxHeartbeats 1000000 in
theorem eqValues_any (N : Nat) (ih : EqsV N) (is ls : List Tv) (hN : ∀ u ∈ is, SizeOf.sizeOf u < N) (w : World) (v v2 : Value) (R : Bool) (hR : R = true ↔ is = ls) (hv : VSl w v is) (hv2 : VSl w v2 ls) :
    Calls Tryz.prog 50 #[v, v2] w fun e w' => e = .returned (.bool R) ∧ Below w.heap.size w w' := by
  have HR := hide hR
  clear hR
  have HIH := hide ih
  have HNN := hide hN
  obtain ⟨⟨a, ca, rfl, _, hf⟩, hm1⟩ := hv
  obtain ⟨⟨a2, ca2, rfl, _, hg⟩, hm2⟩ := hv2
  have HF := hide hf
  have HG := hide hg
  clear ih hN hf hg
  by_cases hl : is.length = ls.length
  · have g0 : ((is.length : Int) != (ls.length : Int)) = false := by rw [nat_ne]; simp [hl]
    have HL := hide hl
    clear hl
    go_enter Tryz.func50, Tryz.ntmps50
    go_wp2_with fail
    go_loopw [5] (fun ii wx => ∃ i : Nat, i ≤ is.length ∧ ii = .int .i64 (i : Nat) ∧ Hid (∀ j, j < i → is[j]? = ls[j]?) ∧ Hid (Below w.heap.size w wx)) (fun ii _ => is.length - (intOf ii).toNat)
    case atStart => exact ⟨0, by omega, rfl, fun j hj => absurd hj (by omega), Below.refl _ _⟩
    case round =>
      obtain ⟨i, hi, rfl, HI, HBw⟩ := hrel
      by_cases hlt : i < is.length
      · have g1 : (i : Int) < (is.length : Int) := by omega
        have hlt2 : i < ls.length := by rw [← HL.out]; exact hlt
        have g2 : (i : Int) < (ls.length : Int) := by omega
        obtain ⟨u, hu⟩ : ∃ u, is[i]? = some u := ⟨is[i], List.getElem?_eq_getElem hlt⟩
        obtain ⟨u2, hu2⟩ : ∃ u, ls[i]? = some u := ⟨ls[i], List.getElem?_eq_getElem hlt2⟩
        obtain ⟨b, off, rfl, hcells⟩ := HF.out.resolve_left (fun h => by rw [h] at hlt; simp at hlt)
        obtain ⟨b2, off2, rfl, hcells2⟩ := HG.out.resolve_left (fun h => by rw [h] at hlt2; simp at hlt2)
        obtain ⟨c, hc, hcc⟩ := hcells i u hu
        obtain ⟨c2, hc2, hcc2⟩ := hcells2 i u2 hu2
        have HSc := hide hc.size
        have HSu := hide hc2.size
        have HQ1 : Hid (∀ wx, (∃ t : Ext wr, wx = t.w') → ∀ j x, c[j]? = some x → wx.cell? ⟨b, off + i * 13 + j, none⟩ = some x) := by
          rintro _ ⟨t, rfl⟩ j x hx
          exact keep_below t.h _ _ (keep_below HBw.out _ _ (hcc j x hx))
        have HQ2 : Hid (∀ wx, (∃ t : Ext wr, wx = t.w') → ∀ j x, c2[j]? = some x → wx.cell? ⟨b2, off2 + i * 13 + j, none⟩ = some x) := by
          rintro _ ⟨t, rfl⟩ j x hx
          exact keep_below t.h _ _ (keep_below HBw.out _ _ (hcc2 j x hx))
        have HC0 : Hid (∀ r : Bool, (r = true ↔ u = u2) → ∀ t : Ext wr, Calls Tryz.prog 22 #[.agg c, .agg c2] t.w' fun e w'' => e = .returned (.bool r) ∧ ∃ t' : Ext wr, w'' = t'.w') := fun r hr t => Calls.ext_below (HIH.out u (HNN.out u (List.mem_of_getElem? hu)) u2 r hr t.w' c c2 ((hc.move (keep_below HBw.out)).move (keep_below t.h)) ((hc2.move (keep_below HBw.out)).move (keep_below t.h)))
        clear hcells hc hcc hcells2 hc2 hcc2 HF HG
        by_cases he : u = u2
        · as_aux_lemma =>
          have HC1 : Hid (∀ t : Ext wr, Calls Tryz.prog 22 #[.agg c, .agg c2] t.w' fun e w'' => e = .returned (.bool true) ∧ ∃ t' : Ext wr, w'' = t'.w') := HC0.out true (by simp [he])
          have HI2 : Hid (∀ j, j < i + 1 → is[j]? = ls[j]?) := fun j hj => by
            by_cases hji : j = i
            · rw [hji, hu, hu2, he]
            · exact HI.out j (by omega)
          clear he hu hu2 HI HC0
          go_wp2_with fail
          refine region_ext (by kernel_rfl) (by kernel_rfl) ?_
          repeat (
            refine wpQuiet_step (fun K hK => ?_)
            first
              | (refine qstep_valAt rfl rfl b (off + i * 13) c HSc.out rfl HQ1.out (hK _ ?_); clear hK K)
              | (refine qstep_valAt rfl rfl b2 (off2 + i * 13) c2 HSu.out rfl HQ2.out (hK _ ?_); clear hK K)
              | (go_simp
                 first
                   | (refine hK _ ?_; clear hK K)
                   | (apply Exists.intro
                      refine ⟨fun _ => ?_, hK _ ?_⟩
                      (go_at_call 22; exact HC1.out _)
                      clear hK K)))
          refine wpQuiet_nil ?_
          rintro _ ⟨tq, rfl⟩
          have HB2 : Hid (Below w.heap.size w tq.w') := HBw.out.trans (tq.h.mono HBw.out.size)
          go_wp2_with fail
          go_roundw
          case rel => exact ⟨i + 1, by omega, by go_num, HI2, HB2⟩
          case measure => simp [intOf]; omega
        · as_aux_lemma =>
          have HC1 : Hid (∀ t : Ext wr, Calls Tryz.prog 22 #[.agg c, .agg c2] t.w' fun e w'' => e = .returned (.bool false) ∧ ∃ t' : Ext wr, w'' = t'.w') := HC0.out false (by simp [he])
          have HN : Hid (is ≠ ls) := fun h => by
            rw [h, hu2] at hu
            exact he (Option.some.inj hu).symm
          clear he hu hu2 HI HC0
          go_wp2_with fail
          refine region_ext (by kernel_rfl) (by kernel_rfl) ?_
          repeat (
            refine wpQuiet_step (fun K hK => ?_)
            first
              | (refine qstep_valAt rfl rfl b (off + i * 13) c HSc.out rfl HQ1.out (hK _ ?_); clear hK K)
              | (refine qstep_valAt rfl rfl b2 (off2 + i * 13) c2 HSu.out rfl HQ2.out (hK _ ?_); clear hK K)
              | (go_simp
                 first
                   | (refine hK _ ?_; clear hK K)
                   | (apply Exists.intro
                      refine ⟨fun _ => ?_, hK _ ?_⟩
                      (go_at_call 22; exact HC1.out _)
                      clear hK K)))
          refine wpQuiet_nil ?_
          rintro _ ⟨tq, rfl⟩
          have HB2 : Hid (Below w.heap.size w tq.w') := HBw.out.trans (tq.h.mono HBw.out.size)
          go_wp2_with fail
          go_ret
          exact ⟨by rw [r_no HR.out HN.out]; rfl, HB2.out⟩
      · as_aux_lemma =>
        have g1 : ¬ (i : Int) < (is.length : Int) := by omega
        have HN : Hid (is = ls) := List.ext_getElem? fun j => by
          by_cases hj : j < i
          · exact HI.out j hj
          · rw [List.getElem?_eq_none (by omega), List.getElem?_eq_none (by rw [← HL.out]; omega)]
        go_wp2_with fail
        go_ret
        exact ⟨by rw [r_yes HR.out HN.out]; rfl, HBw.out⟩
  · as_aux_lemma =>
    have g0 : ((is.length : Int) != (ls.length : Int)) = true := by rw [nat_ne]; simp [hl]
    have HN : Hid (is ≠ ls) := fun h => hl (by rw [h])
    clear hl HF HG
    go_enter Tryz.func50, Tryz.ntmps50
    go_wp2_with fail
    go_ret
    exact ⟨by rw [r_no HR.out HN.out]; rfl, Below.refl _ _⟩
end
end Go.Proofs.YtgcccndbahphaaaGreatDoor
