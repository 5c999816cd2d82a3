import Derived.Test.YtjlknnpgngaooaaGreatDoorJa
import Derived.ProofKit
import Derived.OpenShut
import Derived.SizedLaws
import Derived.Deep.Matrix
import Derived.Lib.SmallJoins
import Derived.Lib.ConvBytes
import Derived.Laws.AppendOwn
import Derived.Laws.CopyRow
import Derived.Laws.ResultCell
import Derived.Deep.QuietTactic
import Derived.Laws.StructEq
import Derived.SliceStrings
import Derived.Test.YtjlknnpgngaooaaGreatDoorSlav
import Derived.Laws.Externs
import Derived.Laws.Bits64
import Derived.ScopeJumps
namespace Go.Proofs.YtjlknnpgngaooaaGreatDoor
section
open Go.RowKit Go
theorem dlay_fit (h : Nat) (d : List Nat) : dlay h d = if dfit h d.length = 0 then (h :: d.length :: d, 0) else ([], dfit h d.length) := by
  unfold dlay dfit
  by_cases h1 : h ≠ 18 ∧ h ≠ 0
  · rw [if_pos h1, if_pos h1]; rfl
  · rw [if_neg h1, if_neg h1]
    by_cases h2 : (h = 18 ∧ d.length ≠ 32) ∨ (h = 0 ∧ 64 < d.length)
    · rw [if_pos h2, if_pos h2]; rfl
    · rw [if_neg h2, if_neg h2]; rfl
theorem dfit_ok {h n : Nat} (e : dfit h n = 0) : (h = 18 ∨ h = 0) ∧ n ≤ 64 := by
  unfold dfit at e
  by_cases h1 : h ≠ 18 ∧ h ≠ 0
  · rw [if_pos h1] at e; cases e
  · rw [if_neg h1] at e
    by_cases h2 : (h = 18 ∧ n ≠ 32) ∨ (h = 0 ∧ 64 < n)
    · rw [if_pos h2] at e; cases e
    · omega
theorem dfit_lt (h n : Nat) : dfit h n < 32 := by
  unfold dfit
  split
  · decide
  · split <;> decide

set_option maxRecDepth 1000000 in
set_option maxHeartbeats 1000000 in
theorem dlay_any (w : World) (h : Nat) (v : Value) (d : List Nat) (hh : h < 18446744073709551616) (hsl : BSl w v d) :
    Calls Tryz.prog 152 #[.int .u64 (h : Nat), v] w fun e w' => ∃ v', e = .returned (.tuple #[v', .int .i64 ((dlay h d).2 : Nat)]) ∧ w'.ownsRow w.heap.size 5 1 v' (dlay h d).1.length (bv (dlay h d).1) ∧ Below w.heap.size w w' := by
  have HSL := hide hsl
  obtain ⟨⟨a, cap, rfl, hn, hc⟩, hmax, hb⟩ := hsl
  clear hn hc hb
  have HE := hide (dlay_fit h d)
  have HF := hide (dfit_lt h d.length)
  have HK := hide (dfit_ok (h := h) (n := d.length))
  generalize hB : w.heap.size = B at *
  have HB := hide hB
  clear hB
  go_enter Tryz.func152, Tryz.ntmps152
  go_wp2_with fail
  refine (fits_any w h d.length hh (by omega)).mono ?_
  rintro e w' ⟨rfl, rfl⟩
  generalize dfit h d.length = f at *
  by_cases h0 : f = 0
  · subst h0
    have hk := HK.out rfl
    rw [if_pos rfl] at HE
    go_wp2_with fail
    refine (vlay_any (h : Int) w' (by omega) (by omega)).mono ?_
    rintro e w1 ⟨v1, rfl, ho1, hb1⟩
    rw [Int.toNat_natCast, digs_small (by omega)] at ho1
    have HO1 := hide ho1
    have HB1 := hide hb1
    obtain ⟨a1, c1, hv1, _, _, _⟩ := own_form ho1
    subst hv1
    clear ho1 hb1
    go_wp2_with fail
    refine (vlay_any (d.length : Int) w1 (by omega) (by omega)).mono ?_
    rintro e w2 ⟨v2, rfl, ho2, hb2⟩
    rw [Int.toNat_natCast, digs_small (by omega)] at ho2
    have HS2 : Hid (BSl w2 v2 [d.length]) := BSl.own ho2 (by simp; omega)
    have HO2 : Hid (w2.ownsRow B 5 1 (.slice a1 [h].length c1) 1 (bv [h])) := own_mono (own_below HO1.out hb2 (rfl : 0 = 0)) (by have := HB.out; omega)
    have HB2 : Hid (Below B w' w2) := by
      rw [HB.out] at HB1
      exact HB1.out.trans (hb2.mono (by have := HB1.out.size; have := HB.out; omega))
    have hs2 : B ≤ w2.heap.size := by have := HB2.out.size; have := HB.out; omega
    obtain ⟨a2, c2, hv2, _, _, _⟩ := own_form ho2
    subst hv2
    clear ho2 hb2 HO1 HB1
    go_wp2_with (at_builtin; refine append_bsl rfl _ _ rfl B _ 1 [h] rfl HO2.out _ [d.length] rfl HS2.out ?b1 ?b2 ?_)
    case b1 => simp
    case b2 => exact hs2
    intro v3 w3 ho3 hg3
    have hlo := fun g (h : _ = some g) => (HO2.out.lt g h).1
    have HB3 : Hid (Below B w' w3) := HB2.out.grown hg3 hs2 (fun g hg => hlo g hg)
    have HO3 := hide ho3
    have HS3 : Hid (BSl w3 (.slice a d.length cap) d) := HSL.out.move (keep_below (by rw [HB.out]; exact HB3.out))
    have hs3 : B ≤ w3.heap.size := by have := HB3.out.size; have := HB.out; omega
    obtain ⟨a3, c3, hv3, _, _, _⟩ := own_form ho3
    subst hv3
    clear ho3 hg3 hlo HO2 HB2 HS2 hs2
    go_wp2_with (at_builtin; refine append_bsl rfl _ _ rfl B _ 2 [h, d.length] rfl HO3.out _ d rfl HS3.out ?b1 ?b2 ?_)
    case b1 => omega
    case b2 => exact hs3
    intro v4 w4 ho4 hg4
    have hlo := fun g (h : _ = some g) => (HO3.out.lt g h).1
    have HB4 : Hid (Below B w' w4) := HB3.out.grown hg4 hs3 (fun g hg => hlo g hg)
    have HO4 := hide ho4
    obtain ⟨a4, c4, hv4, _, _, _⟩ := own_form ho4
    subst hv4
    clear ho4 hg4 hlo HO3 HB3 HS3 hs3
    go_wp2_with fail
    go_ret2
    refine ⟨_, by rw [HE.out]; rfl, ?_, HB4.out⟩
    rw [HE.out]
    have e : (h :: d.length :: d, 0).1.length = 2 + d.length := by simp; omega
    rw [e]
    exact HO4.out
  · have g : ((f : Int) != 0) = true := bne_iff_ne.2 (by omega)
    rw [if_neg h0] at HE
    go_wp2_with fail
    go_ret2
    exact ⟨.slice none 0 0, by rw [HE.out]; rfl, by rw [HE.out]; exact World.ownsRow_nil _ _ _ _, Below.refl _ _⟩
end
section
open Go.RowKit Go
theorem dread_fit {xs : List Nat} {hn u n m : Nat} (h : dnum xs = (hn, u, 0)) (h2 : dnum (xs.drop u) = (n, m, 0)) :
    (dfit hn n ≠ 0 → dread xs = (0, [], 0, dfit hn n)) ∧ (dfit hn n = 0 → (xs.length - (u + m) < n → dread xs = (0, [], 0, 32)) ∧ (¬ xs.length - (u + m) < n → dread xs = (hn, (xs.drop (u + m)).take n, u + m + n, 0))) := by
  have K := (dread_rest h).2 n m h2
  unfold dfit
  by_cases h1 : hn ≠ 18 ∧ hn ≠ 0
  · rw [if_pos h1]
    exact ⟨fun _ => K.1 h1, fun h => by cases h⟩
  · rw [if_neg h1]
    have K2 := K.2 h1
    by_cases h3 : (hn = 18 ∧ n ≠ 32) ∨ (hn = 0 ∧ 64 < n)
    · rw [if_pos h3]
      exact ⟨fun _ => K2.1 h3, fun h => by cases h⟩
    · rw [if_neg h3]
      exact ⟨fun h => absurd rfl h, fun _ => K2.2 h3⟩
end
section
open Go.RowKit Go
/-! ### What is laid is read; what is read is laid -/
theorem dnum_small {n : Nat} (h : n < 128) (r : List Nat) : dnum (n :: r) = (n, 1, 0) := by
  have e : rd 0 0 (n :: r) = (n, 1, 0) := by
    rw [rd]
    have h1 : ¬ 128 ≤ n := by omega
    simp [h1]
    omega
  unfold dnum
  rw [e]
  rfl
theorem dread_laid {h : Nat} {d ms : List Nat} (hk : (h = 18 ∧ d.length = 32) ∨ (h = 0 ∧ d.length ≤ 64)) : dread (h :: d.length :: d ++ ms) = (h, d, 2 + d.length, 0) := by
  have e1 : dnum (h :: d.length :: d ++ ms) = (h, 1, 0) := dnum_small (by omega) _
  have e2 : dnum ((h :: d.length :: d ++ ms).drop 1) = (d.length, 1, 0) := dnum_small (by omega) _
  have f : dfit h d.length = 0 := by
    unfold dfit
    rw [if_neg (by omega), if_neg (by omega)]
  have K := ((dread_fit e1 e2).2 f).2 (by simp)
  rw [K]
  simp
theorem rd_small : ∀ (xs : List Nat) (k m : Nat), 1 ≤ k → (rd k m xs).2.2 = 0 → 128 ^ k ≤ (rd k m xs).1
  | [], k, m, _, h => by
    rw [rd] at h
    split at h <;> simp at h
  | x :: r, k, m, hk, h => by
    rw [rd] at h ⊢
    by_cases h9 : k = 9
    · rw [if_pos h9] at h; simp at h
    · rw [if_neg h9] at h ⊢
      by_cases h1 : 128 ≤ x
      · rw [if_pos h1] at h ⊢
        have := rd_small r (k + 1) _ (by omega) h
        have e : 128 ^ (k + 1) = 128 * 128 ^ k := by rw [Nat.pow_succ, Nat.mul_comm]
        have hp : 0 < 128 ^ k := Nat.pow_pos (by decide)
        omega
      · rw [if_neg h1] at h ⊢
        by_cases h0 : x = 0 ∧ 0 < k
        · rw [if_pos h0] at h; simp at h
        · rw [if_neg h0]
          simp only
          have hx : 1 ≤ x % 128 := by omega
          have : 1 * 128 ^ k ≤ x % 128 * 128 ^ k := Nat.mul_le_mul_right _ hx
          omega
theorem dnum_form {xs : List Nat} {n u : Nat} (h : dnum xs = (n, u, 0)) (hn : n < 128) : u = 1 ∧ ∃ r, xs = n :: r := by
  have h0 : (rd 0 0 xs).2.2 = 0 := by
    by_cases e : (rd 0 0 xs).2.2 = 0
    · exact e
    · unfold dnum at h
      rw [if_neg e] at h
      injection h with _ h
      injection h with _ h
      split at h <;> cases h
  have hr : rd 0 0 xs = (n, u, 0) := by
    unfold dnum at h
    rw [if_pos h0] at h
    exact h
  cases xs with
  | nil => rw [rd] at hr; simp at hr
  | cons x r =>
    rw [rd] at hr
    simp only [if_neg (show ¬ (0 : Nat) = 9 by decide)] at hr
    by_cases h1 : 128 ≤ x
    · rw [if_pos h1] at hr
      have h2 := rd_small r 1 (0 + x % 128 * 128 ^ 0) (by omega) (by rw [hr])
      rw [hr] at h2
      simp at h2
      omega
    · rw [if_neg h1, if_neg (by omega)] at hr
      injection hr with e1 e2
      injection e2 with e2 _
      simp at e1
      refine ⟨e2.symm, r, ?_⟩
      rw [← e1, Nat.mod_eq_of_lt (by omega)]
theorem dread_back {xs : List Nat} (h : (dread xs).2.2.2 = 0) : (dread xs).2.2.1 ≤ xs.length ∧ dlay (dread xs).1 (dread xs).2.1 = (xs.take (dread xs).2.2.1, 0) ∧ (dread xs).1 < 128 := by
  by_cases h1 : (dnum xs).2.2 = 0
  · obtain ⟨hn, u, re, hR⟩ : ∃ hn u re, dnum xs = (hn, u, re) := ⟨_, _, _, rfl⟩
    rw [hR] at h1
    simp only at h1
    subst h1
    by_cases h2 : (dnum (xs.drop u)).2.2 = 0
    · obtain ⟨n, m, qe, hQ⟩ : ∃ n m qe, dnum (xs.drop u) = (n, m, qe) := ⟨_, _, _, rfl⟩
      rw [hQ] at h2
      simp only at h2
      subst h2
      have K := dread_fit hR hQ
      by_cases hf : dfit hn n = 0
      · have hk := dfit_ok hf
        have K2 := K.2 hf
        by_cases hs : xs.length - (u + m) < n
        · rw [K2.1 hs] at h; cases h
        · have E := K2.2 hs
          obtain ⟨hu, r, hx⟩ := dnum_form hR (by omega)
          subst hu
          subst hx
          have hQ' : dnum r = (n, m, 0) := hQ
          obtain ⟨hm, r2, hr⟩ := dnum_form hQ' (by omega)
          subst hm
          subst hr
          rw [E]
          have hlen : n ≤ r2.length := by simp at hs; omega
          have e : ((hn :: n :: r2).drop (1 + 1)).take n = r2.take n := rfl
          have et : (hn :: n :: r2).take (1 + 1 + n) = hn :: n :: r2.take n := by
            have : 1 + 1 + n = n + 1 + 1 := by omega
            rw [this]
            rfl
          refine ⟨by simp; omega, ?_, by simp only; omega⟩
          simp only
          rw [e, et, dlay_fit]
          have el : (r2.take n).length = n := by simp; omega
          rw [el, if_pos hf]
      · rw [K.1 hf] at h; exact absurd h hf
    · rw [(dread_rest hR).1 h2] at h; exact absurd h h2
  · rw [dread_one h1] at h; exact absurd h h1
theorem dlay_ok {h : Nat} {d : List Nat} (hk : (h = 18 ∧ d.length = 32) ∨ (h = 0 ∧ d.length ≤ 64)) : dlay h d = (h :: d.length :: d, 0) := by
  unfold dlay
  rw [if_neg (by omega), if_neg (by omega)]
end
section
open Go.RowKit Go
/-- What is laid is read. -/
theorem rd_digs : ∀ (f n k m : Nat) (r : List Nat), k + f = 9 → n < 128 ^ f → (k = 0 ∨ 0 < n) → rd k m (digs f n ++ r) = (m + n * 128 ^ k, k + (digs f n).length, 0)
  | 0, n, k, m, r, hk, hn, h0 => by
    simp at hn
    omega
  | f + 1, n, k, m, r, hk, hn, h0 => by
    by_cases h : n < 128
    · rw [digs_small h]
      simp only [List.cons_append, List.nil_append, List.length_singleton]
      unfold rd
      rw [if_neg (by omega), if_neg (by omega), if_neg (by omega), Nat.mod_eq_of_lt h]
    · have hge : 128 ≤ n := by omega
      rw [digs_big hge, List.cons_append]
      unfold rd
      rw [if_neg (by omega), if_pos (by omega), rd_digs f (n / 128) (k + 1) _ r (by omega) (by rw [Nat.pow_succ] at hn; exact Nat.div_lt_of_lt_mul (by omega)) (.inr (Nat.div_pos hge (by decide)))]
      have e1 : (n % 128 + 128) % 128 = n % 128 := by omega
      have e2 : n % 128 * 128 ^ k + n / 128 * 128 ^ (k + 1) = n * 128 ^ k := by
        rw [Nat.pow_succ, Nat.mul_comm (128 ^ k) 128, ← Nat.mul_assoc, ← Nat.add_mul]
        congr 1
        omega
      rw [e1, List.length_cons, Nat.add_assoc, e2]
      congr 2
      omega
/-- What is read was laid so. -/
theorem rd_back : ∀ (xs : List Nat) (f k m v u : Nat), k + f = 9 → (∀ x ∈ xs, x < 256) → rd k m xs = (v, u, 0) → ∃ n, v = m + n * 128 ^ k ∧ n < 128 ^ f ∧ (0 < k → 0 < n) ∧ k ≤ u ∧ u - k ≤ xs.length ∧ digs f n = xs.take (u - k)
  | [], f, k, m, v, u, hk, _, h => by
    unfold rd at h
    split at h <;> simp at h
  | x :: r, f, k, m, v, u, hk, hb, h => by
    have hx := hb x (by simp)
    unfold rd at h
    split at h
    · simp at h
    · rename_i h9
      obtain ⟨g, rfl⟩ : ∃ g, f = g + 1 := ⟨f - 1, by omega⟩
      split at h
      · rename_i h128
        obtain ⟨n, hv, hn, hp, hu, hl, hd⟩ := rd_back r g (k + 1) _ v u (by omega) (fun y hy => hb y (List.mem_cons_of_mem _ hy)) h
        have hp := hp (by omega)
        refine ⟨x % 128 + n * 128, ?_, ?_, fun _ => by omega, by omega, by simp; omega, ?_⟩
        · rw [hv, Nat.pow_succ, Nat.add_mul, Nat.add_assoc]
          congr 2
          rw [Nat.mul_comm (128 ^ k) 128, Nat.mul_assoc]
        · rw [Nat.pow_succ]
          have : (n + 1) * 128 ≤ 128 ^ g * 128 := Nat.mul_le_mul_right _ hn
          omega
        · rw [digs_big (by omega)]
          have e1 : (x % 128 + n * 128) % 128 + 128 = x := by omega
          have e2 : (x % 128 + n * 128) / 128 = n := by omega
          rw [e1, e2, hd]
          have e3 : u - k = u - (k + 1) + 1 := by omega
          rw [e3, List.take_succ_cons]
      · split at h
        · simp at h
        · rename_i h128 hz
          simp only [Prod.mk.injEq] at h
          refine ⟨x, ?_, ?_, fun hk0 => by omega, by omega, by simp; omega, ?_⟩
          · rw [← h.1, Nat.mod_eq_of_lt (by omega)]
          · rw [Nat.pow_succ]
            have : 1 ≤ 128 ^ g := Nat.pow_pos (by decide)
            omega
          · rw [digs_small (by omega)]
            have e3 : u - k = 1 := by omega
            rw [e3]
            simp
theorem dnum_digs {n : Nat} (h : n < 9223372036854775808) (r : List Nat) : dnum (digs 9 n ++ r) = (n, (digs 9 n).length, 0) := by
  have e := rd_digs 9 n 0 0 r rfl (by have : (128 : Nat) ^ 9 = 9223372036854775808 := by decide
                                      omega) (.inl rfl)
  rw [Nat.pow_zero, Nat.mul_one, Nat.zero_add, Nat.zero_add] at e
  unfold dnum
  rw [e]
  simp
theorem dnum_back {xs : List Nat} {n u : Nat} (hb : ∀ x ∈ xs, x < 256) (h : dnum xs = (n, u, 0)) : n < 9223372036854775808 ∧ u ≤ xs.length ∧ digs 9 n = xs.take u := by
  unfold dnum at h
  split at h
  · obtain ⟨m, hv, hm, _, _, hl, hd⟩ := rd_back xs 9 0 0 n u rfl hb h
    have e : (128 : Nat) ^ 9 = 9223372036854775808 := by decide
    rw [Nat.pow_zero, Nat.mul_one, Nat.zero_add] at hv
    subst hv
    exact ⟨by omega, by omega, by simpa using hd⟩
  · simp only [Prod.mk.injEq] at h
    have := h.2.2
    split at this <;> omega

/-- A link. -/
structure Lk where
  v : Int
  c : Nat
  h : Nat
  d : List Nat
def Lk.none : Lk := ⟨0, 0, 0, []⟩
/-- A digest that its hash may have. -/
def okd (h : Nat) (d : List Nat) : Prop := (h = 18 ∧ d.length = 32) ∨ (h = 0 ∧ d.length ≤ 64)
instance (h : Nat) (d : List Nat) : Decidable (okd h d) := inferInstanceAs (Decidable (_ ∨ _))
/-- A link that may be. -/
def lok (l : Lk) : Prop := (l.v = 0 ∧ l.c = 112 ∧ l.h = 18 ∧ l.d.length = 32) ∨ (l.v = 1 ∧ l.c < 9223372036854775808 ∧ okd l.h l.d)
instance (l : Lk) : Decidable (lok l) := inferInstanceAs (Decidable (_ ∨ _))
theorem lok_okd {l : Lk} (h : lok l) : okd l.h l.d := by
  rcases h with ⟨_, _, h1, h2⟩ | ⟨_, _, h⟩
  · exact .inl ⟨h1, h2⟩
  · exact h
theorem dlay_okd {h : Nat} {d : List Nat} : (dlay h d).2 = 0 ↔ okd h d := by
  unfold dlay okd
  split
  · simp
    omega
  · split
    · simp
      omega
    · simp
      omega
/-- A link's bytes (P4.4). -/
def lbytes (l : Lk) : List Nat := if l.v = 0 then l.h :: l.d.length :: l.d else 1 :: digs 9 l.c ++ (l.h :: l.d.length :: l.d)
/-- What digest.Read's error is here. -/
def lerr (e : Nat) : Nat := if e = 32 ∨ e = 33 then 42 else 43
/-- Row 3 of P4.5. -/
def lthird (v : Int) (c at' : Nat) (b : List Nat) : Lk × Nat × Nat := if (dread (b.drop at')).2.2.2 = 0 then (⟨v, c, (dread (b.drop at')).1, (dread (b.drop at')).2.1⟩, at' + (dread (b.drop at')).2.2.1, 0) else (Lk.none, 0, lerr (dread (b.drop at')).2.2.2)
/-- The link at the front (P4.5). -/
def lfirst (b : List Nat) : Lk × Nat × Nat :=
  if b.head? = some 18 then lthird 0 112 0 b
  else if (dnum b).2.2 ≠ 0 then (Lk.none, 0, 42) else if (dnum b).1 ≠ 1 then (Lk.none, 0, 41)
  else if (dnum (b.drop (dnum b).2.1)).2.2 ≠ 0 then (Lk.none, 0, 42)
  else lthird 1 (dnum (b.drop (dnum b).2.1)).1 ((dnum b).2.1 + (dnum (b.drop (dnum b).2.1)).2.1) b
/-- The link of bytes (P4.6). -/
def lparse (b : List Nat) : Lk × Nat := if (lfirst b).2.2 ≠ 0 then (Lk.none, (lfirst b).2.2) else if (lfirst b).2.1 < b.length then (Lk.none, 44) else ((lfirst b).1, 0)
theorem lfirst_bytes {l : Lk} (h : lok l) (ms : List Nat) : lfirst (lbytes l ++ ms) = (l, (lbytes l).length, 0) := by
  obtain ⟨v, c, hh, d⟩ := l
  have hk := lok_okd h
  simp only at hk
  have hr := dread_laid (ms := ms) hk
  rcases h with ⟨h1, h2, h3, h4⟩ | ⟨h1, h2, _⟩
  · simp only at h1 h2 h3 h4
    subst h1
    subst h2
    subst h3
    unfold lfirst lbytes
    simp only [if_true, List.cons_append, List.head?_cons]
    unfold lthird
    simp only [List.cons_append] at hr
    rw [List.drop_zero, hr]
    simp
    omega
  · simp only at h1 h2
    subst h1
    have e1 : lbytes ⟨1, c, hh, d⟩ = 1 :: (digs 9 c ++ (hh :: d.length :: d)) := rfl
    rw [e1]
    have n1 : dnum (1 :: (digs 9 c ++ (hh :: d.length :: d)) ++ ms) = (1, 1, 0) := by
      rw [List.cons_append]
      exact dnum_small (by decide) _
    have n2 : dnum ((1 :: (digs 9 c ++ (hh :: d.length :: d)) ++ ms).drop 1) = (c, (digs 9 c).length, 0) := by
      rw [List.cons_append, List.drop_succ_cons, List.drop_zero, List.append_assoc]
      exact dnum_digs h2 _
    have n3 : (1 :: (digs 9 c ++ (hh :: d.length :: d)) ++ ms).drop (1 + (digs 9 c).length) = hh :: d.length :: d ++ ms := by
      rw [List.cons_append, Nat.add_comm, List.drop_succ_cons, List.append_assoc, List.drop_append_of_le_length (Nat.le_refl _), List.drop_length, List.nil_append]
    unfold lfirst
    rw [if_neg (by simp), n1]
    simp only [ne_eq, not_true_eq_false, if_false]
    rw [n2]
    simp only [not_true_eq_false, if_false]
    unfold lthird
    rw [n3, hr]
    simp
    omega
theorem lparse_bytes {l : Lk} (h : lok l) : lparse (lbytes l) = (l, 0) := by
  have e := lfirst_bytes h []
  rw [List.append_nil] at e
  unfold lparse
  rw [e]
  simp
end
section
open Go.ChangeShapes Go.WideShapes Go.ChangeAt Go.RowKit Go.Deep
theorem Tryz.own : ownKnob Tryz.prog.godebug = none := by kernel_rfl

theorem Tryz.laidOut : laidOutB Tryz.prog = true := by kernel_rfl

theorem Tryz.cells5 : Tryz.prog.cellsOf 5 = 1 := by kernel_rfl

theorem Tryz.bytes5 : Tryz.prog.bytesOf 5 = 1 := by kernel_rfl

theorem wf_u8 {n : Int} (h : (Lit.int .u8 n).wf = true) : 0 ≤ n ∧ n ≤ 255 := bounds_u8 h

/-- A row of bytes that was read as data, as BSl says it. -/
theorem bsl_of_row {w : World} (A : Option Addr) (L C : Nat) (Z : List Int) (hl : L ≤ C) (hm : C ≤ maxLen) (hz : Z.length = C) (hwf : ∀ n ∈ Z, (Lit.int .u8 n).wf = true) (hn : A = none → C = 0)
    (hc : ∀ a', A = some a' → ∀ c, c < C → w.cell? (a'.add c) = some (.int .u8 (Z.getD c 0))) : BSl w (.slice A L C) ((Z.take L).map Int.toNat) := by
  have hlen : ((Z.take L).map Int.toNat).length = L := by simp; omega
  refine ⟨⟨A, C, by rw [hlen], ⟨by rw [hlen]; exact hl, hn⟩, ?_⟩, by rw [hlen]; unfold maxLen at hm; omega, ?_⟩
  · by_cases h0 : L = 0
    · left; subst h0; simp
    · right
      cases A with
      | none => have := hn rfl; omega
      | some a =>
        obtain ⟨b, off, spot⟩ := a
        have h1 := hc _ rfl 0 (by omega)
        have hspot : spot = none := by simpa [Addr.add] using World.cell?_spot h1
        subst hspot
        refine ⟨b, off, rfl, fun j hj => ?_⟩
        rw [hlen] at hj
        have h2 := hc _ rfl j (by omega)
        have hadd : (⟨b, off, none⟩ : Addr).add j = ⟨b, off + j, none⟩ := by unfold Addr.add; split <;> simp_all
        rw [hadd] at h2
        rw [h2]
        have hjz : j < Z.length := by omega
        have hb := wf_u8 (hwf Z[j] (List.getElem_mem hjz))
        simp [List.getD, hj, hjz]
        omega
  · intro x hx
    simp only [List.mem_map] at hx
    obtain ⟨n, hn', rfl⟩ := hx
    have := wf_u8 (hwf n (List.mem_of_mem_take hn'))
    omega

/-- What a row weighs, inside a slice of rows. -/
theorem weights_all {H : Type} {P : Program} {e : TypeId} {d : DataW H} : ∀ {l : List (DataW H)}, d ∈ l → ∀ n ∈ d.weights P e, n ∈ DataW.weightsAll P e l
  | [], h, _, _ => by cases h
  | x :: r, h, n, hn => by
    simp only [DataW.weightsAll, List.mem_append]
    rcases List.mem_cons.1 h with h | h
    · subst h; exact .inl hn
    · exact .inr (weights_all h n hn)

theorem row_weight {H : Type} (a' : Addr) (L C : Nat) (Z : List Int) (hz : Z.length = C) : C ∈ (intRow (H := H) .u8 (some a') L Z).weights Tryz.prog 23 := by
  have e : (intRow (H := H) .u8 (some a') L Z) = .slice (lits .u8 (Z.take L)) (lits .u8 (Z.drop L)) := rfl
  rw [e]
  simp only [DataW.weights, Tryz.underlying23, Tryz.bytes5]
  refine List.mem_cons.2 (.inl ?_)
  simp [lits]
  omega
end
section
open Go.ChangeShapes Go.WideShapes Go.ChangeAt Go.RowKit Go.Deep Go.Joins

end
section
open Go.RowKit Go
/-- A string's bytes. -/
def sl (s : ByteArray) : List Nat := s.data.toList.map UInt8.toNat
theorem sl_byte (s : ByteArray) : ∀ x ∈ sl s, x < 256 := fun x hx => by
  obtain ⟨u, _, rfl⟩ := List.mem_map.1 hx
  exact u.toNat_lt
theorem sl_len (s : ByteArray) : (sl s).length = s.size := by
  unfold sl
  rw [List.length_map, Array.length_toList]
  rfl
theorem sl_get (s : ByteArray) (j : Nat) : (sl s).getD j 0 = (s.data.toList.getD j 0).toNat := by
  simp only [sl, List.getD, List.getElem?_map]
  cases s.data.toList[j]? <;> simp
/-- '[]byte(s)' of a string that is no constant. -/
theorem conv_sb (w : World) (s : ByteArray) : (convert 9 23 (.string s)).run Tryz.prog w = .ok (.slice (some ⟨w.heap.size, 0, none⟩) s.size (grownCap w s.size 0 5)) (Lib.bytesWorld w 5 s) := Lib.run_convert_string_bytes w 9 23 5 s Tryz.underlying9 Tryz.underlying23 Tryz.underlying5
theorem conv_sb_below (w : World) (s : ByteArray) : Below w.heap.size w (Lib.bytesWorld w 5 s) :=
  ⟨rfl, rfl, rfl, by rw [Lib.bytesWorld_size]; omega, fun k hk => Lib.bytesWorld_at_old w 5 s k hk⟩
theorem conv_sb_bsl (w : World) (s : ByteArray) (hs : s.size ≤ 9223372036854775807) : BSl (Lib.bytesWorld w 5 s) (.slice (some ⟨w.heap.size, 0, none⟩) s.size (grownCap w s.size 0 5)) (sl s) := by
  refine ⟨⟨_, _, by rw [sl_len], ⟨by rw [sl_len]; exact grownCap_ge w s.size 0 5, fun h => by cases h⟩, .inr ⟨w.heap.size, 0, rfl, fun j hj => ?_⟩⟩, by rw [sl_len]; exact hs, sl_byte s⟩
  rw [sl_len] at hj
  rw [Nat.zero_add, Lib.bytesWorld_cell w 5 s j hj, sl_get]
end
section
open Go.RowKit Go
theorem lthird_back {v : Int} {c a n : Nat} {b : List Nat} {l : Lk} (h : lthird v c a b = (l, n, 0)) : okd l.h l.d ∧ l.v = v ∧ l.c = c ∧ a ≤ n ∧ n - a ≤ (b.drop a).length ∧ l.h :: l.d.length :: l.d = (b.drop a).take (n - a) := by
  unfold lthird at h
  split at h
  · rename_i h0
    simp only [Prod.mk.injEq] at h
    obtain ⟨h1, h2, _⟩ := h
    have hb := dread_back h0
    have hk : okd (dread (b.drop a)).1 (dread (b.drop a)).2.1 := dlay_okd.1 (by rw [hb.2.1])
    have hd := dlay_ok hk
    rw [hd] at hb
    subst h1
    have e : n - a = (dread (b.drop a)).2.2.1 := by omega
    refine ⟨hk, rfl, rfl, by omega, by omega, ?_⟩
    rw [e]
    exact congrArg Prod.fst hb.2.1
  · rename_i h0
    simp only [Prod.mk.injEq] at h
    have := h.2.2
    unfold lerr at this
    split at this <;> omega
theorem lfirst_back {b : List Nat} {l : Lk} {n : Nat} (hb : ∀ x ∈ b, x < 256) (h : lfirst b = (l, n, 0)) : lok l ∧ n ≤ b.length ∧ lbytes l = b.take n := by
  unfold lfirst at h
  split at h
  · rename_i h18
    obtain ⟨hk, hv, hc, _, hn, he⟩ := lthird_back h
    rw [List.drop_zero, Nat.sub_zero] at hn he
    have hh : l.h = 18 := by
      cases b with
      | nil => simp at h18
      | cons x b =>
        simp at h18
        subst h18
        cases n with
        | zero => simp at he
        | succ n =>
          rw [List.take_succ_cons] at he
          injection he
    have hd : l.d.length = 32 := by
      rcases hk with h1 | h1
      · exact h1.2
      · omega
    refine ⟨.inl ⟨hv, hc, hh, hd⟩, hn, ?_⟩
    unfold lbytes
    rw [if_pos hv]
    exact he
  · split at h
    · simp at h
    · rename_i hn1
      split at h
      · simp at h
      · rename_i hv1
        split at h
        · simp at h
        · rename_i hn2
          generalize hd1 : dnum b = r1 at *
          obtain ⟨v1, u1, e1⟩ := r1
          simp only [ne_eq, Decidable.not_not] at hn1 hv1 hn2 h
          subst hn1
          subst hv1
          generalize hd2 : dnum (b.drop u1) = r2 at *
          obtain ⟨c2, u2, e2⟩ := r2
          simp only at hn2 h
          subst hn2
          have d1 := dnum_back hb hd1
          have d2 := dnum_back (fun x hx => hb x (List.mem_of_mem_drop hx)) hd2
          obtain ⟨hk, hv, hc, ha, hn, he⟩ := lthird_back h
          have f1 : u1 = 1 := by
            have := congrArg List.length d1.2.2
            rw [digs_small (by decide), List.length_take] at this
            simp at this
            omega
          rw [List.length_drop] at d2 hn
          refine ⟨.inr ⟨hv, by rw [hc]; exact d2.1, hk⟩, by omega, ?_⟩
          unfold lbytes
          rw [if_neg (by rw [hv]; decide), hc, he, d2.2.2]
          have g1 : [1] = b.take u1 := by rw [← d1.2.2, digs_small (by decide)]
          have g2 : (1 : Nat) :: (b.drop u1).take u2 = b.take (u1 + u2) := by
            rw [List.take_add, ← g1]
            rfl
          rw [g2]
          have g3 : b.take n = b.take ((u1 + u2) + (n - (u1 + u2))) := by
            congr 1
            omega
          rw [g3, List.take_add (i := u1 + u2)]
theorem lparse_back {b : List Nat} {l : Lk} (hb : ∀ x ∈ b, x < 256) (h : lparse b = (l, 0)) : lok l ∧ lbytes l = b := by
  unfold lparse at h
  split at h
  · rename_i h0
    simp only [Prod.mk.injEq] at h
    exact absurd h.2 h0
  · split at h
    · simp at h
    · rename_i h0 h1
      simp only [Prod.mk.injEq, and_true] at h
      simp only [ne_eq, Decidable.not_not] at h0
      have e : lfirst b = (l, (lfirst b).2.1, 0) := by
        rw [← h, ← h0]
      obtain ⟨h2, h3, h4⟩ := lfirst_back hb e
      refine ⟨h2, ?_⟩
      rw [h4, List.take_of_length_le (by omega)]
theorem lbytes_len {l : Lk} (h : lok l) : (lbytes l).length ≤ 76 := by
  have hk := lok_okd h
  have hd := digs_len 9 l.c
  unfold lbytes
  unfold okd at hk
  split
  · simp
    omega
  · simp
    omega
end
section
open Go.RowKit Go
/-- What a digit stands for. -/
def look : List Nat → Nat → Option Nat
  | [], _ => none
  | x :: t, c => if x = c then some 0 else (look t c).map (· + 1)
theorem lbytes_byte {l : Lk} (h : lok l) (hd : ∀ x ∈ l.d, x < 256) : ∀ x ∈ lbytes l, x < 256 := by
  have hk := lok_okd h
  have hdg : ∀ (f n : Nat), ∀ x ∈ digs f n, x < 256 := by
    intro f
    induction f with
    | zero => intro n x hx; simp [digs] at hx
    | succ f ih =>
      intro n x hx
      unfold digs at hx
      split at hx
      · simp at hx
        omega
      · rcases List.mem_cons.1 hx with e | e
        · omega
        · exact ih _ x e
  have hrow : ∀ x ∈ l.h :: l.d.length :: l.d, x < 256 := fun x hx => by
    unfold okd at hk
    simp only [List.mem_cons] at hx
    rcases hx with e | e | e
    · omega
    · omega
    · exact hd x e
  intro x hx
  unfold lbytes at hx
  split at hx
  · exact hrow x hx
  · rcases List.mem_append.1 hx with e | e
    · rcases List.mem_cons.1 e with e | e
      · omega
      · exact hdg 9 l.c x e
    · exact hrow x e
end
section
open Go.RowKit Go

end
section
open Go.RowKit Go
theorem below_alloc4 (w : World) (o : Obj) : Below w.heap.size w (w.alloc o) := (Below.refl _ _).alloc (Nat.le_refl _) _
set_option maxRecDepth 1000000 in
set_option maxHeartbeats 1000000 in
theorem refCheck_any (w : World) (v : Int) (c h : Nat) (s : ByteArray) (hh : h < 18446744073709551616) (hs : s.size ≤ 9223372036854775807) :
    Calls Tryz.prog 128 #[.agg #[.int .i64 v, .int .u64 (c : Nat), .int .u64 (h : Nat), .string s]] w fun e w' => e = .returned (.int .i64 (if lok ⟨v, c, h, sl s⟩ then 0 else 40)) ∧ Below w.heap.size w w' := by
  generalize hR : (if lok ⟨v, c, h, sl s⟩ then (0 : Int) else 40) = R
  have HR := hide hR
  have HSL := hide (sl_len s)
  clear hR
  by_cases hv0 : v = 0
  · subst hv0
    have HE : Hid (lok ⟨0, c, h, sl s⟩ ↔ c = 112 ∧ h = 18 ∧ s.size = 32) := by
      show _ ↔ _
      unfold lok
      simp [sl_len]
    by_cases h1 : c = 112
    · by_cases h2 : h = 18
      · by_cases h3 : s.size = 32
        · have HZ : Hid (R = 0) := by show _ = _; rw [← HR.out, if_pos (HE.out.2 ⟨h1, h2, h3⟩)]
          subst h1
          subst h2
          have g3 : ((s.size : Int) == 32) = true := beq_iff_eq.2 (by omega)
          clear h3 HE HR
          go_enter Tryz.func128, Tryz.ntmps128
          go_wp2_with fail
          go_ret
          exact ⟨by rw [HZ.out]; rfl, below_alloc4 w _⟩
        · have HZ : Hid (R = 40) := by show _ = _; rw [← HR.out, if_neg (fun e => h3 (HE.out.1 e).2.2)]
          subst h1
          subst h2
          have g3 : ((s.size : Int) == 32) = false := beq_eq_false_iff_ne.2 (by omega)
          clear h3 HE HR
          go_enter Tryz.func128, Tryz.ntmps128
          go_wp2_with fail
          go_ret
          exact ⟨by rw [HZ.out]; rfl, below_alloc4 w _⟩
      · have HZ : Hid (R = 40) := by show _ = _; rw [← HR.out, if_neg (fun e => h2 (HE.out.1 e).2.1)]
        subst h1
        have g3 : ((h : Int) == 18) = false := beq_eq_false_iff_ne.2 (by omega)
        clear h2 HE HR
        go_enter Tryz.func128, Tryz.ntmps128
        go_wp2_with fail
        go_ret
        exact ⟨by rw [HZ.out]; rfl, below_alloc4 w _⟩
    · have HZ : Hid (R = 40) := by show _ = _; rw [← HR.out, if_neg (fun e => h1 (HE.out.1 e).1)]
      have g3 : ((c : Int) == 112) = false := beq_eq_false_iff_ne.2 (by omega)
      clear h1 HE HR
      go_enter Tryz.func128, Tryz.ntmps128
      go_wp2_with fail
      go_ret
      exact ⟨by rw [HZ.out]; rfl, below_alloc4 w _⟩
  · have g0 : (v == 0) = false := beq_eq_false_iff_ne.2 hv0
    by_cases hv1 : v = 1
    · subst hv1
      have HE : Hid (lok ⟨1, c, h, sl s⟩ ↔ c < 9223372036854775808 ∧ (dlay h (sl s)).2 = 0) := by as_aux_lemma =>
        show _ ↔ _
        rw [dlay_okd]
        unfold lok
        simp
      have cv := conv_sb (w.alloc (.cells #[.int .i64 1, .int .u64 (c : Nat), .int .u64 (h : Nat), .string s] 63)) s
      have hb0 := below_alloc4 w (.cells #[.int .i64 1, .int .u64 (c : Nat), .int .u64 (h : Nat), .string s] 63)
      have HB1 : Hid (Below w.heap.size w (Lib.bytesWorld (w.alloc (.cells #[.int .i64 1, .int .u64 (c : Nat), .int .u64 (h : Nat), .string s] 63)) 5 s)) := hb0.trans ((conv_sb_below _ s).mono hb0.size)
      have HS1 := hide (conv_sb_bsl (w.alloc (.cells #[.int .i64 1, .int .u64 (c : Nat), .int .u64 (h : Nat), .string s] 63)) s hs)
      have q1 : (Lib.bytesWorld (w.alloc (.cells #[.int .i64 1, .int .u64 (c : Nat), .int .u64 (h : Nat), .string s] 63)) 5 s).heap[w.heap.size]? = some (.cells #[.int .i64 1, .int .u64 (c : Nat), .int .u64 (h : Nat), .string s] 63 (0, 0)) := by
        rw [Lib.bytesWorld_at_old _ _ _ _ (by simp)]
        exact heap_alloc_new w _
      have HQ1 := hide q1
      have hz0 : (w.alloc (.cells #[.int .i64 1, .int .u64 (c : Nat), .int .u64 (h : Nat), .string s] 63)).heap.size = w.heap.size + 1 := by simp
      rw [hz0] at HS1
      clear hb0 q1 hv0 g0 hz0
      generalize hn : (c : Int) = n at *
      have HN := hide hn
      clear hn
      go_enter Tryz.func128, Tryz.ntmps128
      go_wp2_with fail
      clear cv
      generalize grownCap (w.alloc (.cells #[.int .i64 1, .int .u64 n, .int .u64 (h : Nat), .string s] 63)) s.size 0 5 = G at *
      generalize Lib.bytesWorld (w.alloc (.cells #[.int .i64 1, .int .u64 n, .int .u64 (h : Nat), .string s] 63)) 5 s = w1 at *
      refine (refDLay_any w1 h _ (sl s) hh HS1.out).mono ?_
      rintro e w2 ⟨v2, rfl, _, hb2⟩
      have HB2 : Hid (Below w.heap.size w w2) := HB1.out.trans (hb2.mono HB1.out.size)
      have q1 : w2.cell? ⟨w.heap.size, 1, none⟩ = some (.int .u64 n) := blk_cell ((hb2.block _ (blk_lt HQ1.out)).trans HQ1.out) rfl
      clear hb2 HS1 HB1 HQ1
      by_cases hc63 : n < 9223372036854775808
      · by_cases hl0 : (dlay h (sl s)).2 = 0
        · as_aux_lemma =>
          have HZ : Hid (R = 0) := by show _ = _; rw [← HR.out, if_pos (HE.out.2 ⟨by have := HN.out; omega, hl0⟩)]
          rw [hl0]
          clear HE HR HN
          go_wp2_with fail
          go_ret
          exact ⟨by rw [HZ.out]; rfl, HB2.out⟩
        · as_aux_lemma =>
          have HZ : Hid (R = 40) := by show _ = _; rw [← HR.out, if_neg (fun e => hl0 (HE.out.1 e).2)]
          have g3 : (((dlay h (sl s)).2 : Int) == 0) = false := beq_eq_false_iff_ne.2 (by omega)
          generalize (dlay h (sl s)).2 = E at *
          clear HE HR HN
          go_wp2_with fail
          go_ret
          exact ⟨by rw [HZ.out]; rfl, HB2.out⟩
      · as_aux_lemma =>
        have HZ : Hid (R = 40) := by show _ = _; rw [← HR.out, if_neg (fun e => hc63 (by have := (HE.out.1 e).1; have := HN.out; omega))]
        have g2' : (9223372036854775808 : Int) ≤ n := by omega
        generalize (dlay h (sl s)).2 = E at *
        clear HE HR HN hc63
        go_wp2_with fail
        go_ret
        exact ⟨by rw [HZ.out]; rfl, HB2.out⟩
    · have g1 : (v == 1) = false := beq_eq_false_iff_ne.2 hv1
      have HZ : Hid (R = 40) := by
        show _ = _
        rw [← HR.out, if_neg]
        rintro (h1 | h1)
        · exact hv0 h1.1
        · exact hv1 h1.1
      clear HR
      go_enter Tryz.func128, Tryz.ntmps128
      go_wp2_with fail
      go_ret
      exact ⟨by rw [HZ.out]; rfl, below_alloc4 w _⟩
end
section
open Go.RowKit Go
theorem digs_ge {k n : Nat} (hk : k < 9) (hn : 128 ≤ n) : digs (9 - k) n = (n % 128 + 128) :: digs (9 - (k + 1)) (n / 128) := by
  obtain ⟨f, hf⟩ : ∃ f, 9 - k = f + 1 := ⟨8 - k, by omega⟩
  rw [hf, digs_big hn]
  congr 2
  omega
theorem digs_lt {k n : Nat} (hk : k < 9) (hn : n < 128) : digs (9 - k) n = [n] := by
  obtain ⟨f, hf⟩ : ∃ f, 9 - k = f + 1 := ⟨8 - k, by omega⟩
  rw [hf, digs_small hn]

set_option maxRecDepth 1000000 in
set_option maxHeartbeats 1000000 in
theorem refVarint_any (w : World) (n : Nat) (hn : n < 9223372036854775808) :
    Calls Tryz.prog 130 #[.int .u64 (n : Nat)] w fun e w' => ∃ v, e = .returned v ∧ w'.ownsRow w.heap.size 5 1 v (digs 9 n).length (bv (digs 9 n)) ∧ Below w.heap.size w w' := by
  have HN := hide hn
  go_enter Tryz.func130, Tryz.ntmps130
  go_wp2_with fail
  go_loopw [0, 3] (fun nn vv wx => ∃ (m : Nat) (ds : List Nat), m < 9223372036854775808 ∧ nn = .int .u64 (m : Nat) ∧ Hid (ds.length < 9 ∧ m < 128 ^ (9 - ds.length) ∧ ds ++ digs (9 - ds.length) m = digs 9 n ∧ ∀ x ∈ ds, x < 256) ∧ Hid (wx.ownsRow w.heap.size 5 1 vv ds.length (bv ds)) ∧ Hid (Below w.heap.size w wx)) (fun nn _ _ => (intOf nn).toNat)
  case atStart => exact ⟨n, [], hn, rfl, ⟨by decide, by simpa using hn, rfl, by simp⟩, ⟨rfl, .inl ⟨rfl, rfl⟩⟩, Below.refl _ _⟩
  case round =>
    obtain ⟨m, ds, hm, rfl, HI, HO, HBv⟩ := hrel
    by_cases hge : 128 ≤ m
    · have g1 : (128 : Int) ≤ (m : Int) := by omega
      have HL := hide (one_bsl wr (m % 128 + 128) (by omega))
      have HA := hide (HO.out.alloc (.cells #[.int .u8 ((m % 128 + 128 : Nat) : Int)] 5))
      have HZ : Hid (ds.length + ([m % 128 + 128] : List Nat).length ≤ 140737488355328) := by have := HI.out.1; show _ ≤ _; simp; omega
      have HBZ : Hid (w.heap.size ≤ (wr.alloc (.cells #[.int .u8 ((m % 128 + 128 : Nat) : Int)] 5)).heap.size) := by have := HBv.out.size; show _ ≤ _; simp; omega
      have HBA : Hid (Below w.heap.size w (wr.alloc (.cells #[.int .u8 ((m % 128 + 128 : Nat) : Int)] 5))) := HBv.out.alloc HBv.out.size _
      have HI2 : Hid ((ds ++ [m % 128 + 128]).length < 9 ∧ m / 128 < 128 ^ (9 - (ds ++ [m % 128 + 128]).length) ∧ (ds ++ [m % 128 + 128]) ++ digs (9 - (ds ++ [m % 128 + 128]).length) (m / 128) = digs 9 n ∧ ∀ x ∈ ds ++ [m % 128 + 128], x < 256) := by
        obtain ⟨h1, h2, h3, h4⟩ := HI.out
        rw [List.length_append, List.length_singleton]
        obtain ⟨f, hf⟩ : ∃ f, 9 - ds.length = f + 1 := ⟨8 - ds.length, by omega⟩
        rw [hf] at h2
        obtain ⟨g, hg, hlt⟩ := fuel_down hge h2
        have e : 9 - (ds.length + 1) = g + 1 := by omega
        refine ⟨by omega, by rw [e]; exact hlt, ?_, fun x hx => ?_⟩
        · rw [List.append_assoc, ← h3, digs_ge h1 hge]
          rfl
        · rcases List.mem_append.1 hx with hx | hx
          · exact h4 x hx
          · simp at hx
            omega
      obtain ⟨a3, c3, hu3, _⟩ := own_form HO.out
      subst hu3
      have hq1 : (m : Int) % 128 = ((m % 128 : Nat) : Int) := by omega
      have hq2 : (m : Int) / 128 = ((m / 128 : Nat) : Int) := by omega
      have hq3 : m % 128 < 128 := Nat.mod_lt _ (by decide)
      have hq4 : m / 128 < m := by omega
      have hq5 : (128 : Int) + ((m % 128 : Nat) : Int) = ((m % 128 + 128 : Nat) : Int) := by omega
      have hq6 : ((m % 128 + 128 : Nat) : Int) < 256 := by omega
      generalize m % 128 + 128 = xx at *
      generalize m % 128 = rr at *
      generalize m / 128 = qq at *
      go_wp2_with (at_builtin; refine append_bsl rfl _ _ rfl w.heap.size _ ds.length ds rfl HA.out _ [xx] rfl HL.out HZ.out HBZ.out ?_)
      intro v7 w7 ho7 hg7
      have HB7 : Hid (Below w.heap.size w w7) := HBA.out.grown hg7 HBZ.out (fun g hg => (HA.out.lt g hg).1)
      have HO7 : Hid (w7.ownsRow w.heap.size 5 1 v7 (ds ++ [xx]).length (bv (ds ++ [xx]))) := by show World.ownsRow _ _ _ _ _ _ _; rw [List.length_append]; exact ho7
      clear ho7 hg7 HA HL HO HBv HBA
      go_wp2_with fail
      go_roundw
      case rel => exact ⟨qq, ds ++ [xx], by omega, by go_num, HI2, HO7, HB7⟩
      case measure => simp [intOf]; omega
    · have g1 : ¬ (128 : Int) ≤ (m : Int) := by omega
      have hm3 : m < 128 := by omega
      have HL := hide (one_bsl wr m (by omega))
      have HA := hide (HO.out.alloc (.cells #[.int .u8 (m : Int)] 5))
      have HZ : Hid (ds.length + ([m] : List Nat).length ≤ 140737488355328) := by have := HI.out.1; show _ ≤ _; simp; omega
      have HBZ : Hid (w.heap.size ≤ (wr.alloc (.cells #[.int .u8 (m : Int)] 5)).heap.size) := by have := HBv.out.size; show _ ≤ _; simp; omega
      have HBA : Hid (Below w.heap.size w (wr.alloc (.cells #[.int .u8 (m : Int)] 5))) := HBv.out.alloc HBv.out.size _
      have HE : Hid (ds ++ [m] = digs 9 n) := by
        obtain ⟨h1, h2, h3, h4⟩ := HI.out
        show _ = _
        rw [← h3, digs_lt h1 hm3]
      obtain ⟨a3, c3, hu3, _⟩ := own_form HO.out
      subst hu3
      go_wp2_with (at_builtin; refine append_bsl rfl _ _ rfl w.heap.size _ ds.length ds rfl HA.out _ [m] rfl HL.out HZ.out HBZ.out ?_)
      intro v7 w7 ho7 hg7
      have HB7 : Hid (Below w.heap.size w w7) := HBA.out.grown hg7 HBZ.out (fun g hg => (HA.out.lt g hg).1)
      have HO7 : Hid (w7.ownsRow w.heap.size 5 1 v7 (digs 9 n).length (bv (digs 9 n))) := by show World.ownsRow _ _ _ _ _ _ _; rw [← HE.out, List.length_append]; exact ho7
      obtain ⟨a7, c7, hu7, _⟩ := own_form ho7
      subst hu7
      clear ho7 hg7 HA HL HO HBv HBA
      go_wp2_with fail
      go_ret
      exact ⟨_, rfl, HO7.out, HB7.out⟩
end
section
open Go.RowKit Go
theorem lit_row4 (w : World) (B x : Nat) (hB : B ≤ w.heap.size) : (w.alloc (.cells #[.int .u8 ((x : Nat) : Int)] 5)).ownsRow B 5 1 (.slice (some ⟨w.heap.size, 0, none⟩) 1 1) 1 (bv [x]) :=
  ⟨rfl, .inr ⟨w.heap.size, 1, _, rfl, hB, heap_alloc_new w _, Nat.le_refl _, by unfold maxLen; omega, rfl, rfl⟩⟩
theorem own_mono4 {w : World} {b b' : Nat} {v : Value} {n : Nat} {xs : List Value} (h : w.ownsRow b 5 1 v n xs) (hb : b' ≤ b) : w.ownsRow b' 5 1 v n xs := by
  refine ⟨h.1, ?_⟩
  rcases h.2 with h1 | ⟨g, cap, cur, e, hg, r⟩
  · exact .inl h1
  · exact .inr ⟨g, cap, cur, e, Nat.le_trans hb hg, r⟩
theorem own_below4 {w w' : World} {b : Nat} {v : Value} {n : Nat} {xs : List Value} (h : w.ownsRow b 5 1 v n xs) (hb : Below w.heap.size w w') : w'.ownsRow b 5 1 v n xs := (Kp.of_below (S := fun _ => False) hb).owns h (fun _ _ e => e)

set_option maxRecDepth 1000000 in
set_option maxHeartbeats 1000000 in
theorem refBytes_any (w : World) (v : Int) (c h : Nat) (s : ByteArray) (hh : h < 18446744073709551616) (hs : s.size ≤ 9223372036854775807) :
    Calls Tryz.prog 98 #[.agg #[.int .i64 v, .int .u64 (c : Nat), .int .u64 (h : Nat), .string s]] w fun e w' => ∃ v', e = .returned (.tuple #[v', .int .i64 (if lok ⟨v, c, h, sl s⟩ then 0 else 40)]) ∧ w'.ownsRow w.heap.size 5 1 v' (if lok ⟨v, c, h, sl s⟩ then lbytes ⟨v, c, h, sl s⟩ else []).length (bv (if lok ⟨v, c, h, sl s⟩ then lbytes ⟨v, c, h, sl s⟩ else [])) ∧ Below w.heap.size w w' := by
  have HSL := hide (sl_len s)
  have HH := hide hh
  have HT : Hid ((w.alloc (.cells #[.int .i64 v, .int .u64 (c : Nat), .int .u64 (h : Nat), .string s] 63)).heap[w.heap.size]? = some (.cells #[.int .i64 v, .int .u64 (c : Nat), .int .u64 (h : Nat), .string s] 63 (0, 0))) := heap_alloc_new w _
  have HBv := hide (below_alloc4 w (.cells #[.int .i64 v, .int .u64 (c : Nat), .int .u64 (h : Nat), .string s] 63))
  by_cases hl : lok ⟨v, c, h, sl s⟩
  · rw [if_pos hl, if_pos hl]
    have HLK := hide hl
    clear hl
    go_enter Tryz.func98, Tryz.ntmps98
    go_wp2_with fail
    generalize w.alloc (.cells #[.int .i64 v, .int .u64 (c : Nat), .int .u64 (h : Nat), .string s] 63) = w0 at *
    refine (refCheck_any w0 v c h s HH.out hs).mono ?_
    rintro e w1 ⟨rfl, hb1⟩
    rw [if_pos HLK.out]
    have q0 : w1.heap[w.heap.size]? = some (.cells #[.int .i64 v, .int .u64 (c : Nat), .int .u64 (h : Nat), .string s] 63 (0, 0)) := (hb1.block _ (blk_lt HT.out)).trans HT.out
    have HB1 : Hid (Below w.heap.size w w1) := HBv.out.trans (hb1.mono HBv.out.size)
    have c0 : w1.cell? ⟨w.heap.size, 0, none⟩ = some (.int .i64 v) := blk_cell q0 rfl
    have c1 : w1.cell? ⟨w.heap.size, 1, none⟩ = some (.int .u64 (c : Nat)) := blk_cell q0 rfl
    have c2 : w1.cell? ⟨w.heap.size, 2, none⟩ = some (.int .u64 (h : Nat)) := blk_cell q0 rfl
    have c3 : w1.cell? ⟨w.heap.size, 3, none⟩ = some (.string s) := blk_cell q0 rfl
    have cv := conv_sb w1 s
    go_wp2_with fail
    have HS1 := hide (conv_sb_bsl w1 s hs)
    have HB2 : Hid (Below w.heap.size w (Lib.bytesWorld w1 5 s)) := HB1.out.trans ((conv_sb_below w1 s).mono HB1.out.size)
    have HT2 : Hid ((Lib.bytesWorld w1 5 s).heap[w.heap.size]? = some (.cells #[.int .i64 v, .int .u64 (c : Nat), .int .u64 (h : Nat), .string s] 63 (0, 0))) := (Lib.bytesWorld_at_old w1 5 s _ (blk_lt q0)).trans q0
    clear cv c0 c1 c2 c3 q0 hb1
    generalize grownCap w1 s.size 0 5 = G at *
    generalize w1.heap.size = gg at *
    generalize Lib.bytesWorld w1 5 s = w2 at *
    refine (refDLay_any w2 h _ (sl s) HH.out HS1.out).mono ?_
    rintro e w3 ⟨vd, rfl, ho3, hb3⟩
    have HDL := hide (dlay_ok (lok_okd HLK.out))
    simp only at HDL
    rw [HDL.out] at ho3
    have HE2 : Hid ((dlay h (sl s)).2 = 0) := by show _ = _; rw [HDL.out]
    rw [HE2.out]
    have HO3 := hide ho3
    have HB3 : Hid (Below w.heap.size w w3) := HB2.out.trans (hb3.mono HB2.out.size)
    have q3 : w3.heap[w.heap.size]? = some (.cells #[.int .i64 v, .int .u64 (c : Nat), .int .u64 (h : Nat), .string s] 63 (0, 0)) := (hb3.block _ (blk_lt HT2.out)).trans HT2.out
    have HQ3 := hide q3
    have HWB : Hid (w.heap.size ≤ w2.heap.size) := HB2.out.size
    have c0 : w3.cell? ⟨w.heap.size, 0, none⟩ = some (.int .i64 v) := blk_cell q3 rfl
    have c1 : w3.cell? ⟨w.heap.size, 1, none⟩ = some (.int .u64 (c : Nat)) := blk_cell q3 rfl
    clear ho3 hb3 q3 HS1 HT2 HB2
    obtain ⟨ad, cd, hvd, _⟩ := own_form HO3.out
    subst hvd
    by_cases hv0 : v = 0
    · subst hv0
      have HBY : Hid (lbytes ⟨0, c, h, sl s⟩ = h :: (sl s).length :: sl s) := rfl
      go_wp2_with fail
      go_ret2
      exact ⟨_, rfl, by rw [HBY.out]; exact own_mono4 HO3.out HWB.out, HB3.out⟩
    · have hv1 : v = 1 := by
        rcases HLK.out with h1 | h1
        · exact absurd h1.1 hv0
        · exact h1.1
      subst hv1
      have hc63 : c < 9223372036854775808 := by
        rcases HLK.out with h1 | h1
        · exact absurd h1.1 hv0
        · exact h1.2.1
      have HC := hide hc63
      have HBY : Hid (lbytes ⟨1, c, h, sl s⟩ = 1 :: digs 9 c ++ (h :: (sl s).length :: sl s)) := rfl
      clear hc63 hv0
      have HBYT : Hid (∀ x ∈ h :: (sl s).length :: sl s, x < 256) := by
        have hk := lok_okd HLK.out
        intro x hx
        unfold okd at hk
        simp only [List.mem_cons] at hx
        rcases hx with e | e | e
        · simp only at hk
          omega
        · simp only at hk
          omega
        · exact sl_byte s x e
      have HRL : Hid ((h :: (sl s).length :: sl s).length ≤ 66) := by
        have hk := lok_okd HLK.out
        unfold okd at hk
        simp only at hk
        show _ ≤ _
        simp
        omega
      generalize h :: (sl s).length :: sl s = rw3 at *
      have hb4 := below_alloc4 w3 (.cells #[.int .u8 1] 5)
      have c1a : (w3.alloc (.cells #[.int .u8 1] 5)).cell? ⟨w.heap.size, 1, none⟩ = some (.int .u64 (c : Nat)) := keep_below hb4 _ _ c1
      have HA4 : Hid ((w3.alloc (.cells #[.int .u8 1] 5)).ownsRow w.heap.size 5 1 (.slice (some ⟨w3.heap.size, 0, none⟩) 1 1) 1 (bv [1])) := lit_row4 w3 w.heap.size 1 HB3.out.size
      have HB4 : Hid (Below w.heap.size w (w3.alloc (.cells #[.int .u8 1] 5))) := HB3.out.trans (hb4.mono HB3.out.size)
      have HD4 := hide (own_below4 HO3.out hb4)
      have HDK : Hid (∀ k, (Value.slice ad rw3.length cd).ownBlock = some k → k ≠ w3.heap.size) := fun k hk e => by have := (HO3.out.lt k hk).2; omega
      have HS34 : Hid (w3.heap.size < (w3.alloc (.cells #[.int .u8 1] 5)).heap.size) := by show _ < _; simp
      clear c1 hb4 HQ3
      go_wp2_with fail
      clear c0 c1a
      generalize w3.alloc (.cells #[.int .u8 1] 5) = w4 at *
      refine (refVarint_any w4 c HC.out).mono ?_
      rintro e w5 ⟨vv, rfl, ho5, hb5⟩
      have HV5 : Hid (BSl w5 vv (digs 9 c)) := BSl.own ho5 (fun x hx => by
        have hk := lbytes_byte HLK.out (sl_byte s) x
        exact hk (by rw [HBY.out]; simp [hx]))
      have HA5 := hide (own_below4 HA4.out hb5)
      have HD5 := hide (own_below4 HD4.out hb5)
      have HB5 : Hid (Below w.heap.size w w5) := HB4.out.trans (hb5.mono HB4.out.size)
      have HZ5 : Hid (1 + (digs 9 c).length ≤ 140737488355328) := by have := digs_len 9 c; show _ ≤ _; omega
      clear ho5 hb5 HA4 HD4 HB4
      go_wp2_with (at_builtin; refine append_bsl rfl _ _ rfl w.heap.size _ 1 [1] rfl HA5.out _ (digs 9 c) rfl HV5.out HZ5.out HB5.out.size ?_)
      intro v6 w6 ho6 hg6
      have hk6 : Kp (fun q => q = w3.heap.size) w5 w6 := (Kp.refl _ _).grown hg6 (fun k _ h => by injection h with h; exact h.symm)
      have HD6 : Hid (BSl w6 (.slice ad rw3.length cd) rw3) := BSl.own (hk6.owns HD5.out (fun k hk e => HDK.out k hk e)) HBYT.out
      have HO6 := hide ho6
      have HB6 : Hid (Below w.heap.size w w6) := HB5.out.trans (hk6.below HB5.out.size (fun q e => by have := HB3.out.size; omega))
      have HZ6 : Hid (1 + (digs 9 c).length + rw3.length ≤ 140737488355328) := by have := digs_len 9 c; have := HRL.out; show _ ≤ _; omega
      clear ho6 hg6 hk6 HA5 HD5 HB5 HV5
      go_wp2_with (at_builtin; refine append_bsl rfl _ _ rfl w.heap.size _ (1 + (digs 9 c).length) _ rfl HO6.out _ rw3 rfl HD6.out HZ6.out HB6.out.size ?_)
      intro v7 w7 ho7 hg7
      have HB7 : Hid (Below w.heap.size w w7) := HB6.out.grown hg7 HB6.out.size (fun g hg => (HO6.out.lt g hg).1)
      have HO7 : Hid (w7.ownsRow w.heap.size 5 1 v7 (lbytes ⟨1, c, h, sl s⟩).length (bv (lbytes ⟨1, c, h, sl s⟩))) := by
        show World.ownsRow _ _ _ _ _ _ _
        rw [HBY.out]
        have e : (1 :: digs 9 c ++ rw3).length = 1 + (digs 9 c).length + rw3.length := by simp; omega
        rw [e]
        exact ho7
      clear ho7 hg7 HO6 HD6 HB6
      go_wp2_with fail
      go_ret2
      exact ⟨_, rfl, HO7.out, HB7.out⟩
  · rw [if_neg hl, if_neg hl]
    have HLK := hide hl
    clear hl
    go_enter Tryz.func98, Tryz.ntmps98
    go_wp2_with fail
    generalize w.alloc (.cells #[.int .i64 v, .int .u64 (c : Nat), .int .u64 (h : Nat), .string s] 63) = w0 at *
    refine (refCheck_any w0 v c h s HH.out hs).mono ?_
    rintro e w1 ⟨rfl, hb1⟩
    rw [if_neg HLK.out]
    have HB1 : Hid (Below w.heap.size w w1) := HBv.out.trans (hb1.mono HBv.out.size)
    clear hb1
    go_wp2_with fail
    go_ret2
    exact ⟨_, rfl, ⟨rfl, .inl ⟨rfl, rfl⟩⟩, HB1.out⟩
end
section
open Go.RowKit Go
/-- A link as a value. -/
def lkv (l : Lk) : Value := .agg #[.int .i64 l.v, .int .u64 (l.c : Nat), .int .u64 (l.h : Nat), .string (nstr l.d)]
end
section
open Go.RowKit Go

end
section
open Go.RowKit Go
/-- No link, as cells. -/
def zlk : Array Value := #[.int .i64 0, .int .u64 0, .int .u64 0, .string ⟨#[]⟩]
theorem info61 : (Tryz.prog.info? 63).map (·.size) = some 4 := by kernel_rfl
/-- What First has in hand: the result's block and the link's. -/
structure Fq (w wx : World) (R L : Nat) (lv : Array Value) : Prop where
  r : wx.heap[R]? = some (.cells zlk 63 (0, 0))
  l : wx.heap[L]? = some (.cells lv 63 (0, 0))
  b : Below w.heap.size w wx
  rb : w.heap.size ≤ R
  lb : w.heap.size ≤ L
  ne : R ≠ L
theorem Fq.below {w wx wy : World} {R L : Nat} {lv : Array Value} (h : Fq w wx R L lv) (hb : Below wx.heap.size wx wy) : Fq w wy R L lv :=
  ⟨(hb.block R (blk_lt h.r)).trans h.r, (hb.block L (blk_lt h.l)).trans h.l, h.b.trans (hb.mono h.b.size), h.rb, h.lb, h.ne⟩
theorem Fq.set {w wx : World} {R L : Nat} {lv : Array Value} (h : Fq w wx R L lv) (j : Nat) (v : Value) : Fq w (wx.setCell ⟨L, j, none⟩ v) R L (lv.setIfInBounds j v) := by
  have hk : Kp (fun q => q = L) wx (wx.setCell ⟨L, j, none⟩ v) := (Kp.refl _ _).setCell _ _ (fun _ => rfl)
  have lb := h.lb
  exact ⟨(hk.block R (blk_lt h.r) h.ne).trans h.r, blk_set j v h.l, h.b.trans (hk.below h.b.size (fun q e => by omega)), h.rb, h.lb, h.ne⟩
end
section
open Go.RowKit Go

end
section
open Go.RowKit Go

end
section
open Go.RowKit Go

end
section
open Go.RowKit Go
/-- Which stands ahead, where they differ. -/
def blt : List Nat → List Nat → Bool
  | x :: r, y :: q => if x = y then blt r q else decide (x < y)
  | _, _ => false
theorem blt_drop {x y : List Nat} {i : Nat} (hx : i < x.length) (hy : i < y.length) : blt (x.drop i) (y.drop i) = if x.getD i 0 = y.getD i 0 then blt (x.drop (i + 1)) (y.drop (i + 1)) else decide (x.getD i 0 < y.getD i 0) := by
  rw [List.drop_eq_getElem_cons hx, List.drop_eq_getElem_cons hy]
  simp [blt, List.getD, hx, hy]
theorem blt_end {x y : List Nat} {i : Nat} (h : ¬ i < x.length ∨ ¬ i < y.length) : blt (x.drop i) (y.drop i) = false := by
  rcases h with h | h
  · rw [List.drop_of_length_le (by omega)]
    rfl
  · rw [List.drop_of_length_le (l := y) (by omega)]
    cases x.drop i <;> rfl
/-- The bytes that Bytes tells. -/
def lb (v : Int) (c h : Nat) (s : ByteArray) : List Nat := if lok ⟨v, c, h, sl s⟩ then lbytes ⟨v, c, h, sl s⟩ else []
end
section
open Go.RowKit Go
theorem sl_nstr {xs : List Nat} (h : ∀ x ∈ xs, x < 256) : sl (nstr xs) = xs := by
  have key : ∀ l : List Nat, (∀ x ∈ l, x < 256) → (nstr l).data.toList.map UInt8.toNat = l := by
    intro l hl
    simp only [nstr, strOfNums_data, List.map_map]
    conv => rhs; rw [← List.map_id l]
    apply List.map_congr_left
    intro x hx
    have := hl x hx
    simp; omega
  exact key xs h
end
section
open Go.RowKit Go
/-- What regroup has in hand: the digits told, the bits that wait. -/
structure Rg (tt : Nat) (B out R : List Nat) : Prop where
  e : B = out.flatMap (bitsW tt) ++ R
  o : ∀ x ∈ out, x < 2 ^ tt
  r : ∀ x ∈ R, x < 2
theorem Rg.take {tt : Nat} {B out R : List Nat} (h : Rg tt B out R) (hl : tt ≤ R.length) : Rg tt B (out ++ [valB 2 (R.take tt)]) (R.drop tt) := by
  have hl2 : (R.take tt).length = tt := by rw [List.length_take]; omega
  have hb : ∀ x ∈ R.take tt, x < 2 := fun x hx => h.r x (List.mem_of_mem_take hx)
  refine ⟨?_, ?_, fun x hx => h.r x (List.mem_of_mem_drop hx)⟩
  · have e := bitsW_valB (R.take tt) hb
    rw [hl2] at e
    rw [List.flatMap_append, List.flatMap_singleton, e, List.append_assoc, List.take_append_drop]
    exact h.e
  · intro x hx
    rcases List.mem_append.1 hx with hx | hx
    · exact h.o x hx
    · simp only [List.mem_singleton] at hx
      subst hx
      have := valB_lt (b := 2) (by decide) hb
      rwa [hl2] at this
end
section
open Go.RowKit Go
theorem nstr_sl (s : ByteArray) : nstr (sl s) = s := by
  obtain ⟨⟨l⟩⟩ := s
  have e : nstr (sl ⟨⟨l⟩⟩) = ⟨(nstr (sl ⟨⟨l⟩⟩)).data⟩ := rfl
  rw [e]
  congr 1
  apply Array.ext'
  simp only [nstr, sl, strOfNums_data, List.map_map]
  conv => rhs; rw [← List.map_id l]
  apply List.map_congr_left
  intro x _
  simp
theorem nstr_size {xs : List Nat} (h : ∀ x ∈ xs, x < 256) : (nstr xs).size = xs.length := by rw [← sl_len, sl_nstr h]
/-- A link's cells. -/
def lcs (l : Lk) : Array Value := #[.int .i64 l.v, .int .u64 (l.c : Nat), .int .u64 (l.h : Nat), .string (nstr l.d)]
/-- A link that the program can hold. -/
structure Lkb (l : Lk) : Prop where
  c : l.c < 18446744073709551616
  h : l.h < 18446744073709551616
  d : ∀ x ∈ l.d, x < 256
  n : l.d.length ≤ 9223372036854775807
theorem Lkb.size {l : Lk} (h : Lkb l) : (nstr l.d).size = l.d.length := nstr_size h.d
theorem lk_ext {a b : Lk} : a = b ↔ a.v = b.v ∧ a.c = b.c ∧ a.h = b.h ∧ a.d = b.d := by
  constructor
  · rintro rfl
    exact ⟨rfl, rfl, rfl, rfl⟩
  · obtain ⟨_, _, _, _⟩ := a
    obtain ⟨_, _, _, _⟩ := b
    rintro ⟨h1, h2, h3, h4⟩
    simp only at h1 h2 h3 h4
    subst h1 h2 h3 h4
    rfl
instance : DecidableEq Lk := fun a b => decidable_of_iff _ (lk_ext (a := a) (b := b)).symm
theorem eqlk (w : World) {a b : Lk} (ha : ∀ x ∈ a.d, x < 256) (hb : ∀ x ∈ b.d, x < 256) : (Op.equalIn 10000 63 (.agg (lcs a)) (.agg (lcs b))).run Tryz.prog w = .ok (decide (a = b)) w := by
  have u3 := Tryz.underlying3
  have u9 := Tryz.underlying9
  have u33 := Tryz.underlying61
  have a3 := Tryz.isAgg3
  have a9 := Tryz.isAgg9
  have a33 := Tryz.isAgg61
  have z3 := Tryz.sizeOf3
  have z9 := Tryz.sizeOf9
  have z33 := Tryz.sizeOf61
  have hS : Tryz.prog.underlying 63 = some (.struct (Tryz.prog.fieldsOf 63)) := by kernel_rfl
  have hp : Tryz.prog.stoodInHeld 63 = false := by kernel_rfl
  have hs : ((nstr a.d).toList == (nstr b.d).toList) = decide (a.d = b.d) := by
    by_cases h : a.d = b.d
    · rw [h]; simp
    · rw [beq_eq_false_iff_ne.2 (fun e => h (nstr_inj ha hb e))]; simp [h]
  have hr : decide (a = b) = (decide (a.v = b.v) && (decide (a.c = b.c) && (decide (a.h = b.h) && decide (a.d = b.d)))) := by
    rw [Bool.eq_iff_iff]
    simp [lk_ext]
  rw [hr]
  unfold lcs
  rw [show (10000 : Nat) = 9999 + 1 from rfl, run_equalIn_agg w 9999 63 _ _ hS hp]
  simp only [Program.fieldsOf, Tryz.underlying63]
  go_simp
  by_cases h1 : a.v = b.v <;> by_cases h2 : a.c = b.c <;> by_cases h3 : a.h = b.h <;> by_cases h4 : a.d = b.d <;> first | (simp [h1, h2, h3, h4]; done) | (simp [h1, h2, h3, h4]; omega)

theorem eqg : Tryz.prog.eqGuardType Tryz.prog.depth 63 = false := by kernel_rfl
/-- A whole struct by value, as a step of a region that draws. -/
theorem qstep_link {C : World → Prop} {ops : Array Oper} {o : Oper} {a : Act} {K : Act → Prop} {p : Operand} (hgd : Region.wanted o (yielded ops a.tmps) = true) (ho : o.op = .load 63 p) (g : Nat) (cs : Array Value)
    (hp : a.eval p = .pointer (some ⟨g, 0, none⟩)) (hn : cs.size = 4) (hc : ∀ w, C w → w.heap[g]? = some (.cells cs 63 (0, 0)))
    (h : K (a.put o.dst (.agg cs))) : if Region.wanted o (yielded ops a.tmps) = true then o.quiet Tryz.prog a C K else K (a.put o.dst undef) := by
  rw [if_pos hgd]
  refine ⟨.agg cs, fun w hC => ?_, h⟩
  have hr : (Instr.loadAt 63 (.pointer (some ⟨g, 0, none⟩))).run Tryz.prog w = .ok (.agg cs) w := by
    simp only [Instr.loadAt, Instr.sureAddr, Sem.run_bind, Sem.run_pure, Result.andThen]
    exact run_loadVar_row (P := Tryz.prog) w g 63 63 cs (0, 0) _ (hc w hC) Tryz.underlying63 rfl (by rw [hn]; exact info61)
  unfold Oper.quietAt execOp
  simp only [ho, Sem.run_bind, hp, hr, Result.andThen_ok]
  exact ⟨rfl, rfl⟩

theorem wpList_wanted {P : Program} {ops : Array Oper} {Q : Exit → Act → World → Prop} {a : Act} {w : World} {rest : List Oper} {o : Oper} (hw : Region.wanted o (yielded ops a.tmps) = true)
    (h : ∀ K : Act → World → Prop, (∀ a w, wpList P ops Q rest a w → K a w) → o.wp P a w K Q) : wpList P ops Q (o :: rest) a w := wpList_step fun K hK => by rw [if_pos hw]; exact h K hK
/-- Two links held against each other. -/
theorem exec_eqlk {o : Oper} {a : Act} {x y : Operand} {T2 : TypeId} {A B : Array Value} {r : Bool} {w : World} (ho : o.op = .binOp .eql 63 x y T2) (hx : a.eval x = .agg A) (hy : a.eval y = .agg B) (he : (Op.equalIn 10000 63 (.agg A) (.agg B)).run Tryz.prog w = .ok r w) : (execOp a.eval o).run Tryz.prog w = .ok (.value (.bool r)) w := by
  unfold execOp
  simp only [ho, Sem.run_bind, hx, hy, run_eqGuard_agg w _ 63 x y A B eqg, run_eql_struct, he, Result.andThen_ok]
  rfl
theorem exec_nelk {o : Oper} {a : Act} {x y : Operand} {T2 : TypeId} {A B : Array Value} {r : Bool} {w : World} (ho : o.op = .binOp .neq 63 x y T2) (hx : a.eval x = .agg A) (hy : a.eval y = .agg B) (he : (Op.equalIn 10000 63 (.agg A) (.agg B)).run Tryz.prog w = .ok r w) : (execOp a.eval o).run Tryz.prog w = .ok (.value (.bool (!r))) w := by
  unfold execOp
  simp only [ho, Sem.run_bind, hx, hy, run_eqGuard_agg w _ 63 x y A B eqg, run_neq_struct, he, Result.andThen_ok]
  rfl
theorem qstep_eqlk {C : World → Prop} {ops : Array Oper} {o : Oper} {a : Act} {K : Act → Prop} {x y : Operand} {T2 : TypeId} (hgd : Region.wanted o (yielded ops a.tmps) = true) (ho : o.op = .binOp .eql 63 x y T2) (A B : Array Value) (r : Bool)
    (hx : a.eval x = .agg A) (hy : a.eval y = .agg B) (he : ∀ w, C w → (Op.equalIn 10000 63 (.agg A) (.agg B)).run Tryz.prog w = .ok r w)
    (h : K (a.put o.dst (.bool r))) : if Region.wanted o (yielded ops a.tmps) = true then o.quiet Tryz.prog a C K else K (a.put o.dst undef) := by
  rw [if_pos hgd]
  refine ⟨.bool r, fun w hC => ?_, h⟩
  unfold Oper.quietAt
  rw [exec_eqlk ho hx hy (he w hC)]
  exact ⟨rfl, rfl⟩
theorem wpList_eqlk {ops : Array Oper} {rest : List Oper} {o : Oper} {a : Act} {Q : Exit → Act → World → Prop} {w : World} {x y : Operand} {T2 : TypeId} (hgd : Region.wanted o (yielded ops a.tmps) = true) (ho : o.op = .binOp .eql 63 x y T2) (A B : Array Value) (r : Bool)
    (hx : a.eval x = .agg A) (hy : a.eval y = .agg B) (he : (Op.equalIn 10000 63 (.agg A) (.agg B)).run Tryz.prog w = .ok r w) (h : wpList Tryz.prog ops Q rest (a.put o.dst (.bool r)) w) : wpList Tryz.prog ops Q (o :: rest) a w := by
  refine wpList_wanted hgd fun K hK => ?_
  unfold Oper.wp
  rw [exec_eqlk ho hx hy he]
  exact hK _ _ h
theorem wpList_nelk {ops : Array Oper} {rest : List Oper} {o : Oper} {a : Act} {Q : Exit → Act → World → Prop} {w : World} {x y : Operand} {T2 : TypeId} (hgd : Region.wanted o (yielded ops a.tmps) = true) (ho : o.op = .binOp .neq 63 x y T2) (A B : Array Value) (r : Bool)
    (hx : a.eval x = .agg A) (hy : a.eval y = .agg B) (he : (Op.equalIn 10000 63 (.agg A) (.agg B)).run Tryz.prog w = .ok r w) (h : wpList Tryz.prog ops Q rest (a.put o.dst (.bool (!r))) w) : wpList Tryz.prog ops Q (o :: rest) a w := by
  refine wpList_wanted hgd fun K hK => ?_
  unfold Oper.wp
  rw [exec_nelk ho hx hy he]
  exact hK _ _ h
set_option maxRecDepth 1000000 in
theorem old_any (w : World) (s : ByteArray) : Calls Tryz.prog 163 #[.string s] w fun e w' => e = .returned (.agg #[.int .i64 0, .int .u64 112, .int .u64 18, .string s]) ∧ Below w.heap.size w w' := by
  go_enter Tryz.func163, Tryz.ntmps163
  go_wp2_with fail
  exact bodyPost_ret (v := .agg #[.int .i64 0, .int .u64 112, .int .u64 18, .string s]) ((results_one (p := 2) (ty := 63) rfl _ _ _).trans (by go_simp; first | done | rfl)) rfl ⟨rfl, below_alloc4 w _⟩
set_option maxRecDepth 1000000 in
theorem fits4_any (w : World) (l : Lk) (hl : Lkb l) : Calls Tryz.prog 164 #[lkv l] w fun e w' => e = .returned (.bool (decide (okd l.h l.d))) ∧ Below w.heap.size w w' := by
  have hs := hl.size
  have hn := hl.n
  obtain ⟨v, c, h, d⟩ := l
  simp only at hs hn
  simp only [lkv]
  have HE : Hid (okd h d ↔ (h = 18 ∧ d.length = 32) ∨ (h = 0 ∧ d.length ≤ 64)) := Iff.rfl
  generalize hS : nstr d = S at *
  clear hS hl
  by_cases h1 : h = 18
  · subst h1
    have HR : Hid (decide (okd 18 d) = ((d.length : Int) == 32)) := by
      show _ = _
      rw [Bool.eq_iff_iff, decide_eq_true_iff, HE.out, beq_iff_eq]
      omega
    rw [HR.out]
    clear HE HR
    go_enter Tryz.func164, Tryz.ntmps164
    go_wp2_with fail
    go_ret
    exact ⟨rfl, below_alloc4 w _⟩
  · have g1 : ((h : Int) == 18) = false := beq_eq_false_iff_ne.2 (by omega)
    by_cases h2 : h = 0
    · subst h2
      have HR : Hid (decide (okd 0 d) = decide ((d.length : Int) ≤ 64)) := by
        show _ = _
        rw [Bool.eq_iff_iff, decide_eq_true_iff, HE.out, decide_eq_true_iff]
        omega
      rw [HR.out]
      clear HE HR
      go_enter Tryz.func164, Tryz.ntmps164
      go_wp2_with fail
      go_ret
      exact ⟨rfl, below_alloc4 w _⟩
    · have g2 : ((h : Int) == 0) = false := beq_eq_false_iff_ne.2 (by omega)
      have HR : Hid (decide (okd h d) = false) := by
        show _ = _
        rw [decide_eq_false_iff_not, HE.out]
        omega
      rw [HR.out]
      clear HE HR
      go_enter Tryz.func164, Tryz.ntmps164
      go_wp2_with fail
      go_ret
      exact ⟨rfl, below_alloc4 w _⟩
end
section
open Go.ChangeShapes Go.WideShapes Go.ChangeAt Go.RowKit Go.Deep Go.Joins Go
/-- A value, plainly: kind, flag, sign, number, a float's bits, text, bytes, link, keys, items. -/
inductive Tv where
  | mk (k : Int) (f g : Bool) (n b : Nat) (s : ByteArray) (y : List Nat) (l : Lk) (ks : List ByteArray) (is : List Tv)
def Tv.k : Tv → Int | .mk k _ _ _ _ _ _ _ _ _ => k
def Tv.f : Tv → Bool | .mk _ f _ _ _ _ _ _ _ _ => f
def Tv.g : Tv → Bool | .mk _ _ g _ _ _ _ _ _ _ => g
def Tv.n : Tv → Nat | .mk _ _ _ n _ _ _ _ _ _ => n
def Tv.b : Tv → Nat | .mk _ _ _ _ b _ _ _ _ _ => b
def Tv.s : Tv → ByteArray | .mk _ _ _ _ _ s _ _ _ _ => s
def Tv.y : Tv → List Nat | .mk _ _ _ _ _ _ y _ _ _ => y
def Tv.l : Tv → Lk | .mk _ _ _ _ _ _ _ l _ _ => l
def Tv.ks : Tv → List ByteArray | .mk _ _ _ _ _ _ _ _ ks _ => ks
def Tv.is : Tv → List Tv | .mk _ _ _ _ _ _ _ _ _ is => is
theorem Tv.is_lt {t u : Tv} (h : u ∈ t.is) : SizeOf.sizeOf u < SizeOf.sizeOf t := by
  obtain ⟨k, f, g, n, b, s, y, l, ks, is⟩ := t
  have h1 := List.sizeOf_lt_of_mem h
  simp only [Tv.is] at h1
  simp only [Tv.mk.sizeOf_spec]
  omega
/-- A value's cells. -/
def vcs (t : Tv) (vy vk vi : Value) : Array Value :=
  #[.int .i64 t.k, .bool t.f, .bool t.g, .int .u64 (t.n : Nat), .int .u64 (t.b : Nat), .string t.s, vy, .int .i64 t.l.v, .int .u64 (t.l.c : Nat), .int .u64 (t.l.h : Nat), .string (nstr t.l.d), vk, vi]
/-- A slice of strings, plainly. -/
structure SSl (w : World) (v : Value) (ks : List ByteArray) : Prop where
  form : ∃ a cap, v = .slice a ks.length cap ∧ (ks.length ≤ cap ∧ (a = none → cap = 0)) ∧ (ks = [] ∨ ∃ b off, a = some ⟨b, off, none⟩ ∧ ∀ j s, ks[j]? = some s → w.cell? ⟨b, off + j, none⟩ = some (.string s))
  max : ks.length ≤ 140737488351232
  size : ∀ s ∈ ks, s.size ≤ 140737488351232
theorem SSl.move {w w' : World} {v : Value} {ks : List ByteArray} (h : SSl w v ks) (hm : ∀ p u, w.cell? p = some u → w'.cell? p = some u) : SSl w' v ks := by
  obtain ⟨⟨a, c, hv, hn, hc⟩, h1, h2⟩ := h
  refine ⟨⟨a, c, hv, hn, ?_⟩, h1, h2⟩
  rcases hc with hc | ⟨b, off, ha, hc⟩
  · exact .inl hc
  · exact .inr ⟨b, off, ha, fun j s hj => hm _ _ (hc j s hj)⟩
/-- A value in memory: these cells read as this value. -/
inductive Tin (w : World) : Tv → Array Value → Prop
  | mk (t : Tv) (vy vk : Value) (a : Option Addr) (cap : Nat) (cs : Nat → Array Value) (hn : t.n < 18446744073709551616) (hb : t.b < 18446744073709551616) (hs : t.s.size ≤ 140737488351232) (hy : BSl w vy t.y) (hyl : t.y.length ≤ 140737488351232) (hl : Lkb t.l) (hld : t.l.d.length ≤ 140737488351232) (hk : SSl w vk t.ks)
      (hc : t.is.length ≤ cap ∧ (a = none → cap = 0)) (hm : t.is.length ≤ 140737488351232) (hi : ∀ i u, t.is[i]? = some u → Tin w u (cs i))
      (ha : t.is = [] ∨ ∃ b off, a = some ⟨b, off, none⟩ ∧ ∀ i, i < t.is.length → ∀ j u, (cs i)[j]? = some u → w.cell? ⟨b, off + i * 13 + j, none⟩ = some u) : Tin w t (vcs t vy vk (.slice a t.is.length cap))
theorem Tin.move {w w' : World} {t : Tv} {cs : Array Value} (h : Tin w t cs) (hm : ∀ p u, w.cell? p = some u → w'.cell? p = some u) : Tin w' t cs := by
  induction h with
  | mk t vy vk a cap cs hn hb hs hy hyl hl hld hk hc hmm hi ha ih =>
    refine Tin.mk t vy vk a cap cs hn hb hs (hy.move hm) hyl hl hld (hk.move hm) hc hmm ih ?_
    rcases ha with ha | ⟨b, off, e, ha⟩
    · exact .inl ha
    · exact .inr ⟨b, off, e, fun i hi j u hu => hm _ _ (ha i hi j u hu)⟩
/-- A slice of values. -/
structure VSl (w : World) (v : Value) (is : List Tv) : Prop where
  form : ∃ a cap, v = .slice a is.length cap ∧ (is.length ≤ cap ∧ (a = none → cap = 0)) ∧ (is = [] ∨ ∃ b off, a = some ⟨b, off, none⟩ ∧ ∀ i t, is[i]? = some t → ∃ cs, Tin w t cs ∧ ∀ j u, cs[j]? = some u → w.cell? ⟨b, off + i * 13 + j, none⟩ = some u)
  max : is.length ≤ 140737488351232
theorem VSl.move {w w' : World} {v : Value} {is : List Tv} (h : VSl w v is) (hm : ∀ p u, w.cell? p = some u → w'.cell? p = some u) : VSl w' v is := by
  obtain ⟨⟨a, c, hv, hn, hc⟩, h1⟩ := h
  refine ⟨⟨a, c, hv, hn, ?_⟩, h1⟩
  rcases hc with hc | ⟨b, off, ha, hc⟩
  · exact .inl hc
  · exact .inr ⟨b, off, ha, fun i t hi => by
      obtain ⟨cs, h1, h2⟩ := hc i t hi
      exact ⟨cs, h1.move hm, fun j u hu => hm _ _ (h2 j u hu)⟩⟩
/-- The bounds of a value's own fields. -/
structure Tbd (t : Tv) : Prop where
  n : t.n < 18446744073709551616
  b : t.b < 18446744073709551616
  s : t.s.size ≤ 140737488351232
  y : t.y.length ≤ 140737488351232
  l : Lkb t.l
  d : t.l.d.length ≤ 140737488351232
/-- A value's parts. -/
theorem Tin.parts {w : World} {t : Tv} {c : Array Value} (h : Tin w t c) : ∃ vy vk vi, c = vcs t vy vk vi ∧ BSl w vy t.y ∧ SSl w vk t.ks ∧ VSl w vi t.is ∧ Tbd t := by
  cases h with
  | mk _ vy vk a cap cs hn hb hs hy hyl hl hld hk hc hm hi ha =>
    refine ⟨vy, vk, _, rfl, hy, hk, ⟨⟨a, cap, rfl, hc, ?_⟩, hm⟩, ⟨hn, hb, hs, hyl, hl, hld⟩⟩
    rcases ha with ha | ⟨b, off, e, ha⟩
    · exact .inl ha
    · refine .inr ⟨b, off, e, fun i t' hi' => ⟨cs i, hi i t' hi', fun j u hu => ha i ?_ j u hu⟩⟩
      exact (List.getElem?_eq_some_iff.1 hi').1
theorem Tin.of {w : World} {t : Tv} {vy vk vi : Value} (hy : BSl w vy t.y) (hk : SSl w vk t.ks) (hv : VSl w vi t.is) (h : Tbd t) : Tin w t (vcs t vy vk vi) := by
  obtain ⟨hn, hb, hs, hyl, hl, hld⟩ := h
  obtain ⟨⟨a, cap, rfl, hc, ha⟩, hm⟩ := hv
  rcases ha with ha | ⟨b, off, e, ha⟩
  · exact Tin.mk t vy vk a cap (fun _ => #[]) hn hb hs hy hyl hl hld hk hc hm (fun i u hu => by rw [ha] at hu; simp at hu) (.inl ha)
  · have hx : ∀ i, ∃ cs : Array Value, ∀ t', t.is[i]? = some t' → Tin w t' cs ∧ ∀ j u, cs[j]? = some u → w.cell? ⟨b, off + i * 13 + j, none⟩ = some u := fun i => by
      cases hi : t.is[i]? with
      | none => exact ⟨#[], fun t' h => by cases h⟩
      | some t' =>
        obtain ⟨cs, h1, h2⟩ := ha i t' hi
        exact ⟨cs, fun t'' h => by injection h with h; subst h; exact ⟨h1, h2⟩⟩
    refine Tin.mk t vy vk a cap (fun i => Classical.choose (hx i)) hn hb hs hy hyl hl hld hk hc hm (fun i u hu => (Classical.choose_spec (hx i) u hu).1) (.inr ⟨b, off, e, fun i hi j u hu => ?_⟩)
    exact (Classical.choose_spec (hx i) t.is[i] (List.getElem?_eq_getElem hi)).2 j u hu
end
section
open Go.RowKit Go
mutual
/-- How many parts a value has. -/
def tmuch : Tv → Nat
  | .mk _ _ _ _ _ s y l ks is => 1 + ks.length + y.length / 64 + s.size / 64 + l.d.length / 64 + (ks.map fun k => k.size / 64).sum + tmuchL is
def tmuchL : List Tv → Nat
  | [] => 0
  | t :: r => tmuch t + tmuchL r
end
mutual
/-- A value's depth. -/
def tdepth : Tv → Nat
  | .mk k _ _ _ _ _ _ _ _ is => if k = 8 ∨ k = 9 then tdepthL is + 1 else 0
def tdepthL : List Tv → Nat
  | [] => 0
  | t :: r => max (tdepth t) (tdepthL r)
end
theorem tmuchL_app : ∀ (a b : List Tv), tmuchL (a ++ b) = tmuchL a + tmuchL b
  | [], b => by simp [tmuchL]
  | t :: a, b => by rw [List.cons_append, tmuchL, tmuchL, tmuchL_app a b]; omega
theorem tdepthL_mem : ∀ {l : List Tv} {t : Tv}, t ∈ l → tdepth t ≤ tdepthL l
  | [], _, h => by cases h
  | u :: r, t, h => by
    rw [tdepthL]
    rcases List.mem_cons.1 h with h | h
    · subst h
      omega
    · have := tdepthL_mem h
      omega
theorem tdepth_eq (t : Tv) : tdepth t = if t.k = 8 ∨ t.k = 9 then tdepthL t.is + 1 else 0 := by
  obtain ⟨k, f, g, n, b, s, y, l, ks, is⟩ := t
  rw [tdepth]
  rfl
theorem tmuch_eq (t : Tv) : tmuch t = 1 + t.ks.length + t.y.length / 64 + t.s.size / 64 + t.l.d.length / 64 + (t.ks.map fun k => k.size / 64).sum + tmuchL t.is := by
  obtain ⟨k, f, g, n, b, s, y, l, ks, is⟩ := t
  rw [tmuch]
  rfl
theorem takeT (l : List Tv) (k : Nat) (t : Tv) (h : l[k]? = some t) : l.take (k + 1) = l.take k ++ [t] := by
  have hk := (List.getElem?_eq_some_iff.1 h).1
  rw [List.take_succ_eq_append_getElem hk]
  rw [List.getElem?_eq_getElem hk] at h
  injection h with h
  rw [h]
theorem infoV : (Tryz.prog.info? 65).map (·.size) = some 13 := by kernel_rfl
/-- A value somewhere in a block. -/
theorem load_val {w : World} (g o : Nat) (cs : Array Value) (hn : cs.size = 13) (hc : ∀ j u, cs[j]? = some u → w.cell? ⟨g, o + j, none⟩ = some u) : (Instr.loadAt 65 (.pointer (some ⟨g, o, none⟩))).run Tryz.prog w = .ok (.agg cs) w := by
  have hl := run_loadCells_list (P := Tryz.prog) (w := w) ⟨g, o, none⟩ cs.toList (fun j v hv => by rw [addr_add]; exact hc j v (by simpa using hv))
  have hi := infoV
  simp only [Instr.loadAt, Instr.sureAddr, Sem.run_bind, Sem.run_pure, Result.andThen]
  cases hq : Tryz.prog.info? 65 with
  | none => simp [hq] at hi
  | some i =>
    have hs : i.size = 13 := by simpa [hq] using hi
    have hn2 : cs.toList.length = 13 := by simpa using hn
    rw [hn2] at hl
    have ha : (isAgg 65).run Tryz.prog w = .ok true w := by
      unfold isAgg
      rw [Sem.run_bind, run_underlying Tryz.underlying65 w]
      simp
    simp [loadVar, ha, sizeOf, typeInfo, hq, hs, hl]
theorem wpList_valAt {ops : Array Oper} {rest : List Oper} {o : Oper} {a : Act} {Q : Exit → Act → World → Prop} {w : World} {p : Operand} (hgd : Region.wanted o (yielded ops a.tmps) = true) (ho : o.op = .load 65 p) (g off : Nat) (cs : Array Value)
    (hp : a.eval p = .pointer (some ⟨g, off, none⟩)) (hn : cs.size = 13) (hc : ∀ j u, cs[j]? = some u → w.cell? ⟨g, off + j, none⟩ = some u)
    (h : wpList Tryz.prog ops Q rest (a.put o.dst (.agg cs)) w) : wpList Tryz.prog ops Q (o :: rest) a w := by
  refine wpList_wanted hgd fun K hK => ?_
  unfold Oper.wp execOp
  simp only [ho, Sem.run_bind, hp, load_val g off cs hn hc, Result.andThen_ok]
  exact hK _ _ h
end
section
open Go.RowKit Go
/-- Which digit each byte is, counted from 1, by the first k digits. -/
def plt (t : List Nat) : Nat → List Nat
  | 0 => List.replicate 256 0
  | k + 1 => (plt t k).set (t.getD k 0) (k + 1)
theorem sl_at (D : ByteArray) (k : Nat) (h : k < D.size) : (sl D).getD k 0 = D[k].toNat := by
  rw [sl_get]
  congr 1
  have h2 : k < D.data.toList.length := by rw [Array.length_toList]; exact h
  rw [List.getD_eq_getElem?_getD, List.getElem?_eq_getElem h2]
  rfl
end
section
open Go.RowKit Go
/-- Keys' order. -/
def bfr (a b : List Nat) : Bool := if a.length = b.length then blt a b else decide (a.length < b.length)
theorem nat_ne {a b : Nat} : ((a : Int) != (b : Int)) = decide (a ≠ b) := by
  rw [Bool.eq_iff_iff]
  simp
  omega
set_option maxRecDepth 1000000 in
theorem rbefore_any (w : World) (s t : ByteArray) (hs : s.size ≤ 9223372036854775807) : Calls Tryz.prog 131 #[.string s, .string t] w fun e w' => e = .returned (.bool (bfr (sl s) (sl t))) ∧ Below w.heap.size w w' := by
  have HSL := hide (sl_len s)
  have HTL := hide (sl_len t)
  have HE : Hid (bfr (sl s) (sl t) = if s.size = t.size then blt (sl s) (sl t) else decide (s.size < t.size)) := by show _ = _; unfold bfr; rw [sl_len, sl_len]
  go_enter Tryz.func131, Tryz.ntmps131
  by_cases h : s.size = t.size
  · rw [if_pos h] at HE
    have g0 : ((s.size : Int) != (t.size : Int)) = false := by rw [nat_ne]; simp [h]
    have HH := hide h
    clear h
    go_wp2_with fail
    go_loopw [5] (fun ii wx => ∃ i : Nat, i ≤ s.size ∧ ii = .int .i64 (i : Nat) ∧ Hid (blt (sl s) (sl t) = blt ((sl s).drop i) ((sl t).drop i)) ∧ Hid (Below w.heap.size w wx)) (fun ii _ => s.size - (intOf ii).toNat)
    case atStart => exact ⟨0, by omega, rfl, by show _ = _; simp, Below.refl _ _⟩
    case round =>
      obtain ⟨i, hi, rfl, HI, HBw⟩ := hrel
      by_cases hlt : i < s.size
      · have g1 : (i : Int) < (s.size : Int) := by omega
        have hlt2 : i < t.size := by rw [← HH.out]; exact hlt
        have g2 : (i : Int) < (t.size : Int) := by omega
        have HD := hide (blt_drop (x := sl s) (y := sl t) (i := i) (by rw [HSL.out]; exact hlt) (by rw [HTL.out]; exact hlt2))
        rw [sl_at s i hlt, sl_at t i hlt2] at HD
        by_cases he : s[i].toNat = t[i].toNat
        · as_aux_lemma =>
          have g3 : ((s[i].toNat : Int) != (t[i].toNat : Int)) = false := by rw [nat_ne]; simp [he]
          rw [if_pos he] at HD
          have HI2 : Hid (blt (sl s) (sl t) = blt ((sl s).drop (i + 1)) ((sl t).drop (i + 1))) := HI.out.trans HD.out
          clear he HI HD
          go_wp2_with fail
          go_region
          go_wp2_with fail
          have HB2 : Hid (Below w.heap.size w wr.drew) := HBw.out.drew
          go_roundw
          case rel => exact ⟨i + 1, by omega, by go_num, HI2, HB2⟩
          case measure => simp [intOf]; omega
        · as_aux_lemma =>
          have g3 : ((s[i].toNat : Int) != (t[i].toNat : Int)) = true := by rw [nat_ne]; simp [he]
          rw [if_neg he] at HD
          have HI2 : Hid (bfr (sl s) (sl t) = decide (s[i].toNat < t[i].toNat)) := by
            show _ = _
            rw [HE.out, HI.out, HD.out]
          clear he HI HD
          go_wp2_with fail
          go_region
          go_wp2_with fail
          go_region
          go_wp2_with fail
          have HB2 : Hid (Below w.heap.size w wr.drew.drew) := HBw.out.drew.drew
          go_ret
          exact ⟨by rw [HI2.out]; rfl, HB2.out⟩
      · as_aux_lemma =>
        have g1 : ¬ (i : Int) < (s.size : Int) := by omega
        have HI2 : Hid (bfr (sl s) (sl t) = false) := by
          show _ = _
          rw [HE.out, HI.out]
          exact blt_end (.inl (by rw [HSL.out]; omega))
        go_wp2_with fail
        go_ret
        exact ⟨by rw [HI2.out]; rfl, HBw.out⟩
  · as_aux_lemma =>
    rw [if_neg h] at HE
    have g0 : ((s.size : Int) != (t.size : Int)) = true := by rw [nat_ne]; simp [h]
    clear h
    go_wp2_with fail
    go_ret
    exact ⟨by rw [HE.out]; rfl, Below.refl _ _⟩
end
section
open Go.RowKit Go
/-- The library's tables of UTF-8 lie as its text lays them. -/
def Tabs (w : World) : Prop := Lib.Utf8Tabs (Tryz.laysValid_ren.g 3) (Tryz.laysValid_ren.g 4) w
theorem Tabs.next {w w' : World} (h : Tabs w) (hb : Below w.heap.size w w') : Tabs w' := Utf8Tabs_below h hb
/-- No good UTF-8. -/
def badb (s : ByteArray) : Bool := !Lib.validD s.data.toList
end
section
open Go.RowKit Go
/-- Finite, by its bits. -/
def finb (b : Nat) : Bool := decide (b % 9223372036854775808 < 9218868437227405312)
theorem read_def (b : Nat) : Ieee.double.read b = (if b % 9223372036854775808 < 4503599627370496 then .number (b / 9223372036854775808 % 2 == 1) (b % 9223372036854775808) (-1074) else if b % 9223372036854775808 < 9218868437227405312 then .number (b / 9223372036854775808 % 2 == 1) (4503599627370496 + b % 9223372036854775808 % 4503599627370496) (-1074 + ((b % 9223372036854775808 / 4503599627370496 - 1 : Nat) : Int)) else if b % 9223372036854775808 = 9218868437227405312 then .infinity (b / 9223372036854775808 % 2 == 1) else .nan (b / 9223372036854775808 % 2 == 1) (b % 9223372036854775808 - 9218868437227405312)) := rfl
/-- A finite float's magnitude. -/
theorem read_fin {b : Nat} (h : b % 9223372036854775808 < 9218868437227405312) : ∃ m p, Ieee.double.read b = .number (b / 9223372036854775808 % 2 == 1) m p ∧ m ≤ 9007199254740991 ∧ p ≤ 971 := by
  rw [read_def]
  by_cases h1 : b % 9223372036854775808 < 4503599627370496
  · rw [if_pos h1]
    exact ⟨_, _, rfl, by omega, by omega⟩
  · rw [if_neg h1, if_pos h]
    exact ⟨_, _, rfl, by omega, by omega⟩
theorem ord_self (b : Nat) : (Ieee.double.order b b != some .eq) = decide (9218868437227405312 < b % 9223372036854775808) := by
  unfold Ieee.Format.order
  by_cases h : b % 9223372036854775808 < 9218868437227405312
  · obtain ⟨m, p, e, _, _⟩ := read_fin h
    rw [e, decide_eq_false (by omega)]
    simp [Ieee.Datum.order]
  · rw [read_def, if_neg (by omega), if_neg h]
    by_cases h2 : b % 9223372036854775808 = 9218868437227405312
    · rw [if_pos h2, decide_eq_false (by omega)]
      simp [Ieee.Datum.order]
    · rw [if_neg h2, decide_eq_true (by omega)]
      simp [Ieee.Datum.order]
theorem ord_max {b : Nat} (hb : b ≤ 9218868437227405312) : (Ieee.double.order b 9218868437227405311 == some .gt) = decide (b = 9218868437227405312) := by
  have hm : b % 9223372036854775808 = b := Nat.mod_eq_of_lt (by omega)
  have hd : b / 9223372036854775808 % 2 = 0 := by omega
  have e2 : Ieee.double.read 9218868437227405311 = .number false 9007199254740991 971 := by rfl
  unfold Ieee.Format.order
  rw [e2]
  by_cases h : b < 9218868437227405312
  · obtain ⟨m, p, e, hmm, hp⟩ := read_fin (b := b) (by omega)
    rw [e, decide_eq_false (by omega), hd]
    have hmin : min p (971 : Int) = p := by omega
    have hsh : m ≤ 9007199254740991 <<< (971 - p).toNat := by
      rw [Nat.shiftLeft_eq]
      exact Nat.le_trans hmm (Nat.le_mul_of_pos_right _ (Nat.two_pow_pos _))
    simp only [Ieee.Datum.order, hmin, Int.sub_self, Ieee.signed]
    generalize 9007199254740991 <<< (971 - p).toNat = K at *
    have h3 : compare ((m <<< (0 : Int).toNat : Nat) : Int) ((K : Nat) : Int) ≠ .gt := by
      intro hc
      have := Int.compare_eq_gt.1 hc
      simp at this
      omega
    simp at h3 ⊢
    exact h3
  · have e : b = 9218868437227405312 := by omega
    subst e
    rfl
set_option maxRecDepth 1000000 in
theorem frombits_any (b : Nat) (w : World) : (callFunc 135 #[.int .u64 (b : Nat)]).run Tryz.prog w = .ok (.value (.float .f64 b)) w := by
  rw [run_callFunc_extern Tryz.func135 (by kernel_rfl) (by kernel_rfl) (by kernel_rfl) (e := Extern.MathFloatBits.float64frombits) (by kernel_rfl)]
  rfl
set_option maxRecDepth 1000000 in
theorem tobits_any (b : Nat) (w : World) : (callFunc 182 #[.float .f64 b]).run Tryz.prog w = .ok (.value (.int .u64 (b : Nat))) w := by
  rw [run_callFunc_extern Tryz.func182 (by kernel_rfl) (by kernel_rfl) (by kernel_rfl) (e := Extern.MathFloatBits.float64bits) (by kernel_rfl)]
  rfl
set_option maxRecDepth 1000000 in
theorem isnan_any (b : Nat) (w : World) : Calls Tryz.prog 159 #[.float .f64 b] w fun e w' => e = .returned (.bool (decide (9218868437227405312 < b % 9223372036854775808))) ∧ w' = w := by
  have HE : Hid ((FloatKind.f64.format.order b b != some .eq) = decide (9218868437227405312 < b % 9223372036854775808)) := ord_self b
  go_enter Tryz.func159, Tryz.ntmps159
  go_wp2_with fail
  go_ret
  exact ⟨by rw [← HE.out]; rfl, rfl⟩
theorem andnot_top (b : Nat) (hb : b < 18446744073709551616) : bits .andNot .u64 (b : Int) 9223372036854775808 = ((b % 9223372036854775808 : Nat) : Int) := by
  have e1 : (BitVec.ofInt 64 (b : Int)).toNat = b := by
    simp
    omega
  have e2 : (~~~ (BitVec.ofInt 64 9223372036854775808)).toNat = 9223372036854775807 := by decide
  show IntKind.u64.wrap ((BitVec.ofInt 64 (b : Int) &&& ~~~ (BitVec.ofInt 64 9223372036854775808)).toNat : Nat) = _
  rw [BitVec.toNat_and, e1, e2, IntKind.wrap_u64]
  have e3 := Nat.and_two_pow_sub_one_eq_mod b 63
  rw [show (2 ^ 63 - 1 : Nat) = 9223372036854775807 from rfl, show (2 ^ 63 : Nat) = 9223372036854775808 from rfl] at e3
  rw [e3]
  omega
set_option maxRecDepth 1000000 in
theorem abs_any (b : Nat) (hb : b < 18446744073709551616) (w : World) : Calls Tryz.prog 176 #[.float .f64 b] w fun e w' => e = .returned (.float .f64 (b % 9223372036854775808)) ∧ w' = w := by
  have h1 := tobits_any b
  have h2 := frombits_any (b % 9223372036854775808)
  rw [← andnot_top b hb] at h2
  clear hb
  generalize b % 9223372036854775808 = m at *
  go_enter Tryz.func176, Tryz.ntmps176
  go_wp2_with fail
  go_ret
  exact ⟨rfl, rfl⟩
set_option maxRecDepth 1000000 in
theorem isinf_any (b : Nat) (hb : b < 18446744073709551616) (hn : b % 9223372036854775808 ≤ 9218868437227405312) (w : World) : Calls Tryz.prog 160 #[.float .f64 b, .int .i64 0] w fun e w' => e = .returned (.bool (decide (b % 9223372036854775808 = 9218868437227405312))) ∧ w' = w := by
  have HE : Hid ((FloatKind.f64.format.order (b % 9223372036854775808) 9218868437227405311 == some .gt) = decide (b % 9223372036854775808 = 9218868437227405312)) := ord_max hn
  have HA := hide (fun W => abs_any b hb W)
  clear hb hn
  generalize b % 9223372036854775808 = m at *
  go_enter Tryz.func160, Tryz.ntmps160
  go_wp2_with (go_at_call 176; refine (Hid.out HA _).mono ?_; rintro e w' ⟨rfl, rfl⟩)
  go_ret
  exact ⟨by rw [← HE.out]; rfl, rfl⟩
set_option maxRecDepth 1000000 in
theorem finite_any (b : Nat) (hb : b < 18446744073709551616) (w : World) : Calls Tryz.prog 134 #[.float .f64 b] w fun e w' => e = .returned (.bool (finb b)) ∧ w' = w := by
  have HN := hide (fun W => isnan_any b W)
  unfold finb
  by_cases h : 9218868437227405312 < b % 9223372036854775808
  · rw [decide_eq_false (by omega)]
    rw [decide_eq_true h] at HN
    clear h
    go_enter Tryz.func134, Tryz.ntmps134
    go_wp2_with (go_at_call 159; refine (Hid.out HN _).mono ?_; rintro e w' ⟨rfl, rfl⟩)
    go_ret
    exact ⟨rfl, rfl⟩
  · have HI := hide (fun W => isinf_any b hb (by omega) W)
    have HD : Hid (decide (b % 9223372036854775808 < 9218868437227405312) = !decide (b % 9223372036854775808 = 9218868437227405312)) := by
      show _ = _
      rw [Bool.eq_iff_iff]
      simp
      omega
    rw [decide_eq_false h] at HN
    rw [HD.out]
    clear h HD
    generalize decide (b % 9223372036854775808 = 9218868437227405312) = R at *
    go_enter Tryz.func134, Tryz.ntmps134
    go_wp2_with (first
      | (go_at_call 159; refine (Hid.out HN _).mono ?_; rintro e w' ⟨rfl, rfl⟩)
      | (go_at_call 160; refine (Hid.out HI _).mono ?_; rintro e w' ⟨rfl, rfl⟩))
    go_ret
    exact ⟨rfl, rfl⟩
end
section
open Go.RowKit Go
/-! ### Strict reading, plainly -/
/-- The bytes of a string behind its head. -/
def rbody (b : List Nat) : List Nat := if (hrd b).m = 2 ∨ (hrd b).m = 3 then (b.drop (hrd b).u).take (hrd b).n else []
/-- Is it one of MajorOther that trees have? -/
def rknown (h : HR) : Bool := decide (h.i = 20 ∨ h.i = 21 ∨ h.i = 22) || (decide (h.i = 27) && finb h.n)
def rmay (h : HR) (y : List Nat) : Bool := if h.m = 3 then !badb (nstr y) else if h.m = 6 then decide (h.n = 42) else if h.m = 7 then rknown h else true
/-- May it be what it is wanted as: plain 0, a key 1, a name 2? -/
def rfit (want : Nat) (h : HR) (y : List Nat) : Bool := if want = 1 then decide (h.m = 3) else if want = 2 then decide (h.m = 2 ∧ y.head? = some 0 ∧ (lparse y.tail).2 = 0) else true
/-- The item's fault by itself. -/
def rlook (want : Nat) (b : List Nat) : Nat :=
  if (hrd b).e = 20 then 82
  else if (hrd b).e ≠ 0 ∨ (hrd b).i = 31 then 83
  else if ((hrd b).m = 2 ∨ (hrd b).m = 3) ∧ b.length - (hrd b).u < (hrd b).n then 82
  else if rmay (hrd b) (rbody b) = false ∨ rfit want (hrd b) (rbody b) = false then 83
  else 0
def rnest (b : List Nat) : Bool := match b with | [] => false | x :: _ => decide (x / 32 = 4 ∨ x / 32 = 5)
/-- Does a key stand behind the one ahead of it? -/
def rrise (ks : List ByteArray) (s : ByteArray) : Bool := match ks.getLast? with | none => true | some k => bfr (sl k) (sl s)
/-- The fault at a place. -/
def rtake (want : Nat) (full : Bool) (ks : List ByteArray) (b : List Nat) : Nat :=
  if rnest b = true ∧ full = true then 81
  else if rlook want b ≠ 0 then rlook want b
  else if (hrd b).s = false ∨ (want = 1 ∧ rrise ks (nstr (rbody b)) = false) then 84
  else 0
def rused (b : List Nat) : Nat := (hrd b).u + (rbody b).length

theorem hrd_app {b tl : List Nat} (h : (hrd b).e ≠ 20) : hrd (b ++ tl) = hrd b ∧ (hrd b).u ≤ b.length := by
  cases b with
  | nil => exact absurd rfl h
  | cons x r =>
    by_cases h1 : 27 < x % 32
    · by_cases h2 : x % 32 = 31 ∧ x / 32 ≠ 0 ∧ x / 32 ≠ 1 ∧ x / 32 ≠ 6
      · rw [List.cons_append, hrd_end h2.1 h2.2, hrd_end h2.1 h2.2]
        exact ⟨rfl, by simp⟩
      · rw [List.cons_append, hrd_info h1 h2, hrd_info h1 h2]
        exact ⟨rfl, by simp [HR.bad]⟩
    · by_cases h2 : x % 32 < 24
      · rw [List.cons_append, hrd_small h2, hrd_small h2]
        exact ⟨rfl, by simp⟩
      · by_cases h3 : r.length < hwide (x % 32)
        · exact absurd (by rw [hrd_short (by omega) (by omega) h3]; rfl) h
        · have h3' : ¬ (r ++ tl).length < hwide (x % 32) := by rw [List.length_append]; omega
          have ht : (r ++ tl).take (hwide (x % 32)) = r.take (hwide (x % 32)) := List.take_append_of_le_length (by omega)
          by_cases h4 : x / 32 = 7 ∧ x % 32 = 24 ∧ bnum 0 (r.take (hwide (x % 32))) < 32
          · have e : ∀ q : List Nat, ¬ q.length < hwide (x % 32) → bnum 0 (q.take (hwide (x % 32))) < 32 → hrd (x :: q) = .bad 21 := fun q a1 a2 => hrd_low h4.2.1 a1 h4.1 a2
            rw [List.cons_append, e _ h3' (by rw [ht]; exact h4.2.2), e _ h3 h4.2.2]
            exact ⟨rfl, by simp [HR.bad]⟩
          · rw [List.cons_append, hrd_long (by omega) (by omega) h3' (by rw [ht]; exact h4), hrd_long (by omega) (by omega) h3 h4, ht]
            refine ⟨rfl, ?_⟩
            simp only [List.length_cons]
            omega
theorem rlook_app {want : Nat} {b tl : List Nat} (h : rlook want b ≠ 82) : rlook want (b ++ tl) = rlook want b ∧ (rlook want b = 0 → rbody (b ++ tl) = rbody b ∧ hrd (b ++ tl) = hrd b ∧ rused b ≤ b.length) := by
  by_cases h1 : (hrd b).e = 20
  · exact absurd (by unfold rlook; rw [if_pos h1]) h
  obtain ⟨e, hu⟩ := hrd_app (tl := tl) h1
  by_cases h2 : (hrd b).e ≠ 0 ∨ (hrd b).i = 31
  · have e1 : ∀ q : List Nat, hrd q = hrd b → rlook want q = 83 := fun q hq => by unfold rlook; rw [hq, if_neg h1, if_pos h2]
    rw [e1 _ e, e1 b rfl]
    exact ⟨rfl, fun h => by cases h⟩
  by_cases h3 : ((hrd b).m = 2 ∨ (hrd b).m = 3) ∧ b.length - (hrd b).u < (hrd b).n
  · exact absurd (by unfold rlook; rw [if_neg h1, if_neg h2, if_pos h3]) h
  have h3' : ¬ (((hrd b).m = 2 ∨ (hrd b).m = 3) ∧ (b ++ tl).length - (hrd b).u < (hrd b).n) := fun ⟨a1, a2⟩ => h3 ⟨a1, by rw [List.length_append] at a2; omega⟩
  have hb : rbody (b ++ tl) = rbody b := by
    unfold rbody
    rw [e]
    by_cases hm : (hrd b).m = 2 ∨ (hrd b).m = 3
    · rw [if_pos hm, if_pos hm, List.drop_append_of_le_length hu]
      refine List.take_append_of_le_length ?_
      rw [List.length_drop]
      have : ¬ b.length - (hrd b).u < (hrd b).n := fun h => h3 ⟨hm, h⟩
      omega
    · rw [if_neg hm, if_neg hm]
  have key : ∀ q : List Nat, hrd q = hrd b → rbody q = rbody b → ¬ (((hrd b).m = 2 ∨ (hrd b).m = 3) ∧ q.length - (hrd b).u < (hrd b).n) → rlook want q = if rmay (hrd b) (rbody b) = false ∨ rfit want (hrd b) (rbody b) = false then 83 else 0 := fun q a1 a2 a3 => by
    unfold rlook
    rw [a1, if_neg h1, if_neg h2, if_neg a3, a2]
  refine ⟨by rw [key _ e hb h3', key b rfl rfl h3], fun _ => ⟨hb, e, ?_⟩⟩
  unfold rused rbody
  by_cases hm : (hrd b).m = 2 ∨ (hrd b).m = 3
  · rw [if_pos hm, List.length_take, List.length_drop]
    omega
  · rw [if_neg hm]
    simpa using hu
theorem rlook_le {want : Nat} {b : List Nat} (h : rlook want b = 0) : rused b ≤ b.length := ((rlook_app (tl := []) (b := b) (want := want) (by rw [h]; decide)).2 h).2.2
theorem hrd_pos {b : List Nat} (h : (hrd b).e = 0) : 0 < (hrd b).u := by
  cases b with
  | nil => cases h
  | cons x r =>
    by_cases h1 : 27 < x % 32
    · by_cases h2 : x % 32 = 31 ∧ x / 32 ≠ 0 ∧ x / 32 ≠ 1 ∧ x / 32 ≠ 6
      · rw [hrd_end h2.1 h2.2]; exact Nat.one_pos
      · rw [hrd_info h1 h2] at h; cases h
    · by_cases h2 : x % 32 < 24
      · rw [hrd_small h2]; exact Nat.one_pos
      · by_cases h3 : r.length < hwide (x % 32)
        · rw [hrd_short (by omega) (by omega) h3] at h; cases h
        · by_cases h4 : x / 32 = 7 ∧ x % 32 = 24 ∧ bnum 0 (r.take (hwide (x % 32))) < 32
          · rw [hrd_low h4.2.1 h3 h4.1 h4.2.2] at h; cases h
          · rw [hrd_long (by omega) (by omega) h3 h4]
            show 0 < 1 + _
            omega
theorem rlook_pos {want : Nat} {b : List Nat} (h : rlook want b = 0) : 0 < rused b := by
  unfold rlook at h
  by_cases h1 : (hrd b).e = 20
  · rw [if_pos h1] at h; cases h
  rw [if_neg h1] at h
  by_cases h2 : (hrd b).e ≠ 0 ∨ (hrd b).i = 31
  · rw [if_pos h2] at h; cases h
  have := hrd_pos (b := b) (by
    rcases Nat.decEq (hrd b).e 0 with h3 | h3
    · exact absurd (.inl h3) h2
    · exact h3)
  unfold rused
  omega
end
section
open Go.RowKit Go
/-- A list or a map that is open: its kind, keys, items, how many are wanted. -/
structure Nst where
  k : Int
  ks : List ByteArray
  is : List Tv
  n : Nat
def Nst.val (x : Nst) : Tv := .mk x.k false false 0 0 ⟨#[]⟩ [] ⟨0, 0, 0, []⟩ x.ks x.is
def tz8 (k : Int) : Tv := .mk k false false 0 0 ⟨#[]⟩ [] ⟨0, 0, 0, []⟩ [] []
/-- The tree that an item is which has no items and no name. -/
def rleaf (h : HR) (y : List Nat) : Tv :=
  if h.m = 0 ∨ h.m = 1 then .mk 3 false (decide (h.m = 1)) h.n 0 ⟨#[]⟩ [] ⟨0, 0, 0, []⟩ [] []
  else if h.m = 2 then .mk 6 false false 0 0 ⟨#[]⟩ y ⟨0, 0, 0, []⟩ [] []
  else if h.m = 3 then .mk 5 false false 0 0 (nstr y) [] ⟨0, 0, 0, []⟩ [] []
  else if h.i = 27 then .mk 4 false false 0 h.n ⟨#[]⟩ [] ⟨0, 0, 0, []⟩ [] []
  else if h.i = 22 then tz8 1
  else .mk 2 (decide (h.i = 21)) false 0 0 ⟨#[]⟩ [] ⟨0, 0, 0, []⟩ [] []
/-- What is gone on with. -/
inductive Lab where
  | plain | name | done (v : Tv) | inside
structure Mst where
  lab : Lab
  p : Nat
  st : List Nst
/-- The answer: its code, its place, its tree. -/
structure Res where
  e : Nat
  p : Nat
  v : Tv
def mstep (b : List Nat) (d : Nat) (s : Mst) : Mst ⊕ Res :=
  match s.lab with
  | .plain =>
    if rtake 0 (decide (s.st.length = d)) [] (b.drop s.p) ≠ 0 then .inr ⟨rtake 0 (decide (s.st.length = d)) [] (b.drop s.p), s.p, tz8 0⟩
    else if (hrd (b.drop s.p)).m = 6 then .inl ⟨.name, s.p + rused (b.drop s.p), s.st⟩
    else if (hrd (b.drop s.p)).m = 4 then .inl ⟨.inside, s.p + rused (b.drop s.p), ⟨8, [], [], (hrd (b.drop s.p)).n⟩ :: s.st⟩
    else if (hrd (b.drop s.p)).m = 5 then .inl ⟨.inside, s.p + rused (b.drop s.p), ⟨9, [], [], (hrd (b.drop s.p)).n⟩ :: s.st⟩
    else .inl ⟨.done (rleaf (hrd (b.drop s.p)) (rbody (b.drop s.p))), s.p + rused (b.drop s.p), s.st⟩
  | .name =>
    if rtake 2 (decide (s.st.length = d)) [] (b.drop s.p) ≠ 0 then .inr ⟨rtake 2 (decide (s.st.length = d)) [] (b.drop s.p), s.p, tz8 0⟩
    else .inl ⟨.done (.mk 7 false false 0 0 ⟨#[]⟩ [] (lparse (rbody (b.drop s.p)).tail).1 [] []), s.p + rused (b.drop s.p), s.st⟩
  | .done v =>
    match s.st with
    | [] => .inr ⟨0, s.p, v⟩
    | x :: q => .inl ⟨.inside, s.p, ⟨x.k, x.ks, x.is ++ [v], x.n - 1⟩ :: q⟩
  | .inside =>
    match s.st with
    | [] => .inr ⟨0, s.p, tz8 0⟩
    | x :: q =>
      if x.n = 0 then .inl ⟨.done x.val, s.p, q⟩
      else if x.k = 8 then .inl ⟨.plain, s.p, s.st⟩
      else if rtake 1 (decide (s.st.length = d)) x.ks (b.drop s.p) ≠ 0 then .inr ⟨rtake 1 (decide (s.st.length = d)) x.ks (b.drop s.p), s.p, tz8 0⟩
      else .inl ⟨.plain, s.p + rused (b.drop s.p), ⟨x.k, x.ks ++ [nstr (rbody (b.drop s.p))], x.is, x.n⟩ :: q⟩
def mrun (b : List Nat) (d : Nat) : Nat → Mst → Option Res
  | 0, _ => none
  | n + 1, s => match mstep b d s with
    | .inl s' => mrun b d n s'
    | .inr r => some r
theorem mrun_next {b : List Nat} {d n : Nat} {s s' : Mst} (h : mstep b d s = .inl s') : mrun b d (n + 1) s = mrun b d n s' := by rw [mrun, h]
theorem rtake_look {want : Nat} {full : Bool} {ks : List ByteArray} {b : List Nat} (h : rtake want full ks b = 0) : rlook want b = 0 ∧ ¬ (rnest b = true ∧ full = true) := by
  unfold rtake at h
  by_cases h1 : rnest b = true ∧ full = true
  · rw [if_pos h1] at h; cases h
  rw [if_neg h1] at h
  by_cases h2 : rlook want b ≠ 0
  · rw [if_pos h2] at h; exact absurd h h2
  exact ⟨Decidable.not_not.1 h2, h1⟩
end
section
open Go.RowKit Go
theorem rlook_e {want : Nat} {b : List Nat} (h : rlook want b = 0) : (hrd b).e = 0 := by
  unfold rlook at h
  by_cases h1 : (hrd b).e = 20
  · rw [if_pos h1] at h; cases h
  rw [if_neg h1] at h
  by_cases h2 : (hrd b).e ≠ 0 ∨ (hrd b).i = 31
  · rw [if_pos h2] at h; cases h
  rcases Nat.decEq (hrd b).e 0 with h3 | h3
  · exact absurd (.inl h3) h2
  · exact h3
theorem hrd_m {x : Nat} {r : List Nat} (h : (hrd (x :: r)).e = 0) : (hrd (x :: r)).m = x / 32 := by
  by_cases h1 : 27 < x % 32
  · by_cases h2 : x % 32 = 31 ∧ x / 32 ≠ 0 ∧ x / 32 ≠ 1 ∧ x / 32 ≠ 6
    · rw [hrd_end h2.1 h2.2]
    · rw [hrd_info h1 h2] at h; cases h
  · by_cases h2 : x % 32 < 24
    · rw [hrd_small h2]
    · by_cases h3 : r.length < hwide (x % 32)
      · rw [hrd_short (by omega) (by omega) h3] at h; cases h
      · by_cases h4 : x / 32 = 7 ∧ x % 32 = 24 ∧ bnum 0 (r.take (hwide (x % 32))) < 32
        · rw [hrd_low h4.2.1 h3 h4.1 h4.2.2] at h; cases h
        · rw [hrd_long (by omega) (by omega) h3 h4]
theorem rnest_of {b : List Nat} (h : (hrd b).e = 0) (hm : (hrd b).m = 4 ∨ (hrd b).m = 5) : rnest b = true := by
  cases b with
  | nil => cases h
  | cons x r =>
    rw [hrd_m h] at hm
    exact decide_eq_true hm
theorem rtake_deep {want : Nat} {full full' : Bool} {ks : List ByteArray} {b : List Nat} (hf : full' = true → full = true) (h : rtake want full ks b ≠ 81) : rtake want full' ks b = rtake want full ks b := by
  have h1 : ¬ (rnest b = true ∧ full = true) := fun e => h (by unfold rtake; rw [if_pos e])
  have h2 : ¬ (rnest b = true ∧ full' = true) := fun e => h1 ⟨e.1, hf e.2⟩
  unfold rtake
  rw [if_neg h1, if_neg h2]
theorem mstep_deep {b : List Nat} {d d' : Nat} {s : Mst} (hs : s.st.length ≤ d) (hd : d ≤ d') : (∀ s', mstep b d s = .inl s' → mstep b d' s = .inl s' ∧ s'.st.length ≤ d) ∧ (∀ r, mstep b d s = .inr r → r.p = s.p ∧ (r.e ≠ 81 → mstep b d' s = .inr r)) := by
  obtain ⟨lab, p, st⟩ := s
  simp only at hs
  have hf : decide (st.length = d') = true → decide (st.length = d) = true := fun h => by
    rw [decide_eq_true_eq] at h ⊢
    omega
  have key : ∀ want ks, rtake want (decide (st.length = d)) ks (b.drop p) ≠ 81 → rtake want (decide (st.length = d')) ks (b.drop p) = rtake want (decide (st.length = d)) ks (b.drop p) := fun want ks h => rtake_deep hf h
  cases lab with
  | plain =>
    have k1 := key 0 []
    unfold mstep
    by_cases h0 : rtake 0 (decide (st.length = d)) [] (b.drop p) ≠ 0
    · simp only [if_pos h0]
      refine ⟨fun s' h => (by cases h), fun r h => ?_⟩
      injection h with h
      subst h
      exact ⟨rfl, fun he => by rw [k1 he, if_pos h0]⟩
    · have h1 : rtake 0 (decide (st.length = d)) [] (b.drop p) = 0 := Decidable.not_not.1 h0
      obtain ⟨hl, hn⟩ := rtake_look h1
      have hlt : (hrd (b.drop p)).m = 4 ∨ (hrd (b.drop p)).m = 5 → st.length + 1 ≤ d := fun hm => by
        have h2 := rnest_of (rlook_e hl) hm
        have h3 : ¬ st.length = d := fun e => hn ⟨h2, decide_eq_true e⟩
        omega
      simp only [if_neg h0, k1 (by rw [h1]; decide)]
      refine ⟨fun s' h => ⟨h, ?_⟩, fun r h => ?_⟩
      · revert h
        by_cases m6 : (hrd (b.drop p)).m = 6
        · rw [if_pos m6]; intro h; injection h with h; subst h; exact hs
        rw [if_neg m6]
        by_cases m4 : (hrd (b.drop p)).m = 4
        · rw [if_pos m4]; intro h; injection h with h; subst h; exact hlt (.inl m4)
        rw [if_neg m4]
        by_cases m5 : (hrd (b.drop p)).m = 5
        · rw [if_pos m5]; intro h; injection h with h; subst h; exact hlt (.inr m5)
        rw [if_neg m5]
        intro h; injection h with h; subst h; exact hs
      · revert h
        repeat' split
        all_goals (intro h; cases h)
  | name =>
    have k1 := key 2 []
    unfold mstep
    by_cases h0 : rtake 2 (decide (st.length = d)) [] (b.drop p) ≠ 0
    · simp only [if_pos h0]
      refine ⟨fun s' h => (by cases h), fun r h => ?_⟩
      injection h with h
      subst h
      exact ⟨rfl, fun he => by rw [k1 he, if_pos h0]⟩
    · have h1 : rtake 2 (decide (st.length = d)) [] (b.drop p) = 0 := Decidable.not_not.1 h0
      simp only [if_neg h0, k1 (by rw [h1]; decide)]
      refine ⟨fun s' h => ⟨h, ?_⟩, fun r h => by cases h⟩
      injection h with h
      subst h
      exact hs
  | done v =>
    cases st with
    | nil =>
      refine ⟨fun s' h => (by cases h), fun r h => ⟨?_, fun _ => h⟩⟩
      injection h with h
      subst h
      rfl
    | cons x q =>
      refine ⟨fun s' h => ⟨h, ?_⟩, fun r h => by cases h⟩
      injection h with h
      subst h
      exact hs
  | inside =>
    cases st with
    | nil =>
      refine ⟨fun s' h => (by cases h), fun r h => ⟨?_, fun _ => h⟩⟩
      injection h with h
      subst h
      rfl
    | cons x q =>
      have k1 := key 1 x.ks
      unfold mstep
      dsimp only
      by_cases hn : x.n = 0
      · rw [if_pos hn, if_pos hn]
        refine ⟨fun s' h => ⟨h, ?_⟩, fun r h => by cases h⟩
        injection h with h
        subst h
        exact Nat.le_of_succ_le hs
      rw [if_neg hn, if_neg hn]
      by_cases h8 : x.k = 8
      · rw [if_pos h8, if_pos h8]
        refine ⟨fun s' h => ⟨h, ?_⟩, fun r h => by cases h⟩
        injection h with h
        subst h
        exact hs
      rw [if_neg h8, if_neg h8]
      by_cases h0 : rtake 1 (decide ((x :: q).length = d)) x.ks (b.drop p) ≠ 0
      · rw [if_pos h0]
        refine ⟨fun s' h => (by cases h), fun r h => ?_⟩
        injection h with h
        subst h
        exact ⟨rfl, fun he => by rw [k1 he, if_pos h0]⟩
      · have h1 : rtake 1 (decide ((x :: q).length = d)) x.ks (b.drop p) = 0 := Decidable.not_not.1 h0
        rw [if_neg h0, k1 (by rw [h1]; decide), if_neg h0]
        refine ⟨fun s' h => ⟨h, ?_⟩, fun r h => by cases h⟩
        injection h with h
        subst h
        exact hs
/-- Where reading begins. -/
def m0 : Mst := ⟨.plain, 0, []⟩
end
section
open Go.RowKit Go
/-! ### A scope with several labels -/
/-! ### How far the machine goes -/
def mlw : Lab → Nat
  | .plain => 0
  | .name => 0
  | .done _ => 2
  | .inside => 1
/-- How far it still is at most. -/
def mmu (b : List Nat) (s : Mst) : Nat := 4 * (b.length - s.p) + 2 * s.st.length + mlw s.lab
/-- What holds wherever it stands. -/
structure Inv8 (b : List Nat) (d : Nat) (s : Mst) : Prop where
  p : s.p ≤ b.length
  d : s.st.length ≤ d
  k : ∀ x ∈ s.st, x.ks.length ≤ s.p ∧ x.n < 18446744073709551616 ∧ (x.k = 8 ∨ x.k = 9)
  t : ∀ x ∈ s.st.tail, x.is.length + 1 ≤ s.p ∧ 0 < x.n
  h : ∀ x, s.st.head? = some x → x.is.length ≤ s.p ∧ (s.lab = .inside ∨ 0 < x.n)
  o : ∀ v, s.lab = .done v → ∀ x, s.st.head? = some x → x.is.length + 1 ≤ s.p
  i : s.lab = .inside → s.st ≠ []
theorem Inv8.step {b : List Nat} {d : Nat} {s s' : Mst} (hb : ∀ p, (hrd (b.drop p)).n < 18446744073709551616) (h : Inv8 b d s) (hs : mstep b d s = .inl s') : Inv8 b d s' ∧ mmu b s' < mmu b s := by
  have hd' := ((mstep_deep (b := b) h.d (Nat.le_refl d)).1 s' hs).2
  obtain ⟨lab, p, st⟩ := s
  obtain ⟨ip, id, ik, it, ih, io, ii⟩ := h
  simp only at ip id ik it ih io ii
  have key : ∀ want full ks, rtake want full ks (b.drop p) = 0 → 0 < rused (b.drop p) ∧ p + rused (b.drop p) ≤ b.length := fun want full ks h1 => by
    obtain ⟨hl, -⟩ := rtake_look h1
    have h2 := rlook_pos hl
    have h3 := rlook_le hl
    rw [List.length_drop] at h3
    exact ⟨h2, by omega⟩
  have hbp := hb p
  cases lab with
  | plain =>
    unfold mstep at hs
    dsimp only at hs
    by_cases h0 : rtake 0 (decide (st.length = d)) [] (b.drop p) ≠ 0
    · rw [if_pos h0] at hs; cases hs
    rw [if_neg h0] at hs
    obtain ⟨u1, u2⟩ := key _ _ _ (Decidable.not_not.1 h0)
    have hall : ∀ x ∈ st, x.is.length + 1 ≤ p + rused (b.drop p) ∧ 0 < x.n := fun x hx => by
      cases st with
      | nil => cases hx
      | cons y q =>
        rcases List.mem_cons.1 hx with e | e
        · subst e
          have h1 := ih x rfl
          rcases h1.2 with h2 | h2
          · cases h2
          · exact ⟨by omega, h2⟩
        · have h1 := it x e
          exact ⟨by omega, h1.2⟩
    have hks : ∀ x ∈ st, x.ks.length ≤ p + rused (b.drop p) ∧ x.n < 18446744073709551616 ∧ (x.k = 8 ∨ x.k = 9) := fun x hx => by
      have h1 := ik x hx
      exact ⟨by omega, h1.2⟩
    by_cases m6 : (hrd (b.drop p)).m = 6
    · rw [if_pos m6] at hs
      injection hs with hs
      subst hs
      refine ⟨⟨u2, hd', hks, fun x hx => hall x (List.mem_of_mem_tail hx), fun x hx => ?_, fun v h => (by cases h), fun h => by cases h⟩, by simp only [mmu, mlw]; omega⟩
      have h1 := hall x (List.mem_of_mem_head? hx)
      exact ⟨by simp only; omega, .inr h1.2⟩
    rw [if_neg m6] at hs
    by_cases m4 : (hrd (b.drop p)).m = 4
    · rw [if_pos m4] at hs
      injection hs with hs
      subst hs
      refine ⟨⟨u2, hd', fun x hx => ?_, hall, fun x hx => ?_, fun v h => (by cases h), fun _ => by simp⟩, by simp only [mmu, mlw, List.length_cons]; omega⟩
      · rcases List.mem_cons.1 hx with e | e
        · subst e
          exact ⟨Nat.zero_le _, hbp, .inl rfl⟩
        · exact hks x e
      · injection hx with hx
        subst hx
        exact ⟨Nat.zero_le _, .inl rfl⟩
    rw [if_neg m4] at hs
    by_cases m5 : (hrd (b.drop p)).m = 5
    · rw [if_pos m5] at hs
      injection hs with hs
      subst hs
      refine ⟨⟨u2, hd', fun x hx => ?_, hall, fun x hx => ?_, fun v h => (by cases h), fun _ => by simp⟩, by simp only [mmu, mlw, List.length_cons]; omega⟩
      · rcases List.mem_cons.1 hx with e | e
        · subst e
          exact ⟨Nat.zero_le _, hbp, .inr rfl⟩
        · exact hks x e
      · injection hx with hx
        subst hx
        exact ⟨Nat.zero_le _, .inl rfl⟩
    rw [if_neg m5] at hs
    injection hs with hs
    subst hs
    refine ⟨⟨u2, hd', hks, fun x hx => hall x (List.mem_of_mem_tail hx), fun x hx => ?_, fun v h x hx => (hall x (List.mem_of_mem_head? hx)).1, fun h => by cases h⟩, by simp only [mmu, mlw]; omega⟩
    have h1 := hall x (List.mem_of_mem_head? hx)
    exact ⟨by simp only; omega, .inr h1.2⟩
  | name =>
    unfold mstep at hs
    dsimp only at hs
    by_cases h0 : rtake 2 (decide (st.length = d)) [] (b.drop p) ≠ 0
    · rw [if_pos h0] at hs; cases hs
    rw [if_neg h0] at hs
    obtain ⟨u1, u2⟩ := key _ _ _ (Decidable.not_not.1 h0)
    have hall : ∀ x ∈ st, x.is.length + 1 ≤ p + rused (b.drop p) ∧ 0 < x.n := fun x hx => by
      cases st with
      | nil => cases hx
      | cons y q =>
        rcases List.mem_cons.1 hx with e | e
        · subst e
          have h1 := ih x rfl
          rcases h1.2 with h2 | h2
          · cases h2
          · exact ⟨by omega, h2⟩
        · have h1 := it x e
          exact ⟨by omega, h1.2⟩
    injection hs with hs
    subst hs
    refine ⟨⟨u2, hd', fun x hx => ?_, fun x hx => hall x (List.mem_of_mem_tail hx), fun x hx => ?_, fun v h x hx => (hall x (List.mem_of_mem_head? hx)).1, fun h => by cases h⟩, by simp only [mmu, mlw]; omega⟩
    · have h1 := ik x hx
      exact ⟨by simp only; omega, h1.2⟩
    · have h1 := hall x (List.mem_of_mem_head? hx)
      exact ⟨by simp only; omega, .inr h1.2⟩
  | done v =>
    cases st with
    | nil => cases hs
    | cons y q =>
      injection hs with hs
      subst hs
      have h1 := io v rfl y rfl
      have h2 := ik y (List.mem_cons_self ..)
      refine ⟨⟨ip, hd', fun x hx => ?_, it, fun x hx => ?_, fun v h => (by cases h), fun _ => by simp⟩, by simp only [mmu, mlw, List.length_cons]; omega⟩
      · rcases List.mem_cons.1 hx with e | e
        · subst e
          exact ⟨h2.1, by simp only; omega, h2.2.2⟩
        · exact ik x (List.mem_cons_of_mem _ e)
      · injection hx with hx
        subst hx
        exact ⟨by simp only [List.length_append, List.length_singleton]; omega, .inl rfl⟩
  | inside =>
    cases st with
    | nil => cases hs
    | cons y q =>
      unfold mstep at hs
      dsimp only at hs
      by_cases hn : y.n = 0
      · rw [if_pos hn] at hs
        injection hs with hs
        subst hs
        refine ⟨⟨ip, hd', fun x hx => ik x (List.mem_cons_of_mem _ hx), fun x hx => it x (List.mem_of_mem_tail hx), fun x hx => ?_, fun v h x hx => (it x (List.mem_of_mem_head? hx)).1, fun h => by cases h⟩, by simp only [mmu, mlw, List.length_cons]; omega⟩
        have h1 := it x (List.mem_of_mem_head? hx)
        exact ⟨by simp only; omega, .inr h1.2⟩
      rw [if_neg hn] at hs
      by_cases h8 : y.k = 8
      · rw [if_pos h8] at hs
        injection hs with hs
        subst hs
        refine ⟨⟨ip, hd', ik, it, fun x hx => ?_, fun v h => (by cases h), fun h => by cases h⟩, by simp only [mmu, mlw, List.length_cons]; omega⟩
        have h1 := ih x hx
        injection hx with hx
        subst hx
        exact ⟨h1.1, .inr (Nat.pos_of_ne_zero hn)⟩
      rw [if_neg h8] at hs
      by_cases h0 : rtake 1 (decide ((y :: q).length = d)) y.ks (b.drop p) ≠ 0
      · rw [if_pos h0] at hs; cases hs
      rw [if_neg h0] at hs
      obtain ⟨u1, u2⟩ := key _ _ _ (Decidable.not_not.1 h0)
      injection hs with hs
      subst hs
      have h2 := ik y (List.mem_cons_self ..)
      refine ⟨⟨u2, hd', fun x hx => ?_, fun x hx => ?_, fun x hx => ?_, fun v h => (by cases h), fun h => by cases h⟩, by simp only [mmu, mlw, List.length_cons]; omega⟩
      · rcases List.mem_cons.1 hx with e | e
        · subst e
          exact ⟨by simp only [List.length_append, List.length_singleton]; omega, h2.2⟩
        · have h1 := ik x (List.mem_cons_of_mem _ e)
          exact ⟨by simp only; omega, h1.2⟩
      · have h1 := it x hx
        exact ⟨by simp only; omega, h1.2⟩
      · have h1 := ih y rfl
        injection hx with hx
        subst hx
        exact ⟨by simp only; omega, .inr (Nat.pos_of_ne_zero hn)⟩
end
section
open Go.RowKit Go
/-! A value's errors, plainly (cut out of Xd6, Xe6, Xf6: hangs on no sort). -/
/-- A value whose kind's own fields are made zero. -/
def Tv.zr (t : Tv) : Tv :=
  if t.k = 2 then .mk t.k false t.g t.n t.b t.s t.y t.l t.ks t.is
  else if t.k = 3 then .mk t.k t.f false 0 t.b t.s t.y t.l t.ks t.is
  else if t.k = 4 then .mk t.k t.f t.g t.n 0 t.s t.y t.l t.ks t.is
  else if t.k = 5 then .mk t.k t.f t.g t.n t.b ⟨#[]⟩ t.y t.l t.ks t.is
  else if t.k = 6 then .mk t.k t.f t.g t.n t.b t.s [] t.l t.ks t.is
  else if t.k = 7 then .mk t.k t.f t.g t.n t.b t.s t.y ⟨0, 0, 0, []⟩ t.ks t.is
  else if t.k = 8 then .mk t.k t.f t.g t.n t.b t.s t.y t.l t.ks []
  else if t.k = 9 then .mk t.k t.f t.g t.n t.b t.s t.y t.l [] []
  else t
/-- All fields but the kind are zero. -/
def Tv.cl (t : Tv) : Bool := !t.f && (!t.g && (decide (t.n = 0) && (decide (t.b = 0) && (decide (t.s = ⟨#[]⟩) && (decide (t.l = ⟨0, 0, 0, []⟩) && (decide (t.y = []) && (decide (t.ks = []) && t.is.isEmpty)))))))
def tidyf (t : Tv) : Bool := decide (1 ≤ t.k ∧ t.k ≤ 9) && t.zr.cl
/-- The error of a value by itself, so many lists and maps about it. -/
def onef (t : Tv) (a : Nat) : Nat :=
  if (t.k = 8 ∨ t.k = 9) ∧ 1024 ≤ a then 60
  else if tidyf t = false then 61
  else if finb t.b = false then 62
  else if (badb t.s || t.ks.any badb) = true then 63
  else if t.k = 7 ∧ ¬ lok t.l then 64
  else if t.k = 9 ∧ ¬ (t.ks.length = t.is.length ∧ t.ks.Nodup) then 65
  else 0
mutual
/-- The first error in a value that stands in so many lists and maps. -/
def chkf : Tv → Nat → Nat
  | .mk k f g n b s y l ks is, a => if onef (.mk k f g n b s y l ks is) a = 0 then chkL is (a + 1) else onef (.mk k f g n b s y l ks is) a
def chkL : List Tv → Nat → Nat
  | [], _ => 0
  | t :: r, a => if chkf t a = 0 then chkL r a else chkf t a
end
theorem chkf_eq (t : Tv) (a : Nat) : chkf t a = if onef t a = 0 then chkL t.is (a + 1) else onef t a := by
  obtain ⟨k, f, g, n, b, s, y, l, ks, is⟩ := t
  rw [chkf]
  rfl
theorem chkL_none : ∀ {l : List Tv} {a : Nat}, (∀ u ∈ l, chkf u a = 0) → chkL l a = 0
  | [], _, _ => by rw [chkL]
  | t :: r, a, h => by
    rw [chkL, if_pos (h t (List.mem_cons_self ..))]
    exact chkL_none (fun u hu => h u (List.mem_cons_of_mem _ hu))
theorem chkL_at : ∀ {l : List Tv} {a i : Nat} {u : Tv}, (∀ j v, j < i → l[j]? = some v → chkf v a = 0) → l[i]? = some u → chkf u a ≠ 0 → chkL l a = chkf u a
  | [], _, _, _, _, h, _ => by simp at h
  | t :: r, a, 0, u, _, h, hn => by
    simp at h
    subst h
    rw [chkL, if_neg hn]
  | t :: r, a, i + 1, u, h0, h, hn => by
    rw [chkL, if_pos (h0 0 t (by omega) rfl)]
    exact chkL_at (i := i) (fun j v hj hv => h0 (j + 1) v (by omega) (by simpa using hv)) (by simpa using h) hn
end
end Go.Proofs.YtjlknnpgngaooaaGreatDoor
