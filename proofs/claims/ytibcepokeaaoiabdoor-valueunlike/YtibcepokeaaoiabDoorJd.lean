import Derived.Test.YtibcepokeaaoiabDoorJc
import Derived.Laws.CopyRow
import Derived.Laws.ResultCell
namespace Go.Proofs.YtibcepokeaaoiabDoor
section
open Go.RowKit Go
theorem dread_fit {xs : List Nat} {hn u n m : Nat} (h : dnum xs = (hn, u, 0)) (h2 : dnum (xs.drop u) = (n, m, 0)) :
    (dfit hn n ≠ 0 → dread xs = (0, [], 0, dfit hn n)) ∧ (dfit hn n = 0 → (xs.length - (u + m) < n → dread xs = (0, [], 0, 32)) ∧ (¬ xs.length - (u + m) < n → dread xs = (hn, (xs.drop (u + m)).take n, u + m + n, 0))) := by
  have K := (dread_rest h).2 n m h2
  unfold dfit
  by_cases h1 : hn ≠ 18 ∧ hn ≠ 0
  · rw [if_pos h1]
    exact ⟨fun _ => K.1 h1, fun h => by cases h⟩
  · rw [if_neg h1]
    have K2 := K.2 h1
    by_cases h3 : (hn = 18 ∧ n ≠ 32) ∨ (hn = 0 ∧ 64 < n)
    · rw [if_pos h3]
      exact ⟨fun _ => K2.1 h3, fun h => by cases h⟩
    · rw [if_neg h3]
      exact ⟨fun h => absurd rfl h, fun _ => K2.2 h3⟩
end
section
open Go.RowKit Go
/-! ### What is laid is read; what is read is laid -/
theorem dnum_small {n : Nat} (h : n < 128) (r : List Nat) : dnum (n :: r) = (n, 1, 0) := by
  have e : rd 0 0 (n :: r) = (n, 1, 0) := by
    rw [rd]
    have h1 : ¬ 128 ≤ n := by omega
    simp [h1]
    omega
  unfold dnum
  rw [e]
  rfl
theorem dread_laid {h : Nat} {d ms : List Nat} (hk : (h = 18 ∧ d.length = 32) ∨ (h = 0 ∧ d.length ≤ 64)) : dread (h :: d.length :: d ++ ms) = (h, d, 2 + d.length, 0) := by
  have e1 : dnum (h :: d.length :: d ++ ms) = (h, 1, 0) := dnum_small (by omega) _
  have e2 : dnum ((h :: d.length :: d ++ ms).drop 1) = (d.length, 1, 0) := dnum_small (by omega) _
  have f : dfit h d.length = 0 := by
    unfold dfit
    rw [if_neg (by omega), if_neg (by omega)]
  have K := ((dread_fit e1 e2).2 f).2 (by simp)
  rw [K]
  simp
theorem dread_cut {h : Nat} {d : List Nat} (hk : (h = 18 ∧ d.length = 32) ∨ (h = 0 ∧ d.length ≤ 64)) (k : Nat) (hlt : k < 2 + d.length) : dread ((h :: d.length :: d).take k) = (0, [], 0, 32) := by
  match k, hlt with
  | 0, _ =>
    have e : (dnum ([] : List Nat)).2.2 ≠ 0 := by rw [dnum_nil]; decide
    have := dread_one e
    rw [dnum_nil] at this
    simpa using this
  | 1, _ =>
    have e1 : dnum [h] = (h, 1, 0) := dnum_small (by omega) _
    have e2 : (dnum ([h].drop 1)).2.2 ≠ 0 := by simp [dnum_nil]
    have := (dread_rest e1).1 e2
    simpa [dnum_nil] using this
  | k + 2, hlt =>
    have e0 : (h :: d.length :: d).take (k + 2) = h :: d.length :: d.take k := rfl
    rw [e0]
    have e1 : dnum (h :: d.length :: d.take k) = (h, 1, 0) := dnum_small (by omega) _
    have e2 : dnum ((h :: d.length :: d.take k).drop 1) = (d.length, 1, 0) := dnum_small (by omega) _
    have f : dfit h d.length = 0 := by
      unfold dfit
      rw [if_neg (by omega), if_neg (by omega)]
    exact ((dread_fit e1 e2).2 f).1 (by simp; omega)
theorem rd_small : ∀ (xs : List Nat) (k m : Nat), 1 ≤ k → (rd k m xs).2.2 = 0 → 128 ^ k ≤ (rd k m xs).1
  | [], k, m, _, h => by
    rw [rd] at h
    split at h <;> simp at h
  | x :: r, k, m, hk, h => by
    rw [rd] at h ⊢
    by_cases h9 : k = 9
    · rw [if_pos h9] at h; simp at h
    · rw [if_neg h9] at h ⊢
      by_cases h1 : 128 ≤ x
      · rw [if_pos h1] at h ⊢
        have := rd_small r (k + 1) _ (by omega) h
        have e : 128 ^ (k + 1) = 128 * 128 ^ k := by rw [Nat.pow_succ, Nat.mul_comm]
        have hp : 0 < 128 ^ k := Nat.pow_pos (by decide)
        omega
      · rw [if_neg h1] at h ⊢
        by_cases h0 : x = 0 ∧ 0 < k
        · rw [if_pos h0] at h; simp at h
        · rw [if_neg h0]
          simp only
          have hx : 1 ≤ x % 128 := by omega
          have : 1 * 128 ^ k ≤ x % 128 * 128 ^ k := Nat.mul_le_mul_right _ hx
          omega
theorem dnum_form {xs : List Nat} {n u : Nat} (h : dnum xs = (n, u, 0)) (hn : n < 128) : u = 1 ∧ ∃ r, xs = n :: r := by
  have h0 : (rd 0 0 xs).2.2 = 0 := by
    by_cases e : (rd 0 0 xs).2.2 = 0
    · exact e
    · unfold dnum at h
      rw [if_neg e] at h
      injection h with _ h
      injection h with _ h
      split at h <;> cases h
  have hr : rd 0 0 xs = (n, u, 0) := by
    unfold dnum at h
    rw [if_pos h0] at h
    exact h
  cases xs with
  | nil => rw [rd] at hr; simp at hr
  | cons x r =>
    rw [rd] at hr
    simp only [if_neg (show ¬ (0 : Nat) = 9 by decide)] at hr
    by_cases h1 : 128 ≤ x
    · rw [if_pos h1] at hr
      have h2 := rd_small r 1 (0 + x % 128 * 128 ^ 0) (by omega) (by rw [hr])
      rw [hr] at h2
      simp at h2
      omega
    · rw [if_neg h1, if_neg (by omega)] at hr
      injection hr with e1 e2
      injection e2 with e2 _
      simp at e1
      refine ⟨e2.symm, r, ?_⟩
      rw [← e1, Nat.mod_eq_of_lt (by omega)]
theorem dread_back {xs : List Nat} (h : (dread xs).2.2.2 = 0) : (dread xs).2.2.1 ≤ xs.length ∧ dlay (dread xs).1 (dread xs).2.1 = (xs.take (dread xs).2.2.1, 0) ∧ (dread xs).1 < 128 := by
  by_cases h1 : (dnum xs).2.2 = 0
  · obtain ⟨hn, u, re, hR⟩ : ∃ hn u re, dnum xs = (hn, u, re) := ⟨_, _, _, rfl⟩
    rw [hR] at h1
    simp only at h1
    subst h1
    by_cases h2 : (dnum (xs.drop u)).2.2 = 0
    · obtain ⟨n, m, qe, hQ⟩ : ∃ n m qe, dnum (xs.drop u) = (n, m, qe) := ⟨_, _, _, rfl⟩
      rw [hQ] at h2
      simp only at h2
      subst h2
      have K := dread_fit hR hQ
      by_cases hf : dfit hn n = 0
      · have hk := dfit_ok hf
        have K2 := K.2 hf
        by_cases hs : xs.length - (u + m) < n
        · rw [K2.1 hs] at h; cases h
        · have E := K2.2 hs
          obtain ⟨hu, r, hx⟩ := dnum_form hR (by omega)
          subst hu
          subst hx
          have hQ' : dnum r = (n, m, 0) := hQ
          obtain ⟨hm, r2, hr⟩ := dnum_form hQ' (by omega)
          subst hm
          subst hr
          rw [E]
          have hlen : n ≤ r2.length := by simp at hs; omega
          have e : ((hn :: n :: r2).drop (1 + 1)).take n = r2.take n := rfl
          have et : (hn :: n :: r2).take (1 + 1 + n) = hn :: n :: r2.take n := by
            have : 1 + 1 + n = n + 1 + 1 := by omega
            rw [this]
            rfl
          refine ⟨by simp; omega, ?_, by simp only; omega⟩
          simp only
          rw [e, et, dlay_fit]
          have el : (r2.take n).length = n := by simp; omega
          rw [el, if_pos hf]
      · rw [K.1 hf] at h; exact absurd h hf
    · rw [(dread_rest hR).1 h2] at h; exact absurd h h2
  · rw [dread_one h1] at h; exact absurd h h1
theorem dlay_ok {h : Nat} {d : List Nat} (hk : (h = 18 ∧ d.length = 32) ∨ (h = 0 ∧ d.length ≤ 64)) : dlay h d = (h :: d.length :: d, 0) := by
  unfold dlay
  rw [if_neg (by omega), if_neg (by omega)]
theorem dlay_long {d : List Nat} (hd : 64 < d.length) : dlay 0 d = ([], 31) := by
  unfold dlay
  rw [if_neg (by omega), if_pos (by omega)]
end
section
open Go.RowKit Go
/-- What is laid is read. -/
theorem rd_digs : ∀ (f n k m : Nat) (r : List Nat), k + f = 9 → n < 128 ^ f → (k = 0 ∨ 0 < n) → rd k m (digs f n ++ r) = (m + n * 128 ^ k, k + (digs f n).length, 0)
  | 0, n, k, m, r, hk, hn, h0 => by
    simp at hn
    omega
  | f + 1, n, k, m, r, hk, hn, h0 => by
    by_cases h : n < 128
    · rw [digs_small h]
      simp only [List.cons_append, List.nil_append, List.length_singleton]
      unfold rd
      rw [if_neg (by omega), if_neg (by omega), if_neg (by omega), Nat.mod_eq_of_lt h]
    · have hge : 128 ≤ n := by omega
      rw [digs_big hge, List.cons_append]
      unfold rd
      rw [if_neg (by omega), if_pos (by omega), rd_digs f (n / 128) (k + 1) _ r (by omega) (by rw [Nat.pow_succ] at hn; exact Nat.div_lt_of_lt_mul (by omega)) (.inr (Nat.div_pos hge (by decide)))]
      have e1 : (n % 128 + 128) % 128 = n % 128 := by omega
      have e2 : n % 128 * 128 ^ k + n / 128 * 128 ^ (k + 1) = n * 128 ^ k := by
        rw [Nat.pow_succ, Nat.mul_comm (128 ^ k) 128, ← Nat.mul_assoc, ← Nat.add_mul]
        congr 1
        omega
      rw [e1, List.length_cons, Nat.add_assoc, e2]
      congr 2
      omega
/-- What is read was laid so. -/
theorem rd_back : ∀ (xs : List Nat) (f k m v u : Nat), k + f = 9 → (∀ x ∈ xs, x < 256) → rd k m xs = (v, u, 0) → ∃ n, v = m + n * 128 ^ k ∧ n < 128 ^ f ∧ (0 < k → 0 < n) ∧ k ≤ u ∧ u - k ≤ xs.length ∧ digs f n = xs.take (u - k)
  | [], f, k, m, v, u, hk, _, h => by
    unfold rd at h
    split at h <;> simp at h
  | x :: r, f, k, m, v, u, hk, hb, h => by
    have hx := hb x (by simp)
    unfold rd at h
    split at h
    · simp at h
    · rename_i h9
      obtain ⟨g, rfl⟩ : ∃ g, f = g + 1 := ⟨f - 1, by omega⟩
      split at h
      · rename_i h128
        obtain ⟨n, hv, hn, hp, hu, hl, hd⟩ := rd_back r g (k + 1) _ v u (by omega) (fun y hy => hb y (List.mem_cons_of_mem _ hy)) h
        have hp := hp (by omega)
        refine ⟨x % 128 + n * 128, ?_, ?_, fun _ => by omega, by omega, by simp; omega, ?_⟩
        · rw [hv, Nat.pow_succ, Nat.add_mul, Nat.add_assoc]
          congr 2
          rw [Nat.mul_comm (128 ^ k) 128, Nat.mul_assoc]
        · rw [Nat.pow_succ]
          have : (n + 1) * 128 ≤ 128 ^ g * 128 := Nat.mul_le_mul_right _ hn
          omega
        · rw [digs_big (by omega)]
          have e1 : (x % 128 + n * 128) % 128 + 128 = x := by omega
          have e2 : (x % 128 + n * 128) / 128 = n := by omega
          rw [e1, e2, hd]
          have e3 : u - k = u - (k + 1) + 1 := by omega
          rw [e3, List.take_succ_cons]
      · split at h
        · simp at h
        · rename_i h128 hz
          simp only [Prod.mk.injEq] at h
          refine ⟨x, ?_, ?_, fun hk0 => by omega, by omega, by simp; omega, ?_⟩
          · rw [← h.1, Nat.mod_eq_of_lt (by omega)]
          · rw [Nat.pow_succ]
            have : 1 ≤ 128 ^ g := Nat.pow_pos (by decide)
            omega
          · rw [digs_small (by omega)]
            have e3 : u - k = 1 := by omega
            rw [e3]
            simp
theorem dnum_digs {n : Nat} (h : n < 9223372036854775808) (r : List Nat) : dnum (digs 9 n ++ r) = (n, (digs 9 n).length, 0) := by
  have e := rd_digs 9 n 0 0 r rfl (by have : (128 : Nat) ^ 9 = 9223372036854775808 := by decide
                                      omega) (.inl rfl)
  rw [Nat.pow_zero, Nat.mul_one, Nat.zero_add, Nat.zero_add] at e
  unfold dnum
  rw [e]
  simp
theorem dnum_back {xs : List Nat} {n u : Nat} (hb : ∀ x ∈ xs, x < 256) (h : dnum xs = (n, u, 0)) : n < 9223372036854775808 ∧ u ≤ xs.length ∧ digs 9 n = xs.take u := by
  unfold dnum at h
  split at h
  · obtain ⟨m, hv, hm, _, _, hl, hd⟩ := rd_back xs 9 0 0 n u rfl hb h
    have e : (128 : Nat) ^ 9 = 9223372036854775808 := by decide
    rw [Nat.pow_zero, Nat.mul_one, Nat.zero_add] at hv
    subst hv
    exact ⟨by omega, by omega, by simpa using hd⟩
  · simp only [Prod.mk.injEq] at h
    have := h.2.2
    split at this <;> omega

/-- A link. -/
structure Lk where
  v : Int
  c : Nat
  h : Nat
  d : List Nat
def Lk.none : Lk := ⟨0, 0, 0, []⟩
/-- A digest that its hash may have. -/
def okd (h : Nat) (d : List Nat) : Prop := (h = 18 ∧ d.length = 32) ∨ (h = 0 ∧ d.length ≤ 64)
instance (h : Nat) (d : List Nat) : Decidable (okd h d) := inferInstanceAs (Decidable (_ ∨ _))
/-- A link that may be. -/
def lok (l : Lk) : Prop := (l.v = 0 ∧ l.c = 112 ∧ l.h = 18 ∧ l.d.length = 32) ∨ (l.v = 1 ∧ l.c < 9223372036854775808 ∧ okd l.h l.d)
instance (l : Lk) : Decidable (lok l) := inferInstanceAs (Decidable (_ ∨ _))
theorem lok_okd {l : Lk} (h : lok l) : okd l.h l.d := by
  rcases h with ⟨_, _, h1, h2⟩ | ⟨_, _, h⟩
  · exact .inl ⟨h1, h2⟩
  · exact h
theorem dlay_okd {h : Nat} {d : List Nat} : (dlay h d).2 = 0 ↔ okd h d := by
  unfold dlay okd
  split
  · simp
    omega
  · split
    · simp
      omega
    · simp
      omega
/-- A link's bytes (P4.4). -/
def lbytes (l : Lk) : List Nat := if l.v = 0 then l.h :: l.d.length :: l.d else 1 :: digs 9 l.c ++ (l.h :: l.d.length :: l.d)
/-- What digest.Read's error is here. -/
def lerr (e : Nat) : Nat := if e = 32 ∨ e = 33 then 42 else 43
/-- Row 3 of P4.5. -/
def lthird (v : Int) (c at' : Nat) (b : List Nat) : Lk × Nat × Nat := if (dread (b.drop at')).2.2.2 = 0 then (⟨v, c, (dread (b.drop at')).1, (dread (b.drop at')).2.1⟩, at' + (dread (b.drop at')).2.2.1, 0) else (Lk.none, 0, lerr (dread (b.drop at')).2.2.2)
/-- The link at the front (P4.5). -/
def lfirst (b : List Nat) : Lk × Nat × Nat :=
  if b.head? = some 18 then lthird 0 112 0 b
  else if (dnum b).2.2 ≠ 0 then (Lk.none, 0, 42) else if (dnum b).1 ≠ 1 then (Lk.none, 0, 41)
  else if (dnum (b.drop (dnum b).2.1)).2.2 ≠ 0 then (Lk.none, 0, 42)
  else lthird 1 (dnum (b.drop (dnum b).2.1)).1 ((dnum b).2.1 + (dnum (b.drop (dnum b).2.1)).2.1) b
/-- The link of bytes (P4.6). -/
def lparse (b : List Nat) : Lk × Nat := if (lfirst b).2.2 ≠ 0 then (Lk.none, (lfirst b).2.2) else if (lfirst b).2.1 < b.length then (Lk.none, 44) else ((lfirst b).1, 0)
theorem lfirst_bytes {l : Lk} (h : lok l) (ms : List Nat) : lfirst (lbytes l ++ ms) = (l, (lbytes l).length, 0) := by
  obtain ⟨v, c, hh, d⟩ := l
  have hk := lok_okd h
  simp only at hk
  have hr := dread_laid (ms := ms) hk
  rcases h with ⟨h1, h2, h3, h4⟩ | ⟨h1, h2, _⟩
  · simp only at h1 h2 h3 h4
    subst h1
    subst h2
    subst h3
    unfold lfirst lbytes
    simp only [if_true, List.cons_append, List.head?_cons]
    unfold lthird
    simp only [List.cons_append] at hr
    rw [List.drop_zero, hr]
    simp
    omega
  · simp only at h1 h2
    subst h1
    have e1 : lbytes ⟨1, c, hh, d⟩ = 1 :: (digs 9 c ++ (hh :: d.length :: d)) := rfl
    rw [e1]
    have n1 : dnum (1 :: (digs 9 c ++ (hh :: d.length :: d)) ++ ms) = (1, 1, 0) := by
      rw [List.cons_append]
      exact dnum_small (by decide) _
    have n2 : dnum ((1 :: (digs 9 c ++ (hh :: d.length :: d)) ++ ms).drop 1) = (c, (digs 9 c).length, 0) := by
      rw [List.cons_append, List.drop_succ_cons, List.drop_zero, List.append_assoc]
      exact dnum_digs h2 _
    have n3 : (1 :: (digs 9 c ++ (hh :: d.length :: d)) ++ ms).drop (1 + (digs 9 c).length) = hh :: d.length :: d ++ ms := by
      rw [List.cons_append, Nat.add_comm, List.drop_succ_cons, List.append_assoc, List.drop_append_of_le_length (Nat.le_refl _), List.drop_length, List.nil_append]
    unfold lfirst
    rw [if_neg (by simp), n1]
    simp only [ne_eq, not_true_eq_false, if_false]
    rw [n2]
    simp only [not_true_eq_false, if_false]
    unfold lthird
    rw [n3, hr]
    simp
    omega
theorem lparse_bytes {l : Lk} (h : lok l) : lparse (lbytes l) = (l, 0) := by
  have e := lfirst_bytes h []
  rw [List.append_nil] at e
  unfold lparse
  rw [e]
  simp
theorem lparse_left {l : Lk} (h : lok l) (x : Nat) : lparse (lbytes l ++ [x]) = (Lk.none, 44) := by
  have e := lfirst_bytes h [x]
  unfold lparse
  rw [e]
  simp
end
section
open Go.RowKit Go
theorem lthird_back {v : Int} {c a n : Nat} {b : List Nat} {l : Lk} (h : lthird v c a b = (l, n, 0)) : okd l.h l.d ∧ l.v = v ∧ l.c = c ∧ a ≤ n ∧ n - a ≤ (b.drop a).length ∧ l.h :: l.d.length :: l.d = (b.drop a).take (n - a) := by
  unfold lthird at h
  split at h
  · rename_i h0
    simp only [Prod.mk.injEq] at h
    obtain ⟨h1, h2, _⟩ := h
    have hb := dread_back h0
    have hk : okd (dread (b.drop a)).1 (dread (b.drop a)).2.1 := dlay_okd.1 (by rw [hb.2.1])
    have hd := dlay_ok hk
    rw [hd] at hb
    subst h1
    have e : n - a = (dread (b.drop a)).2.2.1 := by omega
    refine ⟨hk, rfl, rfl, by omega, by omega, ?_⟩
    rw [e]
    exact congrArg Prod.fst hb.2.1
  · rename_i h0
    simp only [Prod.mk.injEq] at h
    have := h.2.2
    unfold lerr at this
    split at this <;> omega
theorem lfirst_back {b : List Nat} {l : Lk} {n : Nat} (hb : ∀ x ∈ b, x < 256) (h : lfirst b = (l, n, 0)) : lok l ∧ n ≤ b.length ∧ lbytes l = b.take n := by
  unfold lfirst at h
  split at h
  · rename_i h18
    obtain ⟨hk, hv, hc, _, hn, he⟩ := lthird_back h
    rw [List.drop_zero, Nat.sub_zero] at hn he
    have hh : l.h = 18 := by
      cases b with
      | nil => simp at h18
      | cons x b =>
        simp at h18
        subst h18
        cases n with
        | zero => simp at he
        | succ n =>
          rw [List.take_succ_cons] at he
          injection he
    have hd : l.d.length = 32 := by
      rcases hk with h1 | h1
      · exact h1.2
      · omega
    refine ⟨.inl ⟨hv, hc, hh, hd⟩, hn, ?_⟩
    unfold lbytes
    rw [if_pos hv]
    exact he
  · split at h
    · simp at h
    · rename_i hn1
      split at h
      · simp at h
      · rename_i hv1
        split at h
        · simp at h
        · rename_i hn2
          generalize hd1 : dnum b = r1 at *
          obtain ⟨v1, u1, e1⟩ := r1
          simp only [ne_eq, Decidable.not_not] at hn1 hv1 hn2 h
          subst hn1
          subst hv1
          generalize hd2 : dnum (b.drop u1) = r2 at *
          obtain ⟨c2, u2, e2⟩ := r2
          simp only at hn2 h
          subst hn2
          have d1 := dnum_back hb hd1
          have d2 := dnum_back (fun x hx => hb x (List.mem_of_mem_drop hx)) hd2
          obtain ⟨hk, hv, hc, ha, hn, he⟩ := lthird_back h
          have f1 : u1 = 1 := by
            have := congrArg List.length d1.2.2
            rw [digs_small (by decide), List.length_take] at this
            simp at this
            omega
          rw [List.length_drop] at d2 hn
          refine ⟨.inr ⟨hv, by rw [hc]; exact d2.1, hk⟩, by omega, ?_⟩
          unfold lbytes
          rw [if_neg (by rw [hv]; decide), hc, he, d2.2.2]
          have g1 : [1] = b.take u1 := by rw [← d1.2.2, digs_small (by decide)]
          have g2 : (1 : Nat) :: (b.drop u1).take u2 = b.take (u1 + u2) := by
            rw [List.take_add, ← g1]
            rfl
          rw [g2]
          have g3 : b.take n = b.take ((u1 + u2) + (n - (u1 + u2))) := by
            congr 1
            omega
          rw [g3, List.take_add (i := u1 + u2)]
theorem lparse_back {b : List Nat} {l : Lk} (hb : ∀ x ∈ b, x < 256) (h : lparse b = (l, 0)) : lok l ∧ lbytes l = b := by
  unfold lparse at h
  split at h
  · rename_i h0
    simp only [Prod.mk.injEq] at h
    exact absurd h.2 h0
  · split at h
    · simp at h
    · rename_i h0 h1
      simp only [Prod.mk.injEq, and_true] at h
      simp only [ne_eq, Decidable.not_not] at h0
      have e : lfirst b = (l, (lfirst b).2.1, 0) := by
        rw [← h, ← h0]
      obtain ⟨h2, h3, h4⟩ := lfirst_back hb e
      refine ⟨h2, ?_⟩
      rw [h4, List.take_of_length_le (by omega)]
/-- No link's bytes are the beginning of another's. -/
theorem lbytes_free {l m : Lk} (hl : lok l) (hm : lok m) {r : List Nat} (h : lbytes l ++ r = lbytes m) : l = m ∧ r = [] := by
  have e1 := lfirst_bytes hl r
  have e2 := lfirst_bytes hm []
  rw [List.append_nil] at e2
  rw [h, e2] at e1
  simp only [Prod.mk.injEq, and_true] at e1
  refine ⟨e1.1.symm, ?_⟩
  have := congrArg List.length h
  rw [List.length_append, e1.2] at this
  exact List.eq_nil_of_length_eq_zero (by omega)
theorem lbytes_inj {l m : Lk} (hl : lok l) (hm : lok m) (h : lbytes l = lbytes m) : l = m := (lbytes_free hl hm (r := []) (by rw [List.append_nil]; exact h)).1
theorem lbytes_len {l : Lk} (h : lok l) : (lbytes l).length ≤ 76 := by
  have hk := lok_okd h
  have hd := digs_len 9 l.c
  unfold lbytes
  unfold okd at hk
  split
  · simp
    omega
  · simp
    omega
end
section
open Go.RowKit Go
/-- The digits of the bases. -/
def d16 : List Nat := [48, 49, 50, 51, 52, 53, 54, 55, 56, 57, 97, 98, 99, 100, 101, 102]
def d32 : List Nat := [97, 98, 99, 100, 101, 102, 103, 104, 105, 106, 107, 108, 109, 110, 111, 112, 113, 114, 115, 116, 117, 118, 119, 120, 121, 122, 50, 51, 52, 53, 54, 55]
def d58 : List Nat := [49, 50, 51, 52, 53, 54, 55, 56, 57, 65, 66, 67, 68, 69, 70, 71, 72, 74, 75, 76, 77, 78, 80, 81, 82, 83, 84, 85, 86, 87, 88, 89, 90, 97, 98, 99, 100, 101, 102, 103, 104, 105, 106, 107, 109, 110, 111, 112, 113, 114, 115, 116, 117, 118, 119, 120, 121, 122]
/-- What a digit stands for. -/
def look : List Nat → Nat → Option Nat
  | [], _ => none
  | x :: t, c => if x = c then some 0 else (look t c).map (· + 1)
theorem look_get : ∀ {t : List Nat} {c i : Nat}, look t c = some i → i < t.length ∧ t.getD i 0 = c
  | [], _, _, h => by simp [look] at h
  | x :: t, c, i, h => by
    unfold look at h
    split at h
    · rename_i hx
      injection h with h
      subst h
      subst hx
      simp
    · obtain ⟨j, hj, rfl⟩ := Option.map_eq_some_iff.1 h
      have := look_get hj
      simp
      exact ⟨this.1, by simpa using this.2⟩
theorem look16 : ∀ i, i < 16 → look d16 (d16.getD i 0) = some i := by decide
theorem look32 : ∀ i, i < 32 → look d32 (d32.getD i 0) = some i := by decide
theorem look58 : ∀ i, i < 58 → look d58 (d58.getD i 0) = some i := by decide
/-- What all digits stand for. -/
def looks (t : List Nat) : List Nat → Option (List Nat)
  | [] => some []
  | c :: s => (look t c).bind fun i => (looks t s).map (i :: ·)
theorem looks_map {t : List Nat} (ht : ∀ i, i < t.length → look t (t.getD i 0) = some i) : ∀ {l : List Nat}, (∀ i ∈ l, i < t.length) → looks t (l.map (t.getD · 0)) = some l
  | [], _ => rfl
  | i :: l, h => by
    rw [List.map_cons, looks, ht i (h i (by simp)), Option.bind_some, looks_map ht (fun j hj => h j (List.mem_cons_of_mem _ hj))]
    rfl
theorem looks_back {t : List Nat} : ∀ {s l : List Nat}, looks t s = some l → l.map (t.getD · 0) = s ∧ ∀ i ∈ l, i < t.length
  | [], l, h => by
    simp [looks] at h
    subst h
    simp
  | c :: s, l, h => by
    unfold looks at h
    obtain ⟨i, hi, h⟩ := Option.bind_eq_some_iff.1 h
    obtain ⟨m, hm, rfl⟩ := Option.map_eq_some_iff.1 h
    have h1 := look_get hi
    have h2 := looks_back hm
    refine ⟨by rw [List.map_cons, h1.2, h2.1], fun j hj => ?_⟩
    rcases List.mem_cons.1 hj with e | e
    · subst e
      exact h1.1
    · exact h2.2 j e
theorem grp_lt {w : Nat} (hw : 0 < w) : ∀ (k : Nat) (l : List Nat), l.length ≤ k → (∀ d ∈ l, d < 2) → ∀ x ∈ grp w l, x < 2 ^ w
  | 0, l, hk, _, x, hx => by
    rw [grp_short (by omega)] at hx
    simp at hx
  | k + 1, l, hk, hd, x, hx => by
    rw [grp] at hx
    split at hx
    · simp at hx
    · rename_i h
      rcases List.mem_cons.1 hx with e | e
      · subst e
        have := valB_lt (b := 2) (by decide) (l := l.take w) (fun d h => hd d (List.mem_of_mem_take h))
        rwa [List.length_take, Nat.min_eq_left (by omega)] at this
      · exact grp_lt hw k (l.drop w) (by rw [List.length_drop]; omega) (fun d h => hd d (List.mem_of_mem_drop h)) x e
theorem encW_lt {w : Nat} (hw : 0 < w) (b : List Nat) : ∀ x ∈ encW w b, x < 2 ^ w := grp_lt hw _ _ (Nat.le_refl _) (fun d hd => by
  rcases List.mem_append.1 hd with h | h
  · exact flat_lt 8 b d h
  · have := List.eq_of_mem_replicate h
    omega)
theorem decW_lt (w : Nat) (b : List Nat) : ∀ x ∈ decW w b, x < 256 := grp_lt (w := 8) (by decide) _ _ (Nat.le_refl _) (flat_lt w b)
/-- Bytes in a base: 16, 32, 58. -/
def of16 (b : List Nat) : List Nat := (encW 4 b).map (d16.getD · 0)
def of32 (b : List Nat) : List Nat := (encW 5 b).map (d32.getD · 0)
def of58 (b : List Nat) : List Nat := (conv 256 58 b).map (d58.getD · 0)
/-- The bytes of a text in a base; none: it is none there. -/
def in16 (s : List Nat) : Option (List Nat) := (looks d16 s).bind fun l => if of16 (decW 4 l) = s then some (decW 4 l) else none
def in32 (s : List Nat) : Option (List Nat) := (looks d32 s).bind fun l => if of32 (decW 5 l) = s then some (decW 5 l) else none
def in58 (s : List Nat) : Option (List Nat) := (looks d58 s).map (conv 58 256)
theorem in16_of {b : List Nat} (hb : ∀ x ∈ b, x < 256) : in16 (of16 b) = some b := by
  unfold in16
  have h : looks d16 (of16 b) = some (encW 4 b) := looks_map (t := d16) look16 (encW_lt (by decide) b)
  rw [h, Option.bind_some, dec_enc (by decide) (by decide) hb, if_pos rfl]
theorem in32_of {b : List Nat} (hb : ∀ x ∈ b, x < 256) : in32 (of32 b) = some b := by
  unfold in32
  have h : looks d32 (of32 b) = some (encW 5 b) := looks_map (t := d32) look32 (encW_lt (by decide) b)
  rw [h, Option.bind_some, dec_enc (by decide) (by decide) hb, if_pos rfl]
theorem in58_of {b : List Nat} (hb : ∀ x ∈ b, x < 256) : in58 (of58 b) = some b := by
  unfold in58
  have h : looks d58 (of58 b) = some (conv 256 58 b) := looks_map (t := d58) look58 (conv_lt (by decide) b)
  rw [h, Option.map_some, conv_conv (by decide) (by decide) hb]
theorem of16_in {s b : List Nat} (h : in16 s = some b) : of16 b = s ∧ ∀ x ∈ b, x < 256 := by
  unfold in16 at h
  obtain ⟨l, hl, h⟩ := Option.bind_eq_some_iff.1 h
  split at h
  · injection h with h
    subst h
    exact ⟨by assumption, decW_lt 4 l⟩
  · cases h
theorem of32_in {s b : List Nat} (h : in32 s = some b) : of32 b = s ∧ ∀ x ∈ b, x < 256 := by
  unfold in32 at h
  obtain ⟨l, hl, h⟩ := Option.bind_eq_some_iff.1 h
  split at h
  · injection h with h
    subst h
    exact ⟨by assumption, decW_lt 5 l⟩
  · cases h
theorem of58_in {s b : List Nat} (h : in58 s = some b) : of58 b = s ∧ ∀ x ∈ b, x < 256 := by
  unfold in58 at h
  obtain ⟨l, hl, rfl⟩ := Option.map_eq_some_iff.1 h
  have h2 := looks_back hl
  refine ⟨?_, conv_lt (by decide) l⟩
  unfold of58
  rw [conv_conv (a := 58) (b := 256) (by decide) (by decide) h2.2]
  exact h2.1
/-- A link's texts (P4.8). -/
def ltextin (l : Lk) (base : Nat) : List Nat := if base = 1 then 102 :: of16 (lbytes l) else if base = 2 then 98 :: of32 (lbytes l) else 122 :: of58 (lbytes l)
def ltext (l : Lk) : List Nat := if l.v = 0 then of58 (lbytes l) else ltextin l 2
/-- The bytes that a text is, and the version that it wants. -/
def ltake : List Nat → Option (Int × List Nat)
  | 81 :: s => (in58 (81 :: s)).map fun b => (0, b)
  | 102 :: s => (in16 s).map fun b => (1, b)
  | 98 :: s => (in32 s).map fun b => (1, b)
  | 122 :: s => (in58 s).map fun b => (1, b)
  | _ => none
/-- The link of a text (P4.9). -/
def lparsetext (s : List Nat) : Lk × Nat :=
  if 153 < s.length then (Lk.none, 46)
  else if s.head? ≠ some 81 ∧ s.head? ≠ some 102 ∧ s.head? ≠ some 98 ∧ s.head? ≠ some 122 then (Lk.none, 45)
  else match ltake s with
    | none => (Lk.none, 46)
    | some (v, b) => if (lparse b).2 ≠ 0 then (Lk.none, (lparse b).2) else if (lparse b).1.v ≠ v then (Lk.none, 41) else ((lparse b).1, 0)
theorem lbytes_byte {l : Lk} (h : lok l) (hd : ∀ x ∈ l.d, x < 256) : ∀ x ∈ lbytes l, x < 256 := by
  have hk := lok_okd h
  have hdg : ∀ (f n : Nat), ∀ x ∈ digs f n, x < 256 := by
    intro f
    induction f with
    | zero => intro n x hx; simp [digs] at hx
    | succ f ih =>
      intro n x hx
      unfold digs at hx
      split at hx
      · simp at hx
        omega
      · rcases List.mem_cons.1 hx with e | e
        · omega
        · exact ih _ x e
  have hrow : ∀ x ∈ l.h :: l.d.length :: l.d, x < 256 := fun x hx => by
    unfold okd at hk
    simp only [List.mem_cons] at hx
    rcases hx with e | e | e
    · omega
    · omega
    · exact hd x e
  intro x hx
  unfold lbytes at hx
  split at hx
  · exact hrow x hx
  · rcases List.mem_append.1 hx with e | e
    · rcases List.mem_cons.1 e with e | e
      · omega
      · exact hdg 9 l.c x e
    · exact hrow x e
/-- A number's highest digit. -/
theorem digB_first {b q : Nat} (hb : 2 ≤ b) (hq : 0 < q) (hqb : q < b) : ∀ (k n : Nat), q * b ^ k ≤ n → n < (q + 1) * b ^ k → (digB b n).head? = some q
  | 0, n, h1, h2 => by
    rw [Nat.pow_zero, Nat.mul_one] at h1 h2
    have e : n = q := by omega
    subst e
    rw [digB_pos hb hq, Nat.div_eq_of_lt hqb, digB_zero, Nat.mod_eq_of_lt hqb]
    rfl
  | k + 1, n, h1, h2 => by
    have hp : 0 < b ^ k := Nat.pow_pos (by omega)
    have hm : 0 < q * b ^ k := Nat.mul_pos hq hp
    rw [Nat.pow_succ, ← Nat.mul_assoc] at h1 h2
    have h3 : q * b ^ k ≤ n / b := (Nat.le_div_iff_mul_le (by omega)).2 h1
    have h4 : n / b < (q + 1) * b ^ k := Nat.div_lt_of_lt_mul (by rw [Nat.mul_comm]; exact h2)
    have hn : 0 < n := Nat.lt_of_lt_of_le (Nat.mul_pos hm (by omega)) h1
    have ih := digB_first hb hq hqb k (n / b) h3 h4
    rw [digB_pos hb hn]
    cases hd : digB b (n / b) with
    | nil => rw [hd] at ih; simp at ih
    | cons x l => rw [hd] at ih; simpa using ih
theorem of58_old {l : Lk} (h : lok l) (hv : l.v = 0) (hd : ∀ x ∈ l.d, x < 256) : ∃ s, of58 (lbytes l) = 81 :: s := by
  rcases h with ⟨_, _, h3, h4⟩ | ⟨h1, _⟩
  · have e : lbytes l = 18 :: 32 :: l.d := by unfold lbytes; rw [if_pos hv, h3, h4]
    have hval : valB 256 (18 :: 32 :: l.d) = 18 * 256 ^ 33 + (32 * 256 ^ 32 + valB 256 l.d) := by
      rw [valB_cons, valB_cons, List.length_cons, h4]
    have hlt := valB_lt (b := 256) (by decide) hd
    rw [h4] at hlt
    have hf := digB_first (b := 58) (q := 23) (by decide) (by decide) (by decide) 45 (18 * 256 ^ 33 + (32 * 256 ^ 32 + valB 256 l.d))
      (Nat.le_trans (show 23 * 58 ^ 45 ≤ 18 * 256 ^ 33 + 32 * 256 ^ 32 by decide) (by omega)) (Nat.lt_of_lt_of_le (show _ < 18 * 256 ^ 33 + 33 * 256 ^ 32 by omega) (show 18 * 256 ^ 33 + 33 * 256 ^ 32 ≤ (23 + 1) * 58 ^ 45 by decide))
    unfold of58 conv
    rw [e]
    have t1 : (18 :: 32 :: l.d).takeWhile (· == 0) = [] := by simp
    have t2 : (18 :: 32 :: l.d).dropWhile (· == 0) = 18 :: 32 :: l.d := by simp
    rw [t1, t2, hval]
    cases hg : digB 58 (18 * 256 ^ 33 + (32 * 256 ^ 32 + valB 256 l.d)) with
    | nil => rw [hg] at hf; simp at hf
    | cons x m =>
      rw [hg] at hf
      simp at hf
      subst hf
      exact ⟨m.map (d58.getD · 0), rfl⟩
  · rw [hv] at h1
    cases h1
end
section
open Go.RowKit Go
theorem grp_len {w : Nat} (hw : 0 < w) : ∀ (k : Nat) (l : List Nat), l.length ≤ k → (grp w l).length = l.length / w
  | 0, l, hk => by
    rw [grp_short (by omega), Nat.div_eq_of_lt (by omega)]
    rfl
  | k + 1, l, hk => by
    rw [grp]
    split
    · rw [Nat.div_eq_of_lt (by omega)]
      rfl
    · rename_i h
      rw [List.length_cons, grp_len hw k (l.drop w) (by rw [List.length_drop]; omega), List.length_drop]
      have : l.length = l.length - w + w := by omega
      rw [this, Nat.add_sub_cancel, Nat.add_div_right _ hw]
theorem of16_len (b : List Nat) : (of16 b).length = 2 * b.length := by
  unfold of16 encW
  rw [List.length_map, grp_len (by decide) _ _ (Nat.le_refl _), List.length_append, flat_len, List.length_replicate]
  omega
theorem of32_len (b : List Nat) : (of32 b).length ≤ 2 * b.length := by
  unfold of32 encW
  rw [List.length_map, grp_len (by decide) _ _ (Nat.le_refl _), List.length_append, flat_len, List.length_replicate]
  omega
theorem digB_len {b : Nat} (hb : 2 ≤ b) : ∀ (k n : Nat), n < b ^ k → (digB b n).length ≤ k
  | 0, n, h => by
    rw [Nat.pow_zero] at h
    have e : n = 0 := by omega
    subst e
    rw [digB_zero]
    simp
  | k + 1, n, h => by
    by_cases hn : n = 0
    · subst hn
      rw [digB_zero]
      simp
    · rw [digB_pos hb (by omega), List.length_append, List.length_singleton]
      have := digB_len hb k (n / b) (Nat.div_lt_of_lt_mul (by rw [Nat.pow_succ, Nat.mul_comm] at h; exact h))
      omega
theorem of58_len {b : List Nat} (hb : ∀ x ∈ b, x < 256) : (of58 b).length ≤ 2 * b.length := by
  unfold of58 conv
  rw [List.length_map, List.length_append, List.length_replicate]
  have hd : ∀ x ∈ b.dropWhile (· == 0), x < 256 := fun x hx => hb x ((List.dropWhile_suffix _).subset hx)
  have hlt := valB_lt (b := 256) (by decide) hd
  have hp : (256 : Nat) ^ (b.dropWhile (· == 0)).length ≤ 58 ^ (2 * (b.dropWhile (· == 0)).length) := by
    rw [Nat.pow_mul]
    exact Nat.pow_le_pow_left (by decide) _
  have h1 := digB_len (b := 58) (by decide) _ _ (Nat.lt_of_lt_of_le hlt hp)
  have h2 := congrArg List.length (List.takeWhile_append_dropWhile (p := (· == 0)) (l := b))
  rw [List.length_append] at h2
  omega
theorem ltextin_len {l : Lk} (h : lok l) (hd : ∀ x ∈ l.d, x < 256) (base : Nat) : (ltextin l base).length ≤ 153 := by
  have h1 := lbytes_len h
  have h2 := of16_len (lbytes l)
  have h3 := of32_len (lbytes l)
  have h4 := of58_len (lbytes_byte h hd)
  unfold ltextin
  split
  · simp
    omega
  · split
    · simp
      omega
    · simp
      omega
theorem ltext_len {l : Lk} (h : lok l) (hd : ∀ x ∈ l.d, x < 256) : (ltext l).length ≤ 153 := by
  have h1 := lbytes_len h
  have h4 := of58_len (lbytes_byte h hd)
  unfold ltext
  split
  · omega
  · exact ltextin_len h hd 2
theorem lparsetext_in {l : Lk} (h : lok l) (hd : ∀ x ∈ l.d, x < 256) (hv : l.v = 1) (base : Nat) : lparsetext (ltextin l base) = (l, 0) := by
  have hb := lbytes_byte h hd
  have hl := ltextin_len h hd base
  have hp := lparse_bytes h
  unfold lparsetext
  rw [if_neg (by omega)]
  have ht : ltake (ltextin l base) = some (1, lbytes l) ∧ ((ltextin l base).head? = some 102 ∨ (ltextin l base).head? = some 98 ∨ (ltextin l base).head? = some 122) := by
    unfold ltextin
    split
    · exact ⟨by show (in16 _).map _ = _; rw [in16_of hb]; rfl, .inl rfl⟩
    · split
      · exact ⟨by show (in32 _).map _ = _; rw [in32_of hb]; rfl, .inr (.inl rfl)⟩
      · exact ⟨by show (in58 _).map _ = _; rw [in58_of hb]; rfl, .inr (.inr rfl)⟩
  rw [if_neg (by rcases ht.2 with e | e | e <;> simp [e]), ht.1]
  simp only [hp]
  simp [hv]
theorem lparsetext_text {l : Lk} (h : lok l) (hd : ∀ x ∈ l.d, x < 256) : lparsetext (ltext l) = (l, 0) := by
  by_cases hv : l.v = 0
  · have hb := lbytes_byte h hd
    have hl := ltext_len h hd
    have hp := lparse_bytes h
    obtain ⟨s, hs⟩ := of58_old h hv hd
    have e : ltext l = 81 :: s := by unfold ltext; rw [if_pos hv]; exact hs
    have hi := in58_of hb
    rw [hs] at hi
    unfold lparsetext
    rw [if_neg (by omega), e, if_neg (by simp)]
    have ht : ltake (81 :: s) = some (0, lbytes l) := by show (in58 (81 :: s)).map _ = _; rw [hi]; rfl
    rw [ht]
    simp only [hp]
    simp [hv]
  · have hv1 : l.v = 1 := by
      rcases h with h | h
      · exact absurd h.1 hv
      · exact h.1
    unfold ltext
    rw [if_neg hv]
    exact lparsetext_in h hd hv1 2
/-- What is read of a text has just that text, or one of its texts in a base. -/
theorem lparsetext_back {s : List Nat} {l : Lk} (h : lparsetext s = (l, 0)) : lok l ∧ (∀ x ∈ l.d, x < 256) ∧ (s = ltext l ∨ (l.v = 1 ∧ ∃ base, 1 ≤ base ∧ base ≤ 3 ∧ s = ltextin l base)) := by
  unfold lparsetext at h
  split at h
  · simp at h
  · split at h
    · simp at h
    · rename_i hne
      cases ht : ltake s with
      | none => rw [ht] at h; simp at h
      | some p =>
        obtain ⟨v, b⟩ := p
        rw [ht] at h
        simp only at h
        split at h
        · rename_i h0
          simp only [Prod.mk.injEq] at h
          exact absurd h.2 h0
        · split at h
          · simp at h
          · rename_i h0 hv
            simp only [Prod.mk.injEq, and_true] at h
            simp only [ne_eq, Decidable.not_not] at h0 hv
            rw [h] at hv
            have hp : lparse b = (l, 0) := by rw [← h, ← h0]
            have key : ∀ {t : List Nat}, (∀ x ∈ b, x < 256) → lok l ∧ lbytes l = b := fun hb => lparse_back hb hp
            have dby : (∀ x ∈ b, x < 256) → lbytes l = b → ∀ x ∈ l.d, x < 256 := fun hb e x hx => hb x (by
              rw [← e]
              unfold lbytes
              split
              · simp [hx]
              · simp [hx])
            unfold ltake at ht
            split at ht
            · rename_i s'
              obtain ⟨b', hb', e⟩ := Option.map_eq_some_iff.1 ht
              simp only [Prod.mk.injEq] at e
              obtain ⟨e1, e2⟩ := e
              subst e2
              have g := of58_in hb'
              have k := key (t := []) g.2
              refine ⟨k.1, dby g.2 k.2, .inl ?_⟩
              unfold ltext
              rw [if_pos (by rw [hv, ← e1]), k.2]
              exact g.1.symm
            · rename_i s'
              obtain ⟨b', hb', e⟩ := Option.map_eq_some_iff.1 ht
              simp only [Prod.mk.injEq] at e
              obtain ⟨e1, e2⟩ := e
              subst e2
              have g := of16_in hb'
              have k := key (t := []) g.2
              refine ⟨k.1, dby g.2 k.2, .inr ⟨by rw [hv, ← e1], 1, by decide, by decide, ?_⟩⟩
              unfold ltextin
              rw [if_pos rfl, k.2, g.1]
            · rename_i s'
              obtain ⟨b', hb', e⟩ := Option.map_eq_some_iff.1 ht
              simp only [Prod.mk.injEq] at e
              obtain ⟨e1, e2⟩ := e
              subst e2
              have g := of32_in hb'
              have k := key (t := []) g.2
              refine ⟨k.1, dby g.2 k.2, .inr ⟨by rw [hv, ← e1], 2, by decide, by decide, ?_⟩⟩
              unfold ltextin
              rw [if_neg (by decide), if_pos rfl, k.2, g.1]
            · rename_i s'
              obtain ⟨b', hb', e⟩ := Option.map_eq_some_iff.1 ht
              simp only [Prod.mk.injEq] at e
              obtain ⟨e1, e2⟩ := e
              subst e2
              have g := of58_in hb'
              have k := key (t := []) g.2
              refine ⟨k.1, dby g.2 k.2, .inr ⟨by rw [hv, ← e1], 3, by decide, by decide, ?_⟩⟩
              unfold ltextin
              rw [if_neg (by decide), if_neg (by decide), k.2, g.1]
            · cases ht
theorem ltext_inj {l m : Lk} (hl : lok l) (hm : lok m) (dl : ∀ x ∈ l.d, x < 256) (dm : ∀ x ∈ m.d, x < 256) (h : ltext l = ltext m) : l = m := by
  have e1 := lparsetext_text hl dl
  have e2 := lparsetext_text hm dm
  rw [h, e2] at e1
  simp only [Prod.mk.injEq, and_true] at e1
  exact e1.symm
end
section
open Go.RowKit Go
theorem below_alloc4 (w : World) (o : Obj) : Below w.heap.size w (w.alloc o) := (Below.refl _ _).alloc (Nat.le_refl _) _
end
section
open Go.RowKit Go
theorem digs_ge {k n : Nat} (hk : k < 9) (hn : 128 ≤ n) : digs (9 - k) n = (n % 128 + 128) :: digs (9 - (k + 1)) (n / 128) := by
  obtain ⟨f, hf⟩ : ∃ f, 9 - k = f + 1 := ⟨8 - k, by omega⟩
  rw [hf, digs_big hn]
  congr 2
  omega
theorem digs_lt {k n : Nat} (hk : k < 9) (hn : n < 128) : digs (9 - k) n = [n] := by
  obtain ⟨f, hf⟩ : ∃ f, 9 - k = f + 1 := ⟨8 - k, by omega⟩
  rw [hf, digs_small hn]
end
section
open Go.RowKit Go
theorem lit_row4 (w : World) (B x : Nat) (hB : B ≤ w.heap.size) : (w.alloc (.cells #[.int .u8 ((x : Nat) : Int)] 5)).ownsRow B 5 1 (.slice (some ⟨w.heap.size, 0, none⟩) 1 1) 1 (bv [x]) :=
  ⟨rfl, .inr ⟨w.heap.size, 1, _, rfl, hB, heap_alloc_new w _, Nat.le_refl _, by unfold maxLen; omega, rfl, rfl⟩⟩
theorem own_mono4 {w : World} {b b' : Nat} {v : Value} {n : Nat} {xs : List Value} (h : w.ownsRow b 5 1 v n xs) (hb : b' ≤ b) : w.ownsRow b' 5 1 v n xs := by
  refine ⟨h.1, ?_⟩
  rcases h.2 with h1 | ⟨g, cap, cur, e, hg, r⟩
  · exact .inl h1
  · exact .inr ⟨g, cap, cur, e, Nat.le_trans hb hg, r⟩
theorem own_below4 {w w' : World} {b : Nat} {v : Value} {n : Nat} {xs : List Value} (h : w.ownsRow b 5 1 v n xs) (hb : Below w.heap.size w w') : w'.ownsRow b 5 1 v n xs := (Kp.of_below (S := fun _ => False) hb).owns h (fun _ _ e => e)
end
section
open Go.RowKit Go
/-- A link as a value. -/
def lkv (l : Lk) : Value := .agg #[.int .i64 l.v, .int .u64 (l.c : Nat), .int .u64 (l.h : Nat), .string (nstr l.d)]
end
section
open Go.RowKit Go

end
section
open Go.RowKit Go
/-- No link, as cells. -/
def zlk : Array Value := #[.int .i64 0, .int .u64 0, .int .u64 0, .string ⟨#[]⟩]
theorem info61 : (Tryd.prog.info? 25).map (·.size) = some 4 := by kernel_rfl
/-- What First has in hand: the result's block and the link's. -/
structure Fq (w wx : World) (R L : Nat) (lv : Array Value) : Prop where
  r : wx.heap[R]? = some (.cells zlk 25 (0, 0))
  l : wx.heap[L]? = some (.cells lv 25 (0, 0))
  b : Below w.heap.size w wx
  rb : w.heap.size ≤ R
  lb : w.heap.size ≤ L
  ne : R ≠ L
theorem Fq.below {w wx wy : World} {R L : Nat} {lv : Array Value} (h : Fq w wx R L lv) (hb : Below wx.heap.size wx wy) : Fq w wy R L lv :=
  ⟨(hb.block R (blk_lt h.r)).trans h.r, (hb.block L (blk_lt h.l)).trans h.l, h.b.trans (hb.mono h.b.size), h.rb, h.lb, h.ne⟩
theorem Fq.set {w wx : World} {R L : Nat} {lv : Array Value} (h : Fq w wx R L lv) (j : Nat) (v : Value) : Fq w (wx.setCell ⟨L, j, none⟩ v) R L (lv.setIfInBounds j v) := by
  have hk : Kp (fun q => q = L) wx (wx.setCell ⟨L, j, none⟩ v) := (Kp.refl _ _).setCell _ _ (fun _ => rfl)
  have lb := h.lb
  exact ⟨(hk.block R (blk_lt h.r) h.ne).trans h.r, blk_set j v h.l, h.b.trans (hk.below h.b.size (fun q e => by omega)), h.rb, h.lb, h.ne⟩
theorem results_c3 {fn : Func} {p u q : Tmp} {ty : TypeId} (h : fn.results = #[.cell p ty, .tmp u, .tmp q]) (tmps : Array Value) (P : Program) (w : World) :
    (results fn tmps).run P w = ((asAddr (tmps.getD p undef)).run P w).andThen fun a w₁ => ((loadVar ty a).run P w₁).andThen fun v w₂ => .ok (.tuple #[v, tmps.getD u undef, tmps.getD q undef]) w₂ := by
  simp only [results, h]
  simp [Sem.run_bind, Result.andThen]
/-- No link is laid where none is. -/
theorem wpList_zero {ops : Array Oper} {rest : List Oper} {o : Oper} {a : Act} {Q : Exit → Act → World → Prop} {w : World} {p x : Operand} (hgd : o.guard = none) (ho : o.op = .store 25 p x) (g : Nat)
    (hp : a.eval p = .pointer (some ⟨g, 0, none⟩)) (hx : a.eval x = .agg zlk) (hg : w.heap[g]? = some (.cells zlk 25 (0, 0))) (h : wpList Tryd.prog ops Q rest (a.put o.dst undef) w) : wpList Tryd.prog ops Q (o :: rest) a w := by
  refine wpList_storeRow hgd ho g zlk zlk 25 hp hx hg info61 rfl (by kernel_rfl) ?_
  rw [setRow_self w g zlk 25 (0, 0) hg]
  exact h
end
section
open Go.RowKit Go
theorem dread_bytes4 {xs : List Nat} (h : ∀ x ∈ xs, x < 256) : ∀ x ∈ (dread xs).2.1, x < 256 := by
  intro x hx
  unfold dread at hx
  repeat' split at hx
  all_goals first | (simp at hx; done) | exact h x (List.mem_of_mem_drop (List.mem_of_mem_take hx))
end
section
open Go.RowKit Go

end
section
open Go.RowKit Go

end
end Go.Proofs.YtibcepokeaaoiabDoor
