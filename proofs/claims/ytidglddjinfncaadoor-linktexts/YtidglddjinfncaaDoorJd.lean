import Derived.Test.YtidglddjinfncaaDoorJc
import Derived.Laws.CopyRow
import Derived.Laws.ResultCell
import Derived.Deep.QuietTactic
namespace Go.Proofs.YtidglddjinfncaaDoor
section
open Go.RowKit Go
/-- What is laid is read. -/
theorem rd_digs : ∀ (f n k m : Nat) (r : List Nat), k + f = 9 → n < 128 ^ f → (k = 0 ∨ 0 < n) → rd k m (digs f n ++ r) = (m + n * 128 ^ k, k + (digs f n).length, 0)
  | 0, n, k, m, r, hk, hn, h0 => by
    simp at hn
    omega
  | f + 1, n, k, m, r, hk, hn, h0 => by
    by_cases h : n < 128
    · rw [digs_small h]
      simp only [List.cons_append, List.nil_append, List.length_singleton]
      unfold rd
      rw [if_neg (by omega), if_neg (by omega), if_neg (by omega), Nat.mod_eq_of_lt h]
    · have hge : 128 ≤ n := by omega
      rw [digs_big hge, List.cons_append]
      unfold rd
      rw [if_neg (by omega), if_pos (by omega), rd_digs f (n / 128) (k + 1) _ r (by omega) (by rw [Nat.pow_succ] at hn; exact Nat.div_lt_of_lt_mul (by omega)) (.inr (Nat.div_pos hge (by decide)))]
      have e1 : (n % 128 + 128) % 128 = n % 128 := by omega
      have e2 : n % 128 * 128 ^ k + n / 128 * 128 ^ (k + 1) = n * 128 ^ k := by
        rw [Nat.pow_succ, Nat.mul_comm (128 ^ k) 128, ← Nat.mul_assoc, ← Nat.add_mul]
        congr 1
        omega
      rw [e1, List.length_cons, Nat.add_assoc, e2]
      congr 2
      omega
/-- What is read was laid so. -/
theorem rd_back : ∀ (xs : List Nat) (f k m v u : Nat), k + f = 9 → (∀ x ∈ xs, x < 256) → rd k m xs = (v, u, 0) → ∃ n, v = m + n * 128 ^ k ∧ n < 128 ^ f ∧ (0 < k → 0 < n) ∧ k ≤ u ∧ u - k ≤ xs.length ∧ digs f n = xs.take (u - k)
  | [], f, k, m, v, u, hk, _, h => by
    unfold rd at h
    split at h <;> simp at h
  | x :: r, f, k, m, v, u, hk, hb, h => by
    have hx := hb x (by simp)
    unfold rd at h
    split at h
    · simp at h
    · rename_i h9
      obtain ⟨g, rfl⟩ : ∃ g, f = g + 1 := ⟨f - 1, by omega⟩
      split at h
      · rename_i h128
        obtain ⟨n, hv, hn, hp, hu, hl, hd⟩ := rd_back r g (k + 1) _ v u (by omega) (fun y hy => hb y (List.mem_cons_of_mem _ hy)) h
        have hp := hp (by omega)
        refine ⟨x % 128 + n * 128, ?_, ?_, fun _ => by omega, by omega, by simp; omega, ?_⟩
        · rw [hv, Nat.pow_succ, Nat.add_mul, Nat.add_assoc]
          congr 2
          rw [Nat.mul_comm (128 ^ k) 128, Nat.mul_assoc]
        · rw [Nat.pow_succ]
          have : (n + 1) * 128 ≤ 128 ^ g * 128 := Nat.mul_le_mul_right _ hn
          omega
        · rw [digs_big (by omega)]
          have e1 : (x % 128 + n * 128) % 128 + 128 = x := by omega
          have e2 : (x % 128 + n * 128) / 128 = n := by omega
          rw [e1, e2, hd]
          have e3 : u - k = u - (k + 1) + 1 := by omega
          rw [e3, List.take_succ_cons]
      · split at h
        · simp at h
        · rename_i h128 hz
          simp only [Prod.mk.injEq] at h
          refine ⟨x, ?_, ?_, fun hk0 => by omega, by omega, by simp; omega, ?_⟩
          · rw [← h.1, Nat.mod_eq_of_lt (by omega)]
          · rw [Nat.pow_succ]
            have : 1 ≤ 128 ^ g := Nat.pow_pos (by decide)
            omega
          · rw [digs_small (by omega)]
            have e3 : u - k = 1 := by omega
            rw [e3]
            simp
theorem dnum_digs {n : Nat} (h : n < 9223372036854775808) (r : List Nat) : dnum (digs 9 n ++ r) = (n, (digs 9 n).length, 0) := by
  have e := rd_digs 9 n 0 0 r rfl (by have : (128 : Nat) ^ 9 = 9223372036854775808 := by decide
                                      omega) (.inl rfl)
  rw [Nat.pow_zero, Nat.mul_one, Nat.zero_add, Nat.zero_add] at e
  unfold dnum
  rw [e]
  simp
theorem dnum_back {xs : List Nat} {n u : Nat} (hb : ∀ x ∈ xs, x < 256) (h : dnum xs = (n, u, 0)) : n < 9223372036854775808 ∧ u ≤ xs.length ∧ digs 9 n = xs.take u := by
  unfold dnum at h
  split at h
  · obtain ⟨m, hv, hm, _, _, hl, hd⟩ := rd_back xs 9 0 0 n u rfl hb h
    have e : (128 : Nat) ^ 9 = 9223372036854775808 := by decide
    rw [Nat.pow_zero, Nat.mul_one, Nat.zero_add] at hv
    subst hv
    exact ⟨by omega, by omega, by simpa using hd⟩
  · simp only [Prod.mk.injEq] at h
    have := h.2.2
    split at this <;> omega

/-- A link. -/
structure Lk where
  v : Int
  c : Nat
  h : Nat
  d : List Nat
def Lk.none : Lk := ⟨0, 0, 0, []⟩
/-- A digest that its hash may have. -/
def okd (h : Nat) (d : List Nat) : Prop := (h = 18 ∧ d.length = 32) ∨ (h = 0 ∧ d.length ≤ 64)
instance (h : Nat) (d : List Nat) : Decidable (okd h d) := inferInstanceAs (Decidable (_ ∨ _))
/-- A link that may be. -/
def lok (l : Lk) : Prop := (l.v = 0 ∧ l.c = 112 ∧ l.h = 18 ∧ l.d.length = 32) ∨ (l.v = 1 ∧ l.c < 9223372036854775808 ∧ okd l.h l.d)
instance (l : Lk) : Decidable (lok l) := inferInstanceAs (Decidable (_ ∨ _))
theorem lok_okd {l : Lk} (h : lok l) : okd l.h l.d := by
  rcases h with ⟨_, _, h1, h2⟩ | ⟨_, _, h⟩
  · exact .inl ⟨h1, h2⟩
  · exact h
theorem dlay_okd {h : Nat} {d : List Nat} : (dlay h d).2 = 0 ↔ okd h d := by
  unfold dlay okd
  split
  · simp
    omega
  · split
    · simp
      omega
    · simp
      omega
/-- A link's bytes (P4.4). -/
def lbytes (l : Lk) : List Nat := if l.v = 0 then l.h :: l.d.length :: l.d else 1 :: digs 9 l.c ++ (l.h :: l.d.length :: l.d)
/-- What digest.Read's error is here. -/
def lerr (e : Nat) : Nat := if e = 32 ∨ e = 33 then 42 else 43
/-- Row 3 of P4.5. -/
def lthird (v : Int) (c at' : Nat) (b : List Nat) : Lk × Nat × Nat := if (dread (b.drop at')).2.2.2 = 0 then (⟨v, c, (dread (b.drop at')).1, (dread (b.drop at')).2.1⟩, at' + (dread (b.drop at')).2.2.1, 0) else (Lk.none, 0, lerr (dread (b.drop at')).2.2.2)
/-- The link at the front (P4.5). -/
def lfirst (b : List Nat) : Lk × Nat × Nat :=
  if b.head? = some 18 then lthird 0 112 0 b
  else if (dnum b).2.2 ≠ 0 then (Lk.none, 0, 42) else if (dnum b).1 ≠ 1 then (Lk.none, 0, 41)
  else if (dnum (b.drop (dnum b).2.1)).2.2 ≠ 0 then (Lk.none, 0, 42)
  else lthird 1 (dnum (b.drop (dnum b).2.1)).1 ((dnum b).2.1 + (dnum (b.drop (dnum b).2.1)).2.1) b
/-- The link of bytes (P4.6). -/
def lparse (b : List Nat) : Lk × Nat := if (lfirst b).2.2 ≠ 0 then (Lk.none, (lfirst b).2.2) else if (lfirst b).2.1 < b.length then (Lk.none, 44) else ((lfirst b).1, 0)
theorem lfirst_bytes {l : Lk} (h : lok l) (ms : List Nat) : lfirst (lbytes l ++ ms) = (l, (lbytes l).length, 0) := by
  obtain ⟨v, c, hh, d⟩ := l
  have hk := lok_okd h
  simp only at hk
  have hr := dread_laid (ms := ms) hk
  rcases h with ⟨h1, h2, h3, h4⟩ | ⟨h1, h2, _⟩
  · simp only at h1 h2 h3 h4
    subst h1
    subst h2
    subst h3
    unfold lfirst lbytes
    simp only [if_true, List.cons_append, List.head?_cons]
    unfold lthird
    simp only [List.cons_append] at hr
    rw [List.drop_zero, hr]
    simp
    omega
  · simp only at h1 h2
    subst h1
    have e1 : lbytes ⟨1, c, hh, d⟩ = 1 :: (digs 9 c ++ (hh :: d.length :: d)) := rfl
    rw [e1]
    have n1 : dnum (1 :: (digs 9 c ++ (hh :: d.length :: d)) ++ ms) = (1, 1, 0) := by
      rw [List.cons_append]
      exact dnum_small (by decide) _
    have n2 : dnum ((1 :: (digs 9 c ++ (hh :: d.length :: d)) ++ ms).drop 1) = (c, (digs 9 c).length, 0) := by
      rw [List.cons_append, List.drop_succ_cons, List.drop_zero, List.append_assoc]
      exact dnum_digs h2 _
    have n3 : (1 :: (digs 9 c ++ (hh :: d.length :: d)) ++ ms).drop (1 + (digs 9 c).length) = hh :: d.length :: d ++ ms := by
      rw [List.cons_append, Nat.add_comm, List.drop_succ_cons, List.append_assoc, List.drop_append_of_le_length (Nat.le_refl _), List.drop_length, List.nil_append]
    unfold lfirst
    rw [if_neg (by simp), n1]
    simp only [ne_eq, not_true_eq_false, if_false]
    rw [n2]
    simp only [not_true_eq_false, if_false]
    unfold lthird
    rw [n3, hr]
    simp
    omega
theorem lparse_bytes {l : Lk} (h : lok l) : lparse (lbytes l) = (l, 0) := by
  have e := lfirst_bytes h []
  rw [List.append_nil] at e
  unfold lparse
  rw [e]
  simp
theorem lparse_left {l : Lk} (h : lok l) (x : Nat) : lparse (lbytes l ++ [x]) = (Lk.none, 44) := by
  have e := lfirst_bytes h [x]
  unfold lparse
  rw [e]
  simp
end
section
open Go.RowKit Go
theorem lthird_back {v : Int} {c a n : Nat} {b : List Nat} {l : Lk} (h : lthird v c a b = (l, n, 0)) : okd l.h l.d ∧ l.v = v ∧ l.c = c ∧ a ≤ n ∧ n - a ≤ (b.drop a).length ∧ l.h :: l.d.length :: l.d = (b.drop a).take (n - a) := by
  unfold lthird at h
  split at h
  · rename_i h0
    simp only [Prod.mk.injEq] at h
    obtain ⟨h1, h2, _⟩ := h
    have hb := dread_back h0
    have hk : okd (dread (b.drop a)).1 (dread (b.drop a)).2.1 := dlay_okd.1 (by rw [hb.2.1])
    have hd := dlay_ok hk
    rw [hd] at hb
    subst h1
    have e : n - a = (dread (b.drop a)).2.2.1 := by omega
    refine ⟨hk, rfl, rfl, by omega, by omega, ?_⟩
    rw [e]
    exact congrArg Prod.fst hb.2.1
  · rename_i h0
    simp only [Prod.mk.injEq] at h
    have := h.2.2
    unfold lerr at this
    split at this <;> omega
theorem lfirst_back {b : List Nat} {l : Lk} {n : Nat} (hb : ∀ x ∈ b, x < 256) (h : lfirst b = (l, n, 0)) : lok l ∧ n ≤ b.length ∧ lbytes l = b.take n := by
  unfold lfirst at h
  split at h
  · rename_i h18
    obtain ⟨hk, hv, hc, _, hn, he⟩ := lthird_back h
    rw [List.drop_zero, Nat.sub_zero] at hn he
    have hh : l.h = 18 := by
      cases b with
      | nil => simp at h18
      | cons x b =>
        simp at h18
        subst h18
        cases n with
        | zero => simp at he
        | succ n =>
          rw [List.take_succ_cons] at he
          injection he
    have hd : l.d.length = 32 := by
      rcases hk with h1 | h1
      · exact h1.2
      · omega
    refine ⟨.inl ⟨hv, hc, hh, hd⟩, hn, ?_⟩
    unfold lbytes
    rw [if_pos hv]
    exact he
  · split at h
    · simp at h
    · rename_i hn1
      split at h
      · simp at h
      · rename_i hv1
        split at h
        · simp at h
        · rename_i hn2
          generalize hd1 : dnum b = r1 at *
          obtain ⟨v1, u1, e1⟩ := r1
          simp only [ne_eq, Decidable.not_not] at hn1 hv1 hn2 h
          subst hn1
          subst hv1
          generalize hd2 : dnum (b.drop u1) = r2 at *
          obtain ⟨c2, u2, e2⟩ := r2
          simp only at hn2 h
          subst hn2
          have d1 := dnum_back hb hd1
          have d2 := dnum_back (fun x hx => hb x (List.mem_of_mem_drop hx)) hd2
          obtain ⟨hk, hv, hc, ha, hn, he⟩ := lthird_back h
          have f1 : u1 = 1 := by
            have := congrArg List.length d1.2.2
            rw [digs_small (by decide), List.length_take] at this
            simp at this
            omega
          rw [List.length_drop] at d2 hn
          refine ⟨.inr ⟨hv, by rw [hc]; exact d2.1, hk⟩, by omega, ?_⟩
          unfold lbytes
          rw [if_neg (by rw [hv]; decide), hc, he, d2.2.2]
          have g1 : [1] = b.take u1 := by rw [← d1.2.2, digs_small (by decide)]
          have g2 : (1 : Nat) :: (b.drop u1).take u2 = b.take (u1 + u2) := by
            rw [List.take_add, ← g1]
            rfl
          rw [g2]
          have g3 : b.take n = b.take ((u1 + u2) + (n - (u1 + u2))) := by
            congr 1
            omega
          rw [g3, List.take_add (i := u1 + u2)]
theorem lparse_back {b : List Nat} {l : Lk} (hb : ∀ x ∈ b, x < 256) (h : lparse b = (l, 0)) : lok l ∧ lbytes l = b := by
  unfold lparse at h
  split at h
  · rename_i h0
    simp only [Prod.mk.injEq] at h
    exact absurd h.2 h0
  · split at h
    · simp at h
    · rename_i h0 h1
      simp only [Prod.mk.injEq, and_true] at h
      simp only [ne_eq, Decidable.not_not] at h0
      have e : lfirst b = (l, (lfirst b).2.1, 0) := by
        rw [← h, ← h0]
      obtain ⟨h2, h3, h4⟩ := lfirst_back hb e
      refine ⟨h2, ?_⟩
      rw [h4, List.take_of_length_le (by omega)]
/-- No link's bytes are the beginning of another's. -/
theorem lbytes_free {l m : Lk} (hl : lok l) (hm : lok m) {r : List Nat} (h : lbytes l ++ r = lbytes m) : l = m ∧ r = [] := by
  have e1 := lfirst_bytes hl r
  have e2 := lfirst_bytes hm []
  rw [List.append_nil] at e2
  rw [h, e2] at e1
  simp only [Prod.mk.injEq, and_true] at e1
  refine ⟨e1.1.symm, ?_⟩
  have := congrArg List.length h
  rw [List.length_append, e1.2] at this
  exact List.eq_nil_of_length_eq_zero (by omega)
theorem lbytes_inj {l m : Lk} (hl : lok l) (hm : lok m) (h : lbytes l = lbytes m) : l = m := (lbytes_free hl hm (r := []) (by rw [List.append_nil]; exact h)).1
theorem lbytes_len {l : Lk} (h : lok l) : (lbytes l).length ≤ 76 := by
  have hk := lok_okd h
  have hd := digs_len 9 l.c
  unfold lbytes
  unfold okd at hk
  split
  · simp
    omega
  · simp
    omega
end
section
open Go.RowKit Go
/-- The digits of the bases. -/
def d16 : List Nat := [48, 49, 50, 51, 52, 53, 54, 55, 56, 57, 97, 98, 99, 100, 101, 102]
def d32 : List Nat := [97, 98, 99, 100, 101, 102, 103, 104, 105, 106, 107, 108, 109, 110, 111, 112, 113, 114, 115, 116, 117, 118, 119, 120, 121, 122, 50, 51, 52, 53, 54, 55]
def d58 : List Nat := [49, 50, 51, 52, 53, 54, 55, 56, 57, 65, 66, 67, 68, 69, 70, 71, 72, 74, 75, 76, 77, 78, 80, 81, 82, 83, 84, 85, 86, 87, 88, 89, 90, 97, 98, 99, 100, 101, 102, 103, 104, 105, 106, 107, 109, 110, 111, 112, 113, 114, 115, 116, 117, 118, 119, 120, 121, 122]
/-- What a digit stands for. -/
def look : List Nat → Nat → Option Nat
  | [], _ => none
  | x :: t, c => if x = c then some 0 else (look t c).map (· + 1)
theorem look_get : ∀ {t : List Nat} {c i : Nat}, look t c = some i → i < t.length ∧ t.getD i 0 = c
  | [], _, _, h => by simp [look] at h
  | x :: t, c, i, h => by
    unfold look at h
    split at h
    · rename_i hx
      injection h with h
      subst h
      subst hx
      simp
    · obtain ⟨j, hj, rfl⟩ := Option.map_eq_some_iff.1 h
      have := look_get hj
      simp
      exact ⟨this.1, by simpa using this.2⟩
theorem look16 : ∀ i, i < 16 → look d16 (d16.getD i 0) = some i := by decide
theorem look32 : ∀ i, i < 32 → look d32 (d32.getD i 0) = some i := by decide
theorem look58 : ∀ i, i < 58 → look d58 (d58.getD i 0) = some i := by decide
/-- What all digits stand for. -/
def looks (t : List Nat) : List Nat → Option (List Nat)
  | [] => some []
  | c :: s => (look t c).bind fun i => (looks t s).map (i :: ·)
theorem looks_map {t : List Nat} (ht : ∀ i, i < t.length → look t (t.getD i 0) = some i) : ∀ {l : List Nat}, (∀ i ∈ l, i < t.length) → looks t (l.map (t.getD · 0)) = some l
  | [], _ => rfl
  | i :: l, h => by
    rw [List.map_cons, looks, ht i (h i (by simp)), Option.bind_some, looks_map ht (fun j hj => h j (List.mem_cons_of_mem _ hj))]
    rfl
theorem looks_back {t : List Nat} : ∀ {s l : List Nat}, looks t s = some l → l.map (t.getD · 0) = s ∧ ∀ i ∈ l, i < t.length
  | [], l, h => by
    simp [looks] at h
    subst h
    simp
  | c :: s, l, h => by
    unfold looks at h
    obtain ⟨i, hi, h⟩ := Option.bind_eq_some_iff.1 h
    obtain ⟨m, hm, rfl⟩ := Option.map_eq_some_iff.1 h
    have h1 := look_get hi
    have h2 := looks_back hm
    refine ⟨by rw [List.map_cons, h1.2, h2.1], fun j hj => ?_⟩
    rcases List.mem_cons.1 hj with e | e
    · subst e
      exact h1.1
    · exact h2.2 j e
theorem grp_lt {w : Nat} (hw : 0 < w) : ∀ (k : Nat) (l : List Nat), l.length ≤ k → (∀ d ∈ l, d < 2) → ∀ x ∈ grp w l, x < 2 ^ w
  | 0, l, hk, _, x, hx => by
    rw [grp_short (by omega)] at hx
    simp at hx
  | k + 1, l, hk, hd, x, hx => by
    rw [grp] at hx
    split at hx
    · simp at hx
    · rename_i h
      rcases List.mem_cons.1 hx with e | e
      · subst e
        have := valB_lt (b := 2) (by decide) (l := l.take w) (fun d h => hd d (List.mem_of_mem_take h))
        rwa [List.length_take, Nat.min_eq_left (by omega)] at this
      · exact grp_lt hw k (l.drop w) (by rw [List.length_drop]; omega) (fun d h => hd d (List.mem_of_mem_drop h)) x e
theorem encW_lt {w : Nat} (hw : 0 < w) (b : List Nat) : ∀ x ∈ encW w b, x < 2 ^ w := grp_lt hw _ _ (Nat.le_refl _) (fun d hd => by
  rcases List.mem_append.1 hd with h | h
  · exact flat_lt 8 b d h
  · have := List.eq_of_mem_replicate h
    omega)
theorem decW_lt (w : Nat) (b : List Nat) : ∀ x ∈ decW w b, x < 256 := grp_lt (w := 8) (by decide) _ _ (Nat.le_refl _) (flat_lt w b)
/-- Bytes in a base: 16, 32, 58. -/
def of16 (b : List Nat) : List Nat := (encW 4 b).map (d16.getD · 0)
def of32 (b : List Nat) : List Nat := (encW 5 b).map (d32.getD · 0)
def of58 (b : List Nat) : List Nat := (conv 256 58 b).map (d58.getD · 0)
/-- The bytes of a text in a base; none: it is none there. -/
def in16 (s : List Nat) : Option (List Nat) := (looks d16 s).bind fun l => if of16 (decW 4 l) = s then some (decW 4 l) else none
def in32 (s : List Nat) : Option (List Nat) := (looks d32 s).bind fun l => if of32 (decW 5 l) = s then some (decW 5 l) else none
def in58 (s : List Nat) : Option (List Nat) := (looks d58 s).map (conv 58 256)
theorem in16_of {b : List Nat} (hb : ∀ x ∈ b, x < 256) : in16 (of16 b) = some b := by
  unfold in16
  have h : looks d16 (of16 b) = some (encW 4 b) := looks_map (t := d16) look16 (encW_lt (by decide) b)
  rw [h, Option.bind_some, dec_enc (by decide) (by decide) hb, if_pos rfl]
theorem in32_of {b : List Nat} (hb : ∀ x ∈ b, x < 256) : in32 (of32 b) = some b := by
  unfold in32
  have h : looks d32 (of32 b) = some (encW 5 b) := looks_map (t := d32) look32 (encW_lt (by decide) b)
  rw [h, Option.bind_some, dec_enc (by decide) (by decide) hb, if_pos rfl]
theorem in58_of {b : List Nat} (hb : ∀ x ∈ b, x < 256) : in58 (of58 b) = some b := by
  unfold in58
  have h : looks d58 (of58 b) = some (conv 256 58 b) := looks_map (t := d58) look58 (conv_lt (by decide) b)
  rw [h, Option.map_some, conv_conv (by decide) (by decide) hb]
theorem of16_in {s b : List Nat} (h : in16 s = some b) : of16 b = s ∧ ∀ x ∈ b, x < 256 := by
  unfold in16 at h
  obtain ⟨l, hl, h⟩ := Option.bind_eq_some_iff.1 h
  split at h
  · injection h with h
    subst h
    exact ⟨by assumption, decW_lt 4 l⟩
  · cases h
theorem of32_in {s b : List Nat} (h : in32 s = some b) : of32 b = s ∧ ∀ x ∈ b, x < 256 := by
  unfold in32 at h
  obtain ⟨l, hl, h⟩ := Option.bind_eq_some_iff.1 h
  split at h
  · injection h with h
    subst h
    exact ⟨by assumption, decW_lt 5 l⟩
  · cases h
theorem of58_in {s b : List Nat} (h : in58 s = some b) : of58 b = s ∧ ∀ x ∈ b, x < 256 := by
  unfold in58 at h
  obtain ⟨l, hl, rfl⟩ := Option.map_eq_some_iff.1 h
  have h2 := looks_back hl
  refine ⟨?_, conv_lt (by decide) l⟩
  unfold of58
  rw [conv_conv (a := 58) (b := 256) (by decide) (by decide) h2.2]
  exact h2.1
/-- A link's texts (P4.8). -/
def ltextin (l : Lk) (base : Nat) : List Nat := if base = 1 then 102 :: of16 (lbytes l) else if base = 2 then 98 :: of32 (lbytes l) else 122 :: of58 (lbytes l)
def ltext (l : Lk) : List Nat := if l.v = 0 then of58 (lbytes l) else ltextin l 2
/-- The bytes that a text is, and the version that it wants. -/
def ltake : List Nat → Option (Int × List Nat)
  | 81 :: s => (in58 (81 :: s)).map fun b => (0, b)
  | 102 :: s => (in16 s).map fun b => (1, b)
  | 98 :: s => (in32 s).map fun b => (1, b)
  | 122 :: s => (in58 s).map fun b => (1, b)
  | _ => none
/-- The link of a text (P4.9). -/
def lparsetext (s : List Nat) : Lk × Nat :=
  if 153 < s.length then (Lk.none, 46)
  else if s.head? ≠ some 81 ∧ s.head? ≠ some 102 ∧ s.head? ≠ some 98 ∧ s.head? ≠ some 122 then (Lk.none, 45)
  else match ltake s with
    | none => (Lk.none, 46)
    | some (v, b) => if (lparse b).2 ≠ 0 then (Lk.none, (lparse b).2) else if (lparse b).1.v ≠ v then (Lk.none, 41) else ((lparse b).1, 0)
theorem lbytes_byte {l : Lk} (h : lok l) (hd : ∀ x ∈ l.d, x < 256) : ∀ x ∈ lbytes l, x < 256 := by
  have hk := lok_okd h
  have hdg : ∀ (f n : Nat), ∀ x ∈ digs f n, x < 256 := by
    intro f
    induction f with
    | zero => intro n x hx; simp [digs] at hx
    | succ f ih =>
      intro n x hx
      unfold digs at hx
      split at hx
      · simp at hx
        omega
      · rcases List.mem_cons.1 hx with e | e
        · omega
        · exact ih _ x e
  have hrow : ∀ x ∈ l.h :: l.d.length :: l.d, x < 256 := fun x hx => by
    unfold okd at hk
    simp only [List.mem_cons] at hx
    rcases hx with e | e | e
    · omega
    · omega
    · exact hd x e
  intro x hx
  unfold lbytes at hx
  split at hx
  · exact hrow x hx
  · rcases List.mem_append.1 hx with e | e
    · rcases List.mem_cons.1 e with e | e
      · omega
      · exact hdg 9 l.c x e
    · exact hrow x e
/-- A number's highest digit. -/
theorem digB_first {b q : Nat} (hb : 2 ≤ b) (hq : 0 < q) (hqb : q < b) : ∀ (k n : Nat), q * b ^ k ≤ n → n < (q + 1) * b ^ k → (digB b n).head? = some q
  | 0, n, h1, h2 => by
    rw [Nat.pow_zero, Nat.mul_one] at h1 h2
    have e : n = q := by omega
    subst e
    rw [digB_pos hb hq, Nat.div_eq_of_lt hqb, digB_zero, Nat.mod_eq_of_lt hqb]
    rfl
  | k + 1, n, h1, h2 => by
    have hp : 0 < b ^ k := Nat.pow_pos (by omega)
    have hm : 0 < q * b ^ k := Nat.mul_pos hq hp
    rw [Nat.pow_succ, ← Nat.mul_assoc] at h1 h2
    have h3 : q * b ^ k ≤ n / b := (Nat.le_div_iff_mul_le (by omega)).2 h1
    have h4 : n / b < (q + 1) * b ^ k := Nat.div_lt_of_lt_mul (by rw [Nat.mul_comm]; exact h2)
    have hn : 0 < n := Nat.lt_of_lt_of_le (Nat.mul_pos hm (by omega)) h1
    have ih := digB_first hb hq hqb k (n / b) h3 h4
    rw [digB_pos hb hn]
    cases hd : digB b (n / b) with
    | nil => rw [hd] at ih; simp at ih
    | cons x l => rw [hd] at ih; simpa using ih
theorem of58_old {l : Lk} (h : lok l) (hv : l.v = 0) (hd : ∀ x ∈ l.d, x < 256) : ∃ s, of58 (lbytes l) = 81 :: s := by
  rcases h with ⟨_, _, h3, h4⟩ | ⟨h1, _⟩
  · have e : lbytes l = 18 :: 32 :: l.d := by unfold lbytes; rw [if_pos hv, h3, h4]
    have hval : valB 256 (18 :: 32 :: l.d) = 18 * 256 ^ 33 + (32 * 256 ^ 32 + valB 256 l.d) := by
      rw [valB_cons, valB_cons, List.length_cons, h4]
    have hlt := valB_lt (b := 256) (by decide) hd
    rw [h4] at hlt
    have hf := digB_first (b := 58) (q := 23) (by decide) (by decide) (by decide) 45 (18 * 256 ^ 33 + (32 * 256 ^ 32 + valB 256 l.d))
      (Nat.le_trans (show 23 * 58 ^ 45 ≤ 18 * 256 ^ 33 + 32 * 256 ^ 32 by decide) (by omega)) (Nat.lt_of_lt_of_le (show _ < 18 * 256 ^ 33 + 33 * 256 ^ 32 by omega) (show 18 * 256 ^ 33 + 33 * 256 ^ 32 ≤ (23 + 1) * 58 ^ 45 by decide))
    unfold of58 conv
    rw [e]
    have t1 : (18 :: 32 :: l.d).takeWhile (· == 0) = [] := by simp
    have t2 : (18 :: 32 :: l.d).dropWhile (· == 0) = 18 :: 32 :: l.d := by simp
    rw [t1, t2, hval]
    cases hg : digB 58 (18 * 256 ^ 33 + (32 * 256 ^ 32 + valB 256 l.d)) with
    | nil => rw [hg] at hf; simp at hf
    | cons x m =>
      rw [hg] at hf
      simp at hf
      subst hf
      exact ⟨m.map (d58.getD · 0), rfl⟩
  · rw [hv] at h1
    cases h1
end
section
open Go.RowKit Go
theorem grp_len {w : Nat} (hw : 0 < w) : ∀ (k : Nat) (l : List Nat), l.length ≤ k → (grp w l).length = l.length / w
  | 0, l, hk => by
    rw [grp_short (by omega), Nat.div_eq_of_lt (by omega)]
    rfl
  | k + 1, l, hk => by
    rw [grp]
    split
    · rw [Nat.div_eq_of_lt (by omega)]
      rfl
    · rename_i h
      rw [List.length_cons, grp_len hw k (l.drop w) (by rw [List.length_drop]; omega), List.length_drop]
      have : l.length = l.length - w + w := by omega
      rw [this, Nat.add_sub_cancel, Nat.add_div_right _ hw]
theorem of16_len (b : List Nat) : (of16 b).length = 2 * b.length := by
  unfold of16 encW
  rw [List.length_map, grp_len (by decide) _ _ (Nat.le_refl _), List.length_append, flat_len, List.length_replicate]
  omega
theorem of32_len (b : List Nat) : (of32 b).length ≤ 2 * b.length := by
  unfold of32 encW
  rw [List.length_map, grp_len (by decide) _ _ (Nat.le_refl _), List.length_append, flat_len, List.length_replicate]
  omega
theorem digB_len {b : Nat} (hb : 2 ≤ b) : ∀ (k n : Nat), n < b ^ k → (digB b n).length ≤ k
  | 0, n, h => by
    rw [Nat.pow_zero] at h
    have e : n = 0 := by omega
    subst e
    rw [digB_zero]
    simp
  | k + 1, n, h => by
    by_cases hn : n = 0
    · subst hn
      rw [digB_zero]
      simp
    · rw [digB_pos hb (by omega), List.length_append, List.length_singleton]
      have := digB_len hb k (n / b) (Nat.div_lt_of_lt_mul (by rw [Nat.pow_succ, Nat.mul_comm] at h; exact h))
      omega
theorem of58_len {b : List Nat} (hb : ∀ x ∈ b, x < 256) : (of58 b).length ≤ 2 * b.length := by
  unfold of58 conv
  rw [List.length_map, List.length_append, List.length_replicate]
  have hd : ∀ x ∈ b.dropWhile (· == 0), x < 256 := fun x hx => hb x ((List.dropWhile_suffix _).subset hx)
  have hlt := valB_lt (b := 256) (by decide) hd
  have hp : (256 : Nat) ^ (b.dropWhile (· == 0)).length ≤ 58 ^ (2 * (b.dropWhile (· == 0)).length) := by
    rw [Nat.pow_mul]
    exact Nat.pow_le_pow_left (by decide) _
  have h1 := digB_len (b := 58) (by decide) _ _ (Nat.lt_of_lt_of_le hlt hp)
  have h2 := congrArg List.length (List.takeWhile_append_dropWhile (p := (· == 0)) (l := b))
  rw [List.length_append] at h2
  omega
theorem ltextin_len {l : Lk} (h : lok l) (hd : ∀ x ∈ l.d, x < 256) (base : Nat) : (ltextin l base).length ≤ 153 := by
  have h1 := lbytes_len h
  have h2 := of16_len (lbytes l)
  have h3 := of32_len (lbytes l)
  have h4 := of58_len (lbytes_byte h hd)
  unfold ltextin
  split
  · simp
    omega
  · split
    · simp
      omega
    · simp
      omega
theorem ltext_len {l : Lk} (h : lok l) (hd : ∀ x ∈ l.d, x < 256) : (ltext l).length ≤ 153 := by
  have h1 := lbytes_len h
  have h4 := of58_len (lbytes_byte h hd)
  unfold ltext
  split
  · omega
  · exact ltextin_len h hd 2
theorem lparsetext_in {l : Lk} (h : lok l) (hd : ∀ x ∈ l.d, x < 256) (hv : l.v = 1) (base : Nat) : lparsetext (ltextin l base) = (l, 0) := by
  have hb := lbytes_byte h hd
  have hl := ltextin_len h hd base
  have hp := lparse_bytes h
  unfold lparsetext
  rw [if_neg (by omega)]
  have ht : ltake (ltextin l base) = some (1, lbytes l) ∧ ((ltextin l base).head? = some 102 ∨ (ltextin l base).head? = some 98 ∨ (ltextin l base).head? = some 122) := by
    unfold ltextin
    split
    · exact ⟨by show (in16 _).map _ = _; rw [in16_of hb]; rfl, .inl rfl⟩
    · split
      · exact ⟨by show (in32 _).map _ = _; rw [in32_of hb]; rfl, .inr (.inl rfl)⟩
      · exact ⟨by show (in58 _).map _ = _; rw [in58_of hb]; rfl, .inr (.inr rfl)⟩
  rw [if_neg (by rcases ht.2 with e | e | e <;> simp [e]), ht.1]
  simp only [hp]
  simp [hv]
theorem lparsetext_text {l : Lk} (h : lok l) (hd : ∀ x ∈ l.d, x < 256) : lparsetext (ltext l) = (l, 0) := by
  by_cases hv : l.v = 0
  · have hb := lbytes_byte h hd
    have hl := ltext_len h hd
    have hp := lparse_bytes h
    obtain ⟨s, hs⟩ := of58_old h hv hd
    have e : ltext l = 81 :: s := by unfold ltext; rw [if_pos hv]; exact hs
    have hi := in58_of hb
    rw [hs] at hi
    unfold lparsetext
    rw [if_neg (by omega), e, if_neg (by simp)]
    have ht : ltake (81 :: s) = some (0, lbytes l) := by show (in58 (81 :: s)).map _ = _; rw [hi]; rfl
    rw [ht]
    simp only [hp]
    simp [hv]
  · have hv1 : l.v = 1 := by
      rcases h with h | h
      · exact absurd h.1 hv
      · exact h.1
    unfold ltext
    rw [if_neg hv]
    exact lparsetext_in h hd hv1 2
/-- What is read of a text has just that text, or one of its texts in a base. -/
theorem lparsetext_back {s : List Nat} {l : Lk} (h : lparsetext s = (l, 0)) : lok l ∧ (∀ x ∈ l.d, x < 256) ∧ (s = ltext l ∨ (l.v = 1 ∧ ∃ base, 1 ≤ base ∧ base ≤ 3 ∧ s = ltextin l base)) := by
  unfold lparsetext at h
  split at h
  · simp at h
  · split at h
    · simp at h
    · rename_i hne
      cases ht : ltake s with
      | none => rw [ht] at h; simp at h
      | some p =>
        obtain ⟨v, b⟩ := p
        rw [ht] at h
        simp only at h
        split at h
        · rename_i h0
          simp only [Prod.mk.injEq] at h
          exact absurd h.2 h0
        · split at h
          · simp at h
          · rename_i h0 hv
            simp only [Prod.mk.injEq, and_true] at h
            simp only [ne_eq, Decidable.not_not] at h0 hv
            rw [h] at hv
            have hp : lparse b = (l, 0) := by rw [← h, ← h0]
            have key : ∀ {t : List Nat}, (∀ x ∈ b, x < 256) → lok l ∧ lbytes l = b := fun hb => lparse_back hb hp
            have dby : (∀ x ∈ b, x < 256) → lbytes l = b → ∀ x ∈ l.d, x < 256 := fun hb e x hx => hb x (by
              rw [← e]
              unfold lbytes
              split
              · simp [hx]
              · simp [hx])
            unfold ltake at ht
            split at ht
            · rename_i s'
              obtain ⟨b', hb', e⟩ := Option.map_eq_some_iff.1 ht
              simp only [Prod.mk.injEq] at e
              obtain ⟨e1, e2⟩ := e
              subst e2
              have g := of58_in hb'
              have k := key (t := []) g.2
              refine ⟨k.1, dby g.2 k.2, .inl ?_⟩
              unfold ltext
              rw [if_pos (by rw [hv, ← e1]), k.2]
              exact g.1.symm
            · rename_i s'
              obtain ⟨b', hb', e⟩ := Option.map_eq_some_iff.1 ht
              simp only [Prod.mk.injEq] at e
              obtain ⟨e1, e2⟩ := e
              subst e2
              have g := of16_in hb'
              have k := key (t := []) g.2
              refine ⟨k.1, dby g.2 k.2, .inr ⟨by rw [hv, ← e1], 1, by decide, by decide, ?_⟩⟩
              unfold ltextin
              rw [if_pos rfl, k.2, g.1]
            · rename_i s'
              obtain ⟨b', hb', e⟩ := Option.map_eq_some_iff.1 ht
              simp only [Prod.mk.injEq] at e
              obtain ⟨e1, e2⟩ := e
              subst e2
              have g := of32_in hb'
              have k := key (t := []) g.2
              refine ⟨k.1, dby g.2 k.2, .inr ⟨by rw [hv, ← e1], 2, by decide, by decide, ?_⟩⟩
              unfold ltextin
              rw [if_neg (by decide), if_pos rfl, k.2, g.1]
            · rename_i s'
              obtain ⟨b', hb', e⟩ := Option.map_eq_some_iff.1 ht
              simp only [Prod.mk.injEq] at e
              obtain ⟨e1, e2⟩ := e
              subst e2
              have g := of58_in hb'
              have k := key (t := []) g.2
              refine ⟨k.1, dby g.2 k.2, .inr ⟨by rw [hv, ← e1], 3, by decide, by decide, ?_⟩⟩
              unfold ltextin
              rw [if_neg (by decide), if_neg (by decide), k.2, g.1]
            · cases ht
theorem ltext_inj {l m : Lk} (hl : lok l) (hm : lok m) (dl : ∀ x ∈ l.d, x < 256) (dm : ∀ x ∈ m.d, x < 256) (h : ltext l = ltext m) : l = m := by
  have e1 := lparsetext_text hl dl
  have e2 := lparsetext_text hm dm
  rw [h, e2] at e1
  simp only [Prod.mk.injEq, and_true] at e1
  exact e1.symm
end
section
open Go.RowKit Go
theorem below_alloc4 (w : World) (o : Obj) : Below w.heap.size w (w.alloc o) := (Below.refl _ _).alloc (Nat.le_refl _) _
set_option maxRecDepth 1000000 in
set_option maxHeartbeats 1000000 in
theorem refCheck_any (w : World) (v : Int) (c h : Nat) (s : ByteArray) (hh : h < 18446744073709551616) (hs : s.size ≤ 9223372036854775807) :
    Calls Tryd.prog 46 #[.agg #[.int .i64 v, .int .u64 (c : Nat), .int .u64 (h : Nat), .string s]] w fun e w' => e = .returned (.int .i64 (if lok ⟨v, c, h, sl s⟩ then 0 else 40)) ∧ Below w.heap.size w w' := by
  generalize hR : (if lok ⟨v, c, h, sl s⟩ then (0 : Int) else 40) = R
  have HR := hide hR
  have HSL := hide (sl_len s)
  clear hR
  by_cases hv0 : v = 0
  · subst hv0
    have HE : Hid (lok ⟨0, c, h, sl s⟩ ↔ c = 112 ∧ h = 18 ∧ s.size = 32) := by
      show _ ↔ _
      unfold lok
      simp [sl_len]
    by_cases h1 : c = 112
    · by_cases h2 : h = 18
      · by_cases h3 : s.size = 32
        · have HZ : Hid (R = 0) := by show _ = _; rw [← HR.out, if_pos (HE.out.2 ⟨h1, h2, h3⟩)]
          subst h1
          subst h2
          have g3 : ((s.size : Int) == 32) = true := beq_iff_eq.2 (by omega)
          clear h3 HE HR
          go_enter Tryd.func46, Tryd.ntmps46
          go_wp2_with fail
          go_ret
          exact ⟨by rw [HZ.out]; rfl, below_alloc4 w _⟩
        · have HZ : Hid (R = 40) := by show _ = _; rw [← HR.out, if_neg (fun e => h3 (HE.out.1 e).2.2)]
          subst h1
          subst h2
          have g3 : ((s.size : Int) == 32) = false := beq_eq_false_iff_ne.2 (by omega)
          clear h3 HE HR
          go_enter Tryd.func46, Tryd.ntmps46
          go_wp2_with fail
          go_ret
          exact ⟨by rw [HZ.out]; rfl, below_alloc4 w _⟩
      · have HZ : Hid (R = 40) := by show _ = _; rw [← HR.out, if_neg (fun e => h2 (HE.out.1 e).2.1)]
        subst h1
        have g3 : ((h : Int) == 18) = false := beq_eq_false_iff_ne.2 (by omega)
        clear h2 HE HR
        go_enter Tryd.func46, Tryd.ntmps46
        go_wp2_with fail
        go_ret
        exact ⟨by rw [HZ.out]; rfl, below_alloc4 w _⟩
    · have HZ : Hid (R = 40) := by show _ = _; rw [← HR.out, if_neg (fun e => h1 (HE.out.1 e).1)]
      have g3 : ((c : Int) == 112) = false := beq_eq_false_iff_ne.2 (by omega)
      clear h1 HE HR
      go_enter Tryd.func46, Tryd.ntmps46
      go_wp2_with fail
      go_ret
      exact ⟨by rw [HZ.out]; rfl, below_alloc4 w _⟩
  · have g0 : (v == 0) = false := beq_eq_false_iff_ne.2 hv0
    by_cases hv1 : v = 1
    · subst hv1
      have HE : Hid (lok ⟨1, c, h, sl s⟩ ↔ c < 9223372036854775808 ∧ (dlay h (sl s)).2 = 0) := by as_aux_lemma =>
        show _ ↔ _
        rw [dlay_okd]
        unfold lok
        simp
      have cv := conv_sb (w.alloc (.cells #[.int .i64 1, .int .u64 (c : Nat), .int .u64 (h : Nat), .string s] 35)) s
      have hb0 := below_alloc4 w (.cells #[.int .i64 1, .int .u64 (c : Nat), .int .u64 (h : Nat), .string s] 35)
      have HB1 : Hid (Below w.heap.size w (Lib.bytesWorld (w.alloc (.cells #[.int .i64 1, .int .u64 (c : Nat), .int .u64 (h : Nat), .string s] 35)) 5 s)) := hb0.trans ((conv_sb_below _ s).mono hb0.size)
      have HS1 := hide (conv_sb_bsl (w.alloc (.cells #[.int .i64 1, .int .u64 (c : Nat), .int .u64 (h : Nat), .string s] 35)) s hs)
      have q1 : (Lib.bytesWorld (w.alloc (.cells #[.int .i64 1, .int .u64 (c : Nat), .int .u64 (h : Nat), .string s] 35)) 5 s).heap[w.heap.size]? = some (.cells #[.int .i64 1, .int .u64 (c : Nat), .int .u64 (h : Nat), .string s] 35 (0, 0)) := by
        rw [Lib.bytesWorld_at_old _ _ _ _ (by simp)]
        exact heap_alloc_new w _
      have HQ1 := hide q1
      have hz0 : (w.alloc (.cells #[.int .i64 1, .int .u64 (c : Nat), .int .u64 (h : Nat), .string s] 35)).heap.size = w.heap.size + 1 := by simp
      rw [hz0] at HS1
      clear hb0 q1 hv0 g0 hz0
      generalize hn : (c : Int) = n at *
      have HN := hide hn
      clear hn
      go_enter Tryd.func46, Tryd.ntmps46
      go_wp2_with fail
      clear cv
      generalize grownCap (w.alloc (.cells #[.int .i64 1, .int .u64 n, .int .u64 (h : Nat), .string s] 35)) s.size 0 5 = G at *
      generalize Lib.bytesWorld (w.alloc (.cells #[.int .i64 1, .int .u64 n, .int .u64 (h : Nat), .string s] 35)) 5 s = w1 at *
      refine (refDLay_any w1 h _ (sl s) hh HS1.out).mono ?_
      rintro e w2 ⟨v2, rfl, _, hb2⟩
      have HB2 : Hid (Below w.heap.size w w2) := HB1.out.trans (hb2.mono HB1.out.size)
      have q1 : w2.cell? ⟨w.heap.size, 1, none⟩ = some (.int .u64 n) := blk_cell ((hb2.block _ (blk_lt HQ1.out)).trans HQ1.out) rfl
      clear hb2 HS1 HB1 HQ1
      by_cases hc63 : n < 9223372036854775808
      · by_cases hl0 : (dlay h (sl s)).2 = 0
        · as_aux_lemma =>
          have HZ : Hid (R = 0) := by show _ = _; rw [← HR.out, if_pos (HE.out.2 ⟨by have := HN.out; omega, hl0⟩)]
          rw [hl0]
          clear HE HR HN
          go_wp2_with fail
          go_ret
          exact ⟨by rw [HZ.out]; rfl, HB2.out⟩
        · as_aux_lemma =>
          have HZ : Hid (R = 40) := by show _ = _; rw [← HR.out, if_neg (fun e => hl0 (HE.out.1 e).2)]
          have g3 : (((dlay h (sl s)).2 : Int) == 0) = false := beq_eq_false_iff_ne.2 (by omega)
          generalize (dlay h (sl s)).2 = E at *
          clear HE HR HN
          go_wp2_with fail
          go_ret
          exact ⟨by rw [HZ.out]; rfl, HB2.out⟩
      · as_aux_lemma =>
        have HZ : Hid (R = 40) := by show _ = _; rw [← HR.out, if_neg (fun e => hc63 (by have := (HE.out.1 e).1; have := HN.out; omega))]
        have g2' : (9223372036854775808 : Int) ≤ n := by omega
        generalize (dlay h (sl s)).2 = E at *
        clear HE HR HN hc63
        go_wp2_with fail
        go_ret
        exact ⟨by rw [HZ.out]; rfl, HB2.out⟩
    · have g1 : (v == 1) = false := beq_eq_false_iff_ne.2 hv1
      have HZ : Hid (R = 40) := by
        show _ = _
        rw [← HR.out, if_neg]
        rintro (h1 | h1)
        · exact hv0 h1.1
        · exact hv1 h1.1
      clear HR
      go_enter Tryd.func46, Tryd.ntmps46
      go_wp2_with fail
      go_ret
      exact ⟨by rw [HZ.out]; rfl, below_alloc4 w _⟩
end
section
open Go.RowKit Go
theorem digs_ge {k n : Nat} (hk : k < 9) (hn : 128 ≤ n) : digs (9 - k) n = (n % 128 + 128) :: digs (9 - (k + 1)) (n / 128) := by
  obtain ⟨f, hf⟩ : ∃ f, 9 - k = f + 1 := ⟨8 - k, by omega⟩
  rw [hf, digs_big hn]
  congr 2
  omega
theorem digs_lt {k n : Nat} (hk : k < 9) (hn : n < 128) : digs (9 - k) n = [n] := by
  obtain ⟨f, hf⟩ : ∃ f, 9 - k = f + 1 := ⟨8 - k, by omega⟩
  rw [hf, digs_small hn]

set_option maxRecDepth 1000000 in
set_option maxHeartbeats 1000000 in
theorem refVarint_any (w : World) (n : Nat) (hn : n < 9223372036854775808) :
    Calls Tryd.prog 59 #[.int .u64 (n : Nat)] w fun e w' => ∃ v, e = .returned v ∧ w'.ownsRow w.heap.size 5 1 v (digs 9 n).length (bv (digs 9 n)) ∧ Below w.heap.size w w' := by
  have HN := hide hn
  go_enter Tryd.func59, Tryd.ntmps59
  go_wp2_with fail
  go_loopw [0, 3] (fun nn vv wx => ∃ (m : Nat) (ds : List Nat), m < 9223372036854775808 ∧ nn = .int .u64 (m : Nat) ∧ Hid (ds.length < 9 ∧ m < 128 ^ (9 - ds.length) ∧ ds ++ digs (9 - ds.length) m = digs 9 n ∧ ∀ x ∈ ds, x < 256) ∧ Hid (wx.ownsRow w.heap.size 5 1 vv ds.length (bv ds)) ∧ Hid (Below w.heap.size w wx)) (fun nn _ _ => (intOf nn).toNat)
  case atStart => exact ⟨n, [], hn, rfl, ⟨by decide, by simpa using hn, rfl, by simp⟩, ⟨rfl, .inl ⟨rfl, rfl⟩⟩, Below.refl _ _⟩
  case round =>
    obtain ⟨m, ds, hm, rfl, HI, HO, HB⟩ := hrel
    by_cases hge : 128 ≤ m
    · have g1 : (128 : Int) ≤ (m : Int) := by omega
      have HL := hide (one_bsl wr (m % 128 + 128) (by omega))
      have HA := hide (HO.out.alloc (.cells #[.int .u8 ((m % 128 + 128 : Nat) : Int)] 5))
      have HZ : Hid (ds.length + ([m % 128 + 128] : List Nat).length ≤ 140737488355328) := by have := HI.out.1; show _ ≤ _; simp; omega
      have HBZ : Hid (w.heap.size ≤ (wr.alloc (.cells #[.int .u8 ((m % 128 + 128 : Nat) : Int)] 5)).heap.size) := by have := HB.out.size; show _ ≤ _; simp; omega
      have HBA : Hid (Below w.heap.size w (wr.alloc (.cells #[.int .u8 ((m % 128 + 128 : Nat) : Int)] 5))) := HB.out.alloc HB.out.size _
      have HI2 : Hid ((ds ++ [m % 128 + 128]).length < 9 ∧ m / 128 < 128 ^ (9 - (ds ++ [m % 128 + 128]).length) ∧ (ds ++ [m % 128 + 128]) ++ digs (9 - (ds ++ [m % 128 + 128]).length) (m / 128) = digs 9 n ∧ ∀ x ∈ ds ++ [m % 128 + 128], x < 256) := by
        obtain ⟨h1, h2, h3, h4⟩ := HI.out
        rw [List.length_append, List.length_singleton]
        obtain ⟨f, hf⟩ : ∃ f, 9 - ds.length = f + 1 := ⟨8 - ds.length, by omega⟩
        rw [hf] at h2
        obtain ⟨g, hg, hlt⟩ := fuel_down hge h2
        have e : 9 - (ds.length + 1) = g + 1 := by omega
        refine ⟨by omega, by rw [e]; exact hlt, ?_, fun x hx => ?_⟩
        · rw [List.append_assoc, ← h3, digs_ge h1 hge]
          rfl
        · rcases List.mem_append.1 hx with hx | hx
          · exact h4 x hx
          · simp at hx
            omega
      obtain ⟨a3, c3, hu3, _⟩ := own_form HO.out
      subst hu3
      have hq1 : (m : Int) % 128 = ((m % 128 : Nat) : Int) := by omega
      have hq2 : (m : Int) / 128 = ((m / 128 : Nat) : Int) := by omega
      have hq3 : m % 128 < 128 := Nat.mod_lt _ (by decide)
      have hq4 : m / 128 < m := by omega
      have hq5 : (128 : Int) + ((m % 128 : Nat) : Int) = ((m % 128 + 128 : Nat) : Int) := by omega
      have hq6 : ((m % 128 + 128 : Nat) : Int) < 256 := by omega
      generalize m % 128 + 128 = xx at *
      generalize m % 128 = rr at *
      generalize m / 128 = qq at *
      go_wp2_with (at_builtin; refine append_bsl rfl _ _ rfl w.heap.size _ ds.length ds rfl HA.out _ [xx] rfl HL.out HZ.out HBZ.out ?_)
      intro v7 w7 ho7 hg7
      have HB7 : Hid (Below w.heap.size w w7) := HBA.out.grown hg7 HBZ.out (fun g hg => (HA.out.lt g hg).1)
      have HO7 : Hid (w7.ownsRow w.heap.size 5 1 v7 (ds ++ [xx]).length (bv (ds ++ [xx]))) := by show World.ownsRow _ _ _ _ _ _ _; rw [List.length_append]; exact ho7
      clear ho7 hg7 HA HL HO HB HBA
      go_wp2_with fail
      go_roundw
      case rel => exact ⟨qq, ds ++ [xx], by omega, by go_num, HI2, HO7, HB7⟩
      case measure => simp [intOf]; omega
    · have g1 : ¬ (128 : Int) ≤ (m : Int) := by omega
      have hm3 : m < 128 := by omega
      have HL := hide (one_bsl wr m (by omega))
      have HA := hide (HO.out.alloc (.cells #[.int .u8 (m : Int)] 5))
      have HZ : Hid (ds.length + ([m] : List Nat).length ≤ 140737488355328) := by have := HI.out.1; show _ ≤ _; simp; omega
      have HBZ : Hid (w.heap.size ≤ (wr.alloc (.cells #[.int .u8 (m : Int)] 5)).heap.size) := by have := HB.out.size; show _ ≤ _; simp; omega
      have HBA : Hid (Below w.heap.size w (wr.alloc (.cells #[.int .u8 (m : Int)] 5))) := HB.out.alloc HB.out.size _
      have HE : Hid (ds ++ [m] = digs 9 n) := by
        obtain ⟨h1, h2, h3, h4⟩ := HI.out
        show _ = _
        rw [← h3, digs_lt h1 hm3]
      obtain ⟨a3, c3, hu3, _⟩ := own_form HO.out
      subst hu3
      go_wp2_with (at_builtin; refine append_bsl rfl _ _ rfl w.heap.size _ ds.length ds rfl HA.out _ [m] rfl HL.out HZ.out HBZ.out ?_)
      intro v7 w7 ho7 hg7
      have HB7 : Hid (Below w.heap.size w w7) := HBA.out.grown hg7 HBZ.out (fun g hg => (HA.out.lt g hg).1)
      have HO7 : Hid (w7.ownsRow w.heap.size 5 1 v7 (digs 9 n).length (bv (digs 9 n))) := by show World.ownsRow _ _ _ _ _ _ _; rw [← HE.out, List.length_append]; exact ho7
      obtain ⟨a7, c7, hu7, _⟩ := own_form ho7
      subst hu7
      clear ho7 hg7 HA HL HO HB HBA
      go_wp2_with fail
      go_ret
      exact ⟨_, rfl, HO7.out, HB7.out⟩
end
section
open Go.RowKit Go
theorem lit_row4 (w : World) (B x : Nat) (hB : B ≤ w.heap.size) : (w.alloc (.cells #[.int .u8 ((x : Nat) : Int)] 5)).ownsRow B 5 1 (.slice (some ⟨w.heap.size, 0, none⟩) 1 1) 1 (bv [x]) :=
  ⟨rfl, .inr ⟨w.heap.size, 1, _, rfl, hB, heap_alloc_new w _, Nat.le_refl _, by unfold maxLen; omega, rfl, rfl⟩⟩
theorem own_mono4 {w : World} {b b' : Nat} {v : Value} {n : Nat} {xs : List Value} (h : w.ownsRow b 5 1 v n xs) (hb : b' ≤ b) : w.ownsRow b' 5 1 v n xs := by
  refine ⟨h.1, ?_⟩
  rcases h.2 with h1 | ⟨g, cap, cur, e, hg, r⟩
  · exact .inl h1
  · exact .inr ⟨g, cap, cur, e, Nat.le_trans hb hg, r⟩
theorem own_below4 {w w' : World} {b : Nat} {v : Value} {n : Nat} {xs : List Value} (h : w.ownsRow b 5 1 v n xs) (hb : Below w.heap.size w w') : w'.ownsRow b 5 1 v n xs := (Kp.of_below (S := fun _ => False) hb).owns h (fun _ _ e => e)

set_option maxRecDepth 1000000 in
set_option maxHeartbeats 1000000 in
theorem refBytes_any (w : World) (v : Int) (c h : Nat) (s : ByteArray) (hh : h < 18446744073709551616) (hs : s.size ≤ 9223372036854775807) :
    Calls Tryd.prog 35 #[.agg #[.int .i64 v, .int .u64 (c : Nat), .int .u64 (h : Nat), .string s]] w fun e w' => ∃ v', e = .returned (.tuple #[v', .int .i64 (if lok ⟨v, c, h, sl s⟩ then 0 else 40)]) ∧ w'.ownsRow w.heap.size 5 1 v' (if lok ⟨v, c, h, sl s⟩ then lbytes ⟨v, c, h, sl s⟩ else []).length (bv (if lok ⟨v, c, h, sl s⟩ then lbytes ⟨v, c, h, sl s⟩ else [])) ∧ Below w.heap.size w w' := by
  have HSL := hide (sl_len s)
  have HH := hide hh
  have HT : Hid ((w.alloc (.cells #[.int .i64 v, .int .u64 (c : Nat), .int .u64 (h : Nat), .string s] 35)).heap[w.heap.size]? = some (.cells #[.int .i64 v, .int .u64 (c : Nat), .int .u64 (h : Nat), .string s] 35 (0, 0))) := heap_alloc_new w _
  have HB := hide (below_alloc4 w (.cells #[.int .i64 v, .int .u64 (c : Nat), .int .u64 (h : Nat), .string s] 35))
  by_cases hl : lok ⟨v, c, h, sl s⟩
  · rw [if_pos hl, if_pos hl]
    have HLK := hide hl
    clear hl
    go_enter Tryd.func35, Tryd.ntmps35
    go_wp2_with fail
    generalize w.alloc (.cells #[.int .i64 v, .int .u64 (c : Nat), .int .u64 (h : Nat), .string s] 35) = w0 at *
    refine (refCheck_any w0 v c h s HH.out hs).mono ?_
    rintro e w1 ⟨rfl, hb1⟩
    rw [if_pos HLK.out]
    have q0 : w1.heap[w.heap.size]? = some (.cells #[.int .i64 v, .int .u64 (c : Nat), .int .u64 (h : Nat), .string s] 35 (0, 0)) := (hb1.block _ (blk_lt HT.out)).trans HT.out
    have HB1 : Hid (Below w.heap.size w w1) := HB.out.trans (hb1.mono HB.out.size)
    have c0 : w1.cell? ⟨w.heap.size, 0, none⟩ = some (.int .i64 v) := blk_cell q0 rfl
    have c1 : w1.cell? ⟨w.heap.size, 1, none⟩ = some (.int .u64 (c : Nat)) := blk_cell q0 rfl
    have c2 : w1.cell? ⟨w.heap.size, 2, none⟩ = some (.int .u64 (h : Nat)) := blk_cell q0 rfl
    have c3 : w1.cell? ⟨w.heap.size, 3, none⟩ = some (.string s) := blk_cell q0 rfl
    have cv := conv_sb w1 s
    go_wp2_with fail
    have HS1 := hide (conv_sb_bsl w1 s hs)
    have HB2 : Hid (Below w.heap.size w (Lib.bytesWorld w1 5 s)) := HB1.out.trans ((conv_sb_below w1 s).mono HB1.out.size)
    have HT2 : Hid ((Lib.bytesWorld w1 5 s).heap[w.heap.size]? = some (.cells #[.int .i64 v, .int .u64 (c : Nat), .int .u64 (h : Nat), .string s] 35 (0, 0))) := (Lib.bytesWorld_at_old w1 5 s _ (blk_lt q0)).trans q0
    clear cv c0 c1 c2 c3 q0 hb1
    generalize grownCap w1 s.size 0 5 = G at *
    generalize w1.heap.size = gg at *
    generalize Lib.bytesWorld w1 5 s = w2 at *
    refine (refDLay_any w2 h _ (sl s) HH.out HS1.out).mono ?_
    rintro e w3 ⟨vd, rfl, ho3, hb3⟩
    have HDL := hide (dlay_ok (lok_okd HLK.out))
    simp only at HDL
    rw [HDL.out] at ho3
    have HE2 : Hid ((dlay h (sl s)).2 = 0) := by show _ = _; rw [HDL.out]
    rw [HE2.out]
    have HO3 := hide ho3
    have HB3 : Hid (Below w.heap.size w w3) := HB2.out.trans (hb3.mono HB2.out.size)
    have q3 : w3.heap[w.heap.size]? = some (.cells #[.int .i64 v, .int .u64 (c : Nat), .int .u64 (h : Nat), .string s] 35 (0, 0)) := (hb3.block _ (blk_lt HT2.out)).trans HT2.out
    have HQ3 := hide q3
    have HWB : Hid (w.heap.size ≤ w2.heap.size) := HB2.out.size
    have c0 : w3.cell? ⟨w.heap.size, 0, none⟩ = some (.int .i64 v) := blk_cell q3 rfl
    have c1 : w3.cell? ⟨w.heap.size, 1, none⟩ = some (.int .u64 (c : Nat)) := blk_cell q3 rfl
    clear ho3 hb3 q3 HS1 HT2 HB2
    obtain ⟨ad, cd, hvd, _⟩ := own_form HO3.out
    subst hvd
    by_cases hv0 : v = 0
    · subst hv0
      have HBY : Hid (lbytes ⟨0, c, h, sl s⟩ = h :: (sl s).length :: sl s) := rfl
      go_wp2_with fail
      go_ret2
      exact ⟨_, rfl, by rw [HBY.out]; exact own_mono4 HO3.out HWB.out, HB3.out⟩
    · have hv1 : v = 1 := by
        rcases HLK.out with h1 | h1
        · exact absurd h1.1 hv0
        · exact h1.1
      subst hv1
      have hc63 : c < 9223372036854775808 := by
        rcases HLK.out with h1 | h1
        · exact absurd h1.1 hv0
        · exact h1.2.1
      have HC := hide hc63
      have HBY : Hid (lbytes ⟨1, c, h, sl s⟩ = 1 :: digs 9 c ++ (h :: (sl s).length :: sl s)) := rfl
      clear hc63 hv0
      have HBYT : Hid (∀ x ∈ h :: (sl s).length :: sl s, x < 256) := by
        have hk := lok_okd HLK.out
        intro x hx
        unfold okd at hk
        simp only [List.mem_cons] at hx
        rcases hx with e | e | e
        · simp only at hk
          omega
        · simp only at hk
          omega
        · exact sl_byte s x e
      have HRL : Hid ((h :: (sl s).length :: sl s).length ≤ 66) := by
        have hk := lok_okd HLK.out
        unfold okd at hk
        simp only at hk
        show _ ≤ _
        simp
        omega
      generalize h :: (sl s).length :: sl s = rw3 at *
      have hb4 := below_alloc4 w3 (.cells #[.int .u8 1] 5)
      have c1a : (w3.alloc (.cells #[.int .u8 1] 5)).cell? ⟨w.heap.size, 1, none⟩ = some (.int .u64 (c : Nat)) := keep_below hb4 _ _ c1
      have HA4 : Hid ((w3.alloc (.cells #[.int .u8 1] 5)).ownsRow w.heap.size 5 1 (.slice (some ⟨w3.heap.size, 0, none⟩) 1 1) 1 (bv [1])) := lit_row4 w3 w.heap.size 1 HB3.out.size
      have HB4 : Hid (Below w.heap.size w (w3.alloc (.cells #[.int .u8 1] 5))) := HB3.out.trans (hb4.mono HB3.out.size)
      have HD4 := hide (own_below4 HO3.out hb4)
      have HDK : Hid (∀ k, (Value.slice ad rw3.length cd).ownBlock = some k → k ≠ w3.heap.size) := fun k hk e => by have := (HO3.out.lt k hk).2; omega
      have HS34 : Hid (w3.heap.size < (w3.alloc (.cells #[.int .u8 1] 5)).heap.size) := by show _ < _; simp
      clear c1 hb4 HQ3
      go_wp2_with fail
      clear c0 c1a
      generalize w3.alloc (.cells #[.int .u8 1] 5) = w4 at *
      refine (refVarint_any w4 c HC.out).mono ?_
      rintro e w5 ⟨vv, rfl, ho5, hb5⟩
      have HV5 : Hid (BSl w5 vv (digs 9 c)) := BSl.own ho5 (fun x hx => by
        have hk := lbytes_byte HLK.out (sl_byte s) x
        exact hk (by rw [HBY.out]; simp [hx]))
      have HA5 := hide (own_below4 HA4.out hb5)
      have HD5 := hide (own_below4 HD4.out hb5)
      have HB5 : Hid (Below w.heap.size w w5) := HB4.out.trans (hb5.mono HB4.out.size)
      have HZ5 : Hid (1 + (digs 9 c).length ≤ 140737488355328) := by have := digs_len 9 c; show _ ≤ _; omega
      clear ho5 hb5 HA4 HD4 HB4
      go_wp2_with (at_builtin; refine append_bsl rfl _ _ rfl w.heap.size _ 1 [1] rfl HA5.out _ (digs 9 c) rfl HV5.out HZ5.out HB5.out.size ?_)
      intro v6 w6 ho6 hg6
      have hk6 : Kp (fun q => q = w3.heap.size) w5 w6 := (Kp.refl _ _).grown hg6 (fun k _ h => by injection h with h; exact h.symm)
      have HD6 : Hid (BSl w6 (.slice ad rw3.length cd) rw3) := BSl.own (hk6.owns HD5.out (fun k hk e => HDK.out k hk e)) HBYT.out
      have HO6 := hide ho6
      have HB6 : Hid (Below w.heap.size w w6) := HB5.out.trans (hk6.below HB5.out.size (fun q e => by have := HB3.out.size; omega))
      have HZ6 : Hid (1 + (digs 9 c).length + rw3.length ≤ 140737488355328) := by have := digs_len 9 c; have := HRL.out; show _ ≤ _; omega
      clear ho6 hg6 hk6 HA5 HD5 HB5 HV5
      go_wp2_with (at_builtin; refine append_bsl rfl _ _ rfl w.heap.size _ (1 + (digs 9 c).length) _ rfl HO6.out _ rw3 rfl HD6.out HZ6.out HB6.out.size ?_)
      intro v7 w7 ho7 hg7
      have HB7 : Hid (Below w.heap.size w w7) := HB6.out.grown hg7 HB6.out.size (fun g hg => (HO6.out.lt g hg).1)
      have HO7 : Hid (w7.ownsRow w.heap.size 5 1 v7 (lbytes ⟨1, c, h, sl s⟩).length (bv (lbytes ⟨1, c, h, sl s⟩))) := by
        show World.ownsRow _ _ _ _ _ _ _
        rw [HBY.out]
        have e : (1 :: digs 9 c ++ rw3).length = 1 + (digs 9 c).length + rw3.length := by simp; omega
        rw [e]
        exact ho7
      clear ho7 hg7 HO6 HD6 HB6
      go_wp2_with fail
      go_ret2
      exact ⟨_, rfl, HO7.out, HB7.out⟩
  · rw [if_neg hl, if_neg hl]
    have HLK := hide hl
    clear hl
    go_enter Tryd.func35, Tryd.ntmps35
    go_wp2_with fail
    generalize w.alloc (.cells #[.int .i64 v, .int .u64 (c : Nat), .int .u64 (h : Nat), .string s] 35) = w0 at *
    refine (refCheck_any w0 v c h s HH.out hs).mono ?_
    rintro e w1 ⟨rfl, hb1⟩
    rw [if_neg HLK.out]
    have HB1 : Hid (Below w.heap.size w w1) := HB.out.trans (hb1.mono HB.out.size)
    clear hb1
    go_wp2_with fail
    go_ret2
    exact ⟨_, rfl, ⟨rfl, .inl ⟨rfl, rfl⟩⟩, HB1.out⟩
end
section
open Go.RowKit Go
/-- A link as a value. -/
def lkv (l : Lk) : Value := .agg #[.int .i64 l.v, .int .u64 (l.c : Nat), .int .u64 (l.h : Nat), .string (nstr l.d)]
set_option maxRecDepth 1000000 in
theorem refDigest_any (w : World) (n : Nat) : Calls Tryd.prog 83 #[.int .i64 (n : Nat)] w fun e w' => e = .returned (.int .i64 (lerr n : Nat)) ∧ w' = w := by
  have HE : Hid (lerr n = if n = 32 ∨ n = 33 then 42 else 43) := rfl
  by_cases h1 : n = 32
  · subst h1
    go_enter Tryd.func83, Tryd.ntmps83
    go_wp2_with fail
    go_ret
    exact ⟨rfl, rfl⟩
  · have g1 : ((n : Int) == 32) = false := beq_eq_false_iff_ne.2 (by omega)
    by_cases h2 : n = 33
    · subst h2
      go_enter Tryd.func83, Tryd.ntmps83
      go_wp2_with fail
      go_ret
      exact ⟨rfl, rfl⟩
    · have g2 : ((n : Int) == 33) = false := beq_eq_false_iff_ne.2 (by omega)
      have HE2 : Hid (lerr n = 43) := by show _ = _; rw [HE.out, if_neg (by omega)]
      clear HE
      go_enter Tryd.func83, Tryd.ntmps83
      go_wp2_with fail
      go_ret
      exact ⟨by rw [HE2.out]; rfl, rfl⟩
end
section
open Go.RowKit Go
set_option maxRecDepth 1000000 in
/-- b[k:] of bytes. -/
theorem wpList_drop {ops : Array Oper} {rest : List Oper} {o : Oper} {a : Act} {Q : Exit → Act → World → Prop} {w : World} (hgd : o.guard = none) (x y : Nat) (ho : o.op = .slice 47 (.tmp x) (some (.tmp y)) none none)
    (v : Value) (xs : List Nat) (k : Nat) (hx : a.eval (.tmp x) = v) (hy : a.eval (.tmp y) = .int .i64 (k : Nat)) (hb : BSl w v xs) (hk : k ≤ xs.length)
    (h : ∀ ad n c, BSl w (.slice ad n c) (xs.drop k) → n = xs.length - k → wpList Tryd.prog ops Q rest (a.put o.dst (.slice ad n c)) w) : wpList Tryd.prog ops Q (o :: rest) a w := by
  have HB := hide hb
  obtain ⟨⟨ad, cap, rfl, hn, hc⟩, hmax, hby⟩ := hb
  have hcap := hn.1
  have hx2 : a.tmps[x]?.getD undef = .slice ad xs.length cap := by simpa [Act.eval] using hx
  have hy2 : a.tmps[y]?.getD undef = .int .i64 (k : Nat) := by simpa [Act.eval] using hy
  refine wpList_plain hgd fun K hK => ?_
  have HK := hide hK
  have HH := hide h
  obtain ⟨dst, op, ty, pos, after, guard⟩ := o
  simp only at ho hgd
  subst ho
  have hki : (k : Int) ≤ (xs.length : Int) := by omega
  have hkc : (k : Int) ≤ (cap : Int) := by omega
  clear hK h hgd hx hy
  cases ad with
  | none =>
    have hc0 := hn.2 rfl
    have hx0 : xs.length = 0 := by omega
    have hk0 : k = 0 := by omega
    subst hk0
    have hxe : xs = [] := List.eq_nil_of_length_eq_zero hx0
    subst hxe
    subst hc0
    go_simp
    exact HK.out _ _ (HH.out none 0 0 ⟨⟨none, 0, rfl, ⟨Nat.le_refl _, fun _ => rfl⟩, .inl rfl⟩, by simp, by simp⟩ rfl)
  | some ad =>
    have HC := hide hc
    clear hc hn
    by_cases hkk : k = cap
    · have hxk : xs.length = k := by omega
      have hdr : xs.drop k = [] := List.drop_of_length_le (by omega)
      subst hkk
      rw [hxk] at hx2 hki
      go_simp
      exact HK.out _ _ (HH.out (some ad) 0 0 (by rw [hdr]; exact ⟨⟨some ad, 0, rfl, ⟨Nat.le_refl _, fun e => by cases e⟩, .inl rfl⟩, by simp, by simp⟩) (by omega))
    · have hkl : (k : Int) < (cap : Int) := by omega
      have hkk2 : ¬ cap = k := fun e => hkk e.symm
      go_simp
      refine HK.out _ _ (HH.out (some (ad.add k)) (xs.length - k) (cap - k) ?_ rfl)
      have hlen : (xs.drop k).length = xs.length - k := List.length_drop
      refine ⟨⟨some (ad.add k), cap - k, by rw [hlen], ⟨by rw [hlen]; omega, fun e => by cases e⟩, ?_⟩, by rw [hlen]; omega, fun z hz => hby z (List.mem_of_mem_drop hz)⟩
      rcases HC.out with hx0 | ⟨b, off, e, hcell⟩
      · left
        rw [hx0]
        simp
      · right
        injection e with e
        subst e
        have hadd : (⟨b, off, none⟩ : Addr).add k = ⟨b, off + k, none⟩ := by unfold Addr.add; split <;> simp_all
        rw [hadd]
        refine ⟨b, off + k, rfl, fun j hj => ?_⟩
        rw [hlen] at hj
        have h2 := hcell (k + j) (by omega)
        rw [← Nat.add_assoc] at h2
        rw [h2]
        simp [List.getD, List.getElem?_drop]
end
section
open Go.RowKit Go
/-- No link, as cells. -/
def zlk : Array Value := #[.int .i64 0, .int .u64 0, .int .u64 0, .string ⟨#[]⟩]
theorem info61 : (Tryd.prog.info? 35).map (·.size) = some 4 := by kernel_rfl
/-- What First has in hand: the result's block and the link's. -/
structure Fq (w wx : World) (R L : Nat) (lv : Array Value) : Prop where
  r : wx.heap[R]? = some (.cells zlk 35 (0, 0))
  l : wx.heap[L]? = some (.cells lv 35 (0, 0))
  b : Below w.heap.size w wx
  rb : w.heap.size ≤ R
  lb : w.heap.size ≤ L
  ne : R ≠ L
theorem Fq.below {w wx wy : World} {R L : Nat} {lv : Array Value} (h : Fq w wx R L lv) (hb : Below wx.heap.size wx wy) : Fq w wy R L lv :=
  ⟨(hb.block R (blk_lt h.r)).trans h.r, (hb.block L (blk_lt h.l)).trans h.l, h.b.trans (hb.mono h.b.size), h.rb, h.lb, h.ne⟩
theorem Fq.set {w wx : World} {R L : Nat} {lv : Array Value} (h : Fq w wx R L lv) (j : Nat) (v : Value) : Fq w (wx.setCell ⟨L, j, none⟩ v) R L (lv.setIfInBounds j v) := by
  have hk : Kp (fun q => q = L) wx (wx.setCell ⟨L, j, none⟩ v) := (Kp.refl _ _).setCell _ _ (fun _ => rfl)
  have lb := h.lb
  exact ⟨(hk.block R (blk_lt h.r) h.ne).trans h.r, blk_set j v h.l, h.b.trans (hk.below h.b.size (fun q e => by omega)), h.rb, h.lb, h.ne⟩
theorem results_c3 {fn : Func} {p u q : Tmp} {ty : TypeId} (h : fn.results = #[.cell p ty, .tmp u, .tmp q]) (tmps : Array Value) (P : Program) (w : World) :
    (results fn tmps).run P w = ((asAddr (tmps.getD p undef)).run P w).andThen fun a w₁ => ((loadVar ty a).run P w₁).andThen fun v w₂ => .ok (.tuple #[v, tmps.getD u undef, tmps.getD q undef]) w₂ := by
  simp only [results, h]
  simp [Sem.run_bind, Result.andThen]
/-- First's end. -/
theorem first_end {wx : World} {R : Nat} {cs : Array Value} {x y : Value} {tmps : Array Value} (hr : wx.heap[R]? = some (.cells cs 35 (0, 0))) (hs : cs.size = 4) (hp : tmps.getD 2 undef = .pointer (some ⟨R, 0, none⟩)) (hx : tmps.getD 3 undef = x) (hy : tmps.getD 4 undef = y) :
    (results Tryd.f66 tmps).run Tryd.prog wx = .ok (.tuple #[.agg cs, x, y]) wx := by
  refine (results_c3 rfl _ _ _).trans ?_
  rw [hp, hx, hy]
  have h1 := run_loadVar_row (P := Tryd.prog) wx R 35 35 cs (0, 0) _ hr Tryd.underlying35 rfl (by rw [hs]; exact info61)
  simp [asAddr, h1, Result.andThen]

/-- No link is laid where none is. -/
theorem wpList_zero {ops : Array Oper} {rest : List Oper} {o : Oper} {a : Act} {Q : Exit → Act → World → Prop} {w : World} {p x : Operand} (hgd : o.guard = none) (ho : o.op = .store 35 p x) (g : Nat)
    (hp : a.eval p = .pointer (some ⟨g, 0, none⟩)) (hx : a.eval x = .agg zlk) (hg : w.heap[g]? = some (.cells zlk 35 (0, 0))) (h : wpList Tryd.prog ops Q rest (a.put o.dst undef) w) : wpList Tryd.prog ops Q (o :: rest) a w := by
  refine wpList_storeRow hgd ho g zlk zlk 35 hp hx hg info61 rfl (by kernel_rfl) ?_
  rw [setRow_self w g zlk 35 (0, 0) hg]
  exact h

set_option maxRecDepth 1000000 in
set_option maxHeartbeats 1000000 in
theorem lFirst_none (w : World) (a : Option Addr) (cap : Nat) (hb : BSl w (.slice a 0 cap) []) :
    Calls Tryd.prog 66 #[.slice a 0 cap] w fun e w' => e = .returned (.tuple #[.agg zlk, .int .i64 0, .int .i64 42]) ∧ Below w.heap.size w w' := by
  have HB := hide hb
  have HN : Hid (dnum [] = (0, 0, 32)) := rfl
  have HF0 : Hid (Fq w ((w.alloc (.cells zlk 35)).alloc (.cells #[.int .i64 0, .int .u64 112, .int .u64 0, .string ⟨#[]⟩] 35)) w.heap.size (w.heap.size + 1) #[.int .i64 0, .int .u64 112, .int .u64 0, .string ⟨#[]⟩]) := by
    have h1 := heap_alloc_new w (.cells zlk 35)
    have h2 := heap_alloc_new (w.alloc (.cells zlk 35)) (.cells #[.int .i64 0, .int .u64 112, .int .u64 0, .string ⟨#[]⟩] 35)
    have e : (w.alloc (.cells zlk 35)).heap.size = w.heap.size + 1 := by simp
    rw [e] at h2
    exact ⟨blk_alloc _ h1, h2, (below_alloc4 w _).trans ((below_alloc4 _ _).mono (by simp)), by omega, by omega, by omega⟩
  unfold zlk at HF0
  go_enter Tryd.func66, Tryd.ntmps66
  go_wp2_with fail
  generalize (w.alloc (.cells #[.int .i64 0, .int .u64 0, .int .u64 0, .string ⟨#[]⟩] 35)).alloc (.cells #[.int .i64 0, .int .u64 112, .int .u64 0, .string ⟨#[]⟩] 35) = w0 at *
  refine (refNumber_any w0 _ [] (HB.out.move (keep_below HF0.out.b))).mono ?_
  rintro e w1 ⟨rfl, hk1⟩
  have HF1 := hide (HF0.out.below (hk1.below (Nat.le_refl _) (fun _ h => h.elim)))
  have HR1 := hide HF1.out.r
  clear hk1
  rw [HN.out]
  simp only [dnumR]
  go_wp2_with (refine wpList_zero rfl rfl w.heap.size rfl rfl HR1.out ?_)
  exact bodyPost_ret (first_end HR1.out rfl rfl rfl rfl) rfl ⟨rfl, HF1.out.b⟩
end
section
open Go.RowKit Go
theorem dread_bytes4 {xs : List Nat} (h : ∀ x ∈ xs, x < 256) : ∀ x ∈ (dread xs).2.1, x < 256 := by
  intro x hx
  unfold dread at hx
  repeat' split at hx
  all_goals first | (simp at hx; done) | exact h x (List.mem_of_mem_drop (List.mem_of_mem_take hx))
set_option maxRecDepth 1000000 in
set_option maxHeartbeats 2000000 in
theorem lFirst_any (w : World) (v : Value) (b : List Nat) (hb : BSl w v b) :
    Calls Tryd.prog 66 #[v] w fun e w' => e = .returned (.tuple #[lkv (lfirst b).1, .int .i64 ((lfirst b).2.1 : Nat), .int .i64 ((lfirst b).2.2 : Nat)]) ∧ Below w.heap.size w w' := by
  have HB := hide hb
  obtain ⟨⟨a, cap, rfl, hn, hc⟩, hmax, hby⟩ := hb
  by_cases h0 : b = []
  · subst h0
    exact (lFirst_none w a cap HB.out).mono fun e w' ⟨he, hb⟩ => ⟨he, hb⟩
  · have hpos : 0 < b.length := List.length_pos_iff.2 h0
    have g0 : ((b.length : Int) == 0) = false := beq_eq_false_iff_ne.2 (by omega)
    have g00 : (0 : Int) < (b.length : Int) := by omega
    obtain ⟨bb, off, rfl, hcell⟩ := hc.resolve_left h0
    have hc0 := hcell 0 hpos
    rw [Nat.add_zero] at hc0
    have HF0 : Hid (Fq w ((w.alloc (.cells zlk 35)).alloc (.cells #[.int .i64 0, .int .u64 112, .int .u64 0, .string ⟨#[]⟩] 35)) w.heap.size (w.heap.size + 1) #[.int .i64 0, .int .u64 112, .int .u64 0, .string ⟨#[]⟩]) := by
      have h1 := heap_alloc_new w (.cells zlk 35)
      have h2 := heap_alloc_new (w.alloc (.cells zlk 35)) (.cells #[.int .i64 0, .int .u64 112, .int .u64 0, .string ⟨#[]⟩] 35)
      have e : (w.alloc (.cells zlk 35)).heap.size = w.heap.size + 1 := by simp
      rw [e] at h2
      exact ⟨blk_alloc _ h1, h2, (below_alloc4 w _).trans ((below_alloc4 _ _).mono (by simp)), by omega, by omega, by omega⟩
    unfold zlk at HF0
    have cx : ((w.alloc (.cells #[.int .i64 0, .int .u64 0, .int .u64 0, .string ⟨#[]⟩] 35)).alloc (.cells #[.int .i64 0, .int .u64 112, .int .u64 0, .string ⟨#[]⟩] 35)).cell? ⟨bb, off, none⟩ = some (.int .u8 ((b.getD 0 0 : Nat) : Int)) := keep_below HF0.out.b _ _ hc0
    clear hc hcell hc0
    by_cases h18 : b.getD 0 0 = 18
    · have HLF : Hid (lfirst b = lthird 0 112 0 b) := by
        show _ = _
        unfold lfirst
        rw [if_pos (by cases b with | nil => exact absurd rfl h0 | cons x r => simpa using h18)]
      rw [h18] at cx
      have HAT : Hid (0 ≤ b.length) := Nat.zero_le _
      clear h18 h0 hpos
      go_enter Tryd.func66, Tryd.ntmps66
      have HBV := hide (HB.out.move (keep_below HF0.out.b))
      generalize hw0 : (w.alloc (.cells #[.int .i64 0, .int .u64 0, .int .u64 0, .string ⟨#[]⟩] 35)).alloc (.cells #[.int .i64 0, .int .u64 112, .int .u64 0, .string ⟨#[]⟩] 35) = w0 at HF0 cx HBV
      subst hw0
      have HFX := HF0
      go_wp2_with (refine wpList_drop rfl 56 57 rfl _ b 0 rfl rfl HBV.out HAT.out ?_)
      intro ad nd cd hbd hnd
      have HBD := hide hbd
      clear hbd hnd
      go_wp2_with fail
      refine (refDRead_any _ _ (b.drop 0) HBD.out).mono ?_
      rintro e w5 ⟨vd, rfl, ho5, hb5⟩
      have HF5 := hide (HFX.out.below hb5)
      have HVD := hide (BSl.own ho5 (dread_bytes4 (fun x hx => hby x (List.mem_of_mem_drop hx))))
      obtain ⟨ae, ce, hve, _⟩ := own_form ho5
      subst hve
      have HVL : Hid (∀ k, (Value.slice ae (dread (b.drop 0)).2.1.length ce).ownBlock = some k → ¬ k = w.heap.size + 1) := fun k hk e => own_not ho5 HF5.out.l (by decide) (by rw [← e]; exact hk)
      clear ho5 hb5
      by_cases hre : (dread (b.drop 0)).2.2.2 = 0
      · as_aux_lemma =>
        have HE : Hid (lthird 0 112 0 b = (⟨0, 112, (dread (b.drop 0)).1, (dread (b.drop 0)).2.1⟩, 0 + (dread (b.drop 0)).2.2.1, 0)) := by show _ = _; unfold lthird; rw [if_pos hre]
        have hnr : (((dread (b.drop 0)).2.2.1 : Nat) : Int) ≤ 9223372036854775807 := by have h1 := (dread_back hre).1; rw [List.length_drop] at h1; omega
        rw [hre]
        generalize (dread (b.drop 0)).2.2.1 = nr at *
        generalize (dread (b.drop 0)).1 = hr at *
        generalize (dread (b.drop 0)).2.1 = dr at *
        have q2 : w5.cell? ⟨w.heap.size + 1, 2, none⟩ = some (.int .u64 0) := blk_cell HF5.out.l rfl
        have f2 : w5.frozen? ⟨w.heap.size + 1, 2, none⟩ = false := blk_frozen 2 HF5.out.l
        have HF6 := hide (HF5.out.set 2 (.int .u64 (hr : Nat)))
        have hk6 : Kp (fun q => q = w.heap.size + 1) w5 (w5.setCell ⟨w.heap.size + 1, 2, none⟩ (.int .u64 (hr : Nat))) := (Kp.refl _ _).setCell _ _ (fun _ => rfl)
        have cv := (hk6.bsl HVD.out HVL.out).text
        have q3 : (w5.setCell ⟨w.heap.size + 1, 2, none⟩ (.int .u64 (hr : Nat))).cell? ⟨w.heap.size + 1, 3, none⟩ = some (.string ⟨#[]⟩) := blk_cell HF6.out.l rfl
        have f3 : (w5.setCell ⟨w.heap.size + 1, 2, none⟩ (.int .u64 (hr : Nat))).frozen? ⟨w.heap.size + 1, 3, none⟩ = false := blk_frozen 3 HF6.out.l
        have HF7 := hide (HF6.out.set 3 (.string (nstr dr)))
        have HL7 : Hid (((w5.setCell ⟨w.heap.size + 1, 2, none⟩ (.int .u64 (hr : Nat))).setCell ⟨w.heap.size + 1, 3, none⟩ (.string (nstr dr))).heap[w.heap.size + 1]? = some (.cells #[.int .i64 0, .int .u64 112, .int .u64 (hr : Nat), .string (nstr dr)] 35 (0, 0))) := HF7.out.l
        have HR7 := hide HF7.out.r
        have HB7 := hide HF7.out.b
        clear hk6 HF5 HF6 HF7
        go_wp2_with (first
          | (refine wpList_loadAll rfl rfl (w.heap.size + 1) #[.int .i64 0, .int .u64 112, .int .u64 (hr : Nat), .string (nstr dr)] 35 rfl HL7.out Tryd.underlying35 info61 ?_)
          | (refine wpList_storeRow rfl rfl w.heap.size zlk #[.int .i64 0, .int .u64 112, .int .u64 (hr : Nat), .string (nstr dr)] 35 rfl rfl HR7.out info61 rfl (by kernel_rfl) ?_))
        exact bodyPost_ret (first_end (row_same HR7.out) rfl rfl rfl rfl) rfl ⟨by rw [HLF.out, HE.out, Nat.zero_add]; rfl, (HB7.out.trans ((row_kp _ _ _).below HB7.out.size (fun q e => by omega)))⟩
      · as_aux_lemma =>
        have HE : Hid (lthird 0 112 0 b = (Lk.none, 0, lerr (dread (b.drop 0)).2.2.2)) := by show _ = _; unfold lthird; rw [if_neg hre]
        have g9 : (((dread (b.drop 0)).2.2.2 : Int) == 0) = false := beq_eq_false_iff_ne.2 (by omega)
        have HR5 := hide HF5.out.r
        generalize (dread (b.drop 0)).2.2.2 = er at *
        generalize (dread (b.drop 0)).2.2.1 = nr at *
        generalize (dread (b.drop 0)).1 = hr at *
        go_wp2_with fail
        refine (refDigest_any w5 er).mono ?_
        rintro e w6 ⟨rfl, rfl⟩
        go_wp2_with (refine wpList_zero rfl rfl w.heap.size rfl rfl HR5.out ?_)
        exact bodyPost_ret (first_end HR5.out rfl rfl rfl rfl) rfl ⟨by rw [HLF.out, HE.out]; rfl, HF5.out.b⟩
    · have HNE : Hid (¬ b.head? = some 18) := by
        show ¬ _
        cases b with
        | nil => exact absurd rfl h0
        | cons x r => simpa using h18
      have g18 : (((b.getD 0 0 : Nat) : Int) == 18) = false := beq_eq_false_iff_ne.2 (by omega)
      clear h18 h0 hpos
      generalize b.getD 0 0 = x0 at cx g18
      have HBV0 := hide (HB.out.move (keep_below HF0.out.b))
      go_enter Tryd.func66, Tryd.ntmps66
      go_wp2_with fail
      generalize (w.alloc (.cells #[.int .i64 0, .int .u64 0, .int .u64 0, .string ⟨#[]⟩] 35)).alloc (.cells #[.int .i64 0, .int .u64 112, .int .u64 0, .string ⟨#[]⟩] 35) = w0 at *
      refine (refNumber_any w0 _ b HBV0.out).mono ?_
      rintro e w1 ⟨rfl, hk1⟩
      have hb1 := hk1.below (Nat.le_refl _) (fun _ h => h.elim)
      have HF1 := hide (HF0.out.below hb1)
      have HBV1 := hide (HBV0.out.move (keep_below hb1))
      clear hk1 hb1 HF0 HBV0 cx
      have HDB := hide (dnum_bound b)
      obtain ⟨vn, un, en, hD⟩ : ∃ vn un en, dnum b = (vn, un, en) := ⟨_, _, _, rfl⟩
      rw [hD] at HDB ⊢
      have HD := hide hD
      clear hD
      simp only [dnumR] at HDB ⊢
      by_cases hen : en = 0
      · subst hen
        have hdb := HDB.out rfl
        by_cases hvn : vn = 1
        · subst hvn
          have HUN : Hid (un ≤ b.length) := hdb.2.1
          clear hdb HDB
          go_wp2_with (refine wpList_drop rfl 39 40 rfl _ b un rfl rfl HBV1.out HUN.out ?_)
          intro ad1 nd1 cd1 hbd1 hnd1
          have HBD1 := hide hbd1
          clear hbd1 hnd1
          go_wp2_with fail
          refine (refNumber_any w1 _ (b.drop un) HBD1.out).mono ?_
          rintro e w2 ⟨rfl, hk2⟩
          have hb2 := hk2.below (Nat.le_refl _) (fun _ h => h.elim)
          have HF2 := hide (HF1.out.below hb2)
          have HBV2 := hide (HBV1.out.move (keep_below hb2))
          clear hk2 hb2 HF1 HBV1 HBD1
          have HDB2 := hide (dnum_bound (b.drop un))
          obtain ⟨c2, u2, e2, hD2⟩ : ∃ c2 u2 e2, dnum (b.drop un) = (c2, u2, e2) := ⟨_, _, _, rfl⟩
          rw [hD2] at HDB2 ⊢
          have HD2 := hide hD2
          clear hD2
          simp only [dnumR] at HDB2 ⊢
          by_cases he2 : e2 = 0
          · subst he2
            have hdb2 := HDB2.out rfl
            have HLF : Hid (lfirst b = lthird 1 c2 (un + u2) b) := by
              show _ = _
              unfold lfirst
              rw [if_neg HNE.out, HD.out]
              simp only [ne_eq, not_true_eq_false, if_false]
              rw [HD2.out]
              simp
            have HAT : Hid (un + u2 ≤ b.length) := by have h1 := hdb2.2.1; rw [List.length_drop] at h1; have := HUN.out; show _ ≤ _; omega
            have hun : (un : Int) + (u2 : Int) ≤ 9223372036854775807 := by have := HAT.out; omega
            have hsum : (un : Int) + (u2 : Int) = ((un + u2 : Nat) : Int) := by omega
            clear HDB2 hdb2 HUN HD HD2 HNE
            have q0 : w2.cell? ⟨w.heap.size + 1, 0, none⟩ = some (.int .i64 0) := blk_cell HF2.out.l rfl
            have f0 : w2.frozen? ⟨w.heap.size + 1, 0, none⟩ = false := blk_frozen 0 HF2.out.l
            have HF3 := hide (HF2.out.set 0 (.int .i64 1))
            have q1 : (w2.setCell ⟨w.heap.size + 1, 0, none⟩ (.int .i64 1)).cell? ⟨w.heap.size + 1, 1, none⟩ = some (.int .u64 112) := blk_cell HF3.out.l rfl
            have f1 : (w2.setCell ⟨w.heap.size + 1, 0, none⟩ (.int .i64 1)).frozen? ⟨w.heap.size + 1, 1, none⟩ = false := blk_frozen 1 HF3.out.l
            have HFX : Hid (Fq w ((w2.setCell ⟨w.heap.size + 1, 0, none⟩ (.int .i64 1)).setCell ⟨w.heap.size + 1, 1, none⟩ (.int .u64 (c2 : Nat))) w.heap.size (w.heap.size + 1) #[.int .i64 1, .int .u64 (c2 : Nat), .int .u64 0, .string ⟨#[]⟩]) := HF3.out.set 1 (.int .u64 (c2 : Nat))
            have HBV := hide (HB.out.move (keep_below HFX.out.b))
            clear HF2 HF3 HBV2
            generalize hat4 : un + u2 = at4 at HLF HAT hsum
            clear hat4
            go_wp2_with (refine wpList_drop rfl 56 57 rfl _ b at4 rfl rfl HBV.out HAT.out ?_)
            intro ad nd cd hbd hnd
            have HBD := hide hbd
            clear hbd hnd
            generalize (w2.setCell ⟨w.heap.size + 1, 0, none⟩ (.int .i64 1)).setCell ⟨w.heap.size + 1, 1, none⟩ (.int .u64 (c2 : Nat)) = wx at *
            go_wp2_with fail
            refine (refDRead_any wx _ (b.drop at4) HBD.out).mono ?_
            rintro e w5 ⟨vd, rfl, ho5, hb5⟩
            have HF5 := hide (HFX.out.below hb5)
            have HVD := hide (BSl.own ho5 (dread_bytes4 (fun x hx => hby x (List.mem_of_mem_drop hx))))
            obtain ⟨ae, ce, hve, _⟩ := own_form ho5
            subst hve
            have HVL : Hid (∀ k, (Value.slice ae (dread (b.drop at4)).2.1.length ce).ownBlock = some k → ¬ k = w.heap.size + 1) := fun k hk e => own_not ho5 HF5.out.l (by decide) (by rw [← e]; exact hk)
            clear ho5 hb5
            by_cases hre : (dread (b.drop at4)).2.2.2 = 0
            · as_aux_lemma =>
              have HE : Hid (lthird 1 c2 at4 b = (⟨1, c2, (dread (b.drop at4)).1, (dread (b.drop at4)).2.1⟩, at4 + (dread (b.drop at4)).2.2.1, 0)) := by show _ = _; unfold lthird; rw [if_pos hre]
              have hnr : ((at4 : Nat) : Int) + (((dread (b.drop at4)).2.2.1 : Nat) : Int) ≤ 9223372036854775807 := by have h1 := (dread_back hre).1; rw [List.length_drop] at h1; have := HAT.out; omega
              rw [hre]
              generalize (dread (b.drop at4)).2.2.1 = nr at *
              generalize (dread (b.drop at4)).1 = hr at *
              generalize (dread (b.drop at4)).2.1 = dr at *
              have q2 : w5.cell? ⟨w.heap.size + 1, 2, none⟩ = some (.int .u64 0) := blk_cell HF5.out.l rfl
              have f2 : w5.frozen? ⟨w.heap.size + 1, 2, none⟩ = false := blk_frozen 2 HF5.out.l
              have HF6 := hide (HF5.out.set 2 (.int .u64 (hr : Nat)))
              have hk6 : Kp (fun q => q = w.heap.size + 1) w5 (w5.setCell ⟨w.heap.size + 1, 2, none⟩ (.int .u64 (hr : Nat))) := (Kp.refl _ _).setCell _ _ (fun _ => rfl)
              have cv := (hk6.bsl HVD.out HVL.out).text
              have q3 : (w5.setCell ⟨w.heap.size + 1, 2, none⟩ (.int .u64 (hr : Nat))).cell? ⟨w.heap.size + 1, 3, none⟩ = some (.string ⟨#[]⟩) := blk_cell HF6.out.l rfl
              have f3 : (w5.setCell ⟨w.heap.size + 1, 2, none⟩ (.int .u64 (hr : Nat))).frozen? ⟨w.heap.size + 1, 3, none⟩ = false := blk_frozen 3 HF6.out.l
              have HF7 := hide (HF6.out.set 3 (.string (nstr dr)))
              have HL7 : Hid (((w5.setCell ⟨w.heap.size + 1, 2, none⟩ (.int .u64 (hr : Nat))).setCell ⟨w.heap.size + 1, 3, none⟩ (.string (nstr dr))).heap[w.heap.size + 1]? = some (.cells #[.int .i64 1, .int .u64 (c2 : Nat), .int .u64 (hr : Nat), .string (nstr dr)] 35 (0, 0))) := HF7.out.l
              have HR7 := hide HF7.out.r
              have HB7 := hide HF7.out.b
              clear hk6 HF5 HF6 HF7
              go_wp2_with (first
                | (refine wpList_loadAll rfl rfl (w.heap.size + 1) #[.int .i64 1, .int .u64 (c2 : Nat), .int .u64 (hr : Nat), .string (nstr dr)] 35 rfl HL7.out Tryd.underlying35 info61 ?_)
                | (refine wpList_storeRow rfl rfl w.heap.size zlk #[.int .i64 1, .int .u64 (c2 : Nat), .int .u64 (hr : Nat), .string (nstr dr)] 35 rfl rfl HR7.out info61 rfl (by kernel_rfl) ?_))
              exact bodyPost_ret (first_end (row_same HR7.out) rfl rfl rfl rfl) rfl ⟨by rw [HLF.out, HE.out]; simp only [Int.natCast_add]; rfl, (HB7.out.trans ((row_kp _ _ _).below HB7.out.size (fun q e => by omega)))⟩
            · as_aux_lemma =>
              have HE : Hid (lthird 1 c2 at4 b = (Lk.none, 0, lerr (dread (b.drop at4)).2.2.2)) := by show _ = _; unfold lthird; rw [if_neg hre]
              have g9 : (((dread (b.drop at4)).2.2.2 : Int) == 0) = false := beq_eq_false_iff_ne.2 (by omega)
              have HR5 := hide HF5.out.r
              generalize (dread (b.drop at4)).2.2.2 = er at *
              generalize (dread (b.drop at4)).2.2.1 = nr at *
              generalize (dread (b.drop at4)).1 = hr at *
              go_wp2_with fail
              refine (refDigest_any w5 er).mono ?_
              rintro e w6 ⟨rfl, rfl⟩
              go_wp2_with (refine wpList_zero rfl rfl w.heap.size rfl rfl HR5.out ?_)
              exact bodyPost_ret (first_end HR5.out rfl rfl rfl rfl) rfl ⟨by rw [HLF.out, HE.out]; rfl, HF5.out.b⟩
          · have HLF : Hid (lfirst b = (Lk.none, 0, 42)) := by
              show _ = _
              unfold lfirst
              rw [if_neg HNE.out, HD.out]
              simp only [ne_eq, not_true_eq_false, if_false]
              rw [HD2.out]
              simp [he2]
            have g2 : ((e2 : Int) == 0) = false := beq_eq_false_iff_ne.2 (by omega)
            have HR2 := hide HF2.out.r
            clear HDB2 HD HD2 HNE
            go_wp2_with (refine wpList_zero rfl rfl w.heap.size rfl rfl HR2.out ?_)
            exact bodyPost_ret (first_end HR2.out rfl rfl rfl rfl) rfl ⟨by rw [HLF.out]; rfl, HF2.out.b⟩
        · have HLF : Hid (lfirst b = (Lk.none, 0, 41)) := by
            show _ = _
            unfold lfirst
            rw [if_neg HNE.out, HD.out]
            simp [hvn]
          have g2 : ((vn : Int) == 1) = false := beq_eq_false_iff_ne.2 (by omega)
          have HR1 := hide HF1.out.r
          clear HDB HD HNE hdb
          go_wp2_with (refine wpList_zero rfl rfl w.heap.size rfl rfl HR1.out ?_)
          exact bodyPost_ret (first_end HR1.out rfl rfl rfl rfl) rfl ⟨by rw [HLF.out]; rfl, HF1.out.b⟩
      · have HLF : Hid (lfirst b = (Lk.none, 0, 42)) := by
          show _ = _
          unfold lfirst
          rw [if_neg HNE.out, HD.out]
          simp [hen]
        have g2 : ((en : Int) == 0) = false := beq_eq_false_iff_ne.2 (by omega)
        have HR1 := hide HF1.out.r
        clear HDB HD HNE
        go_wp2_with (refine wpList_zero rfl rfl w.heap.size rfl rfl HR1.out ?_)
        exact bodyPost_ret (first_end HR1.out rfl rfl rfl rfl) rfl ⟨by rw [HLF.out]; rfl, HF1.out.b⟩
end
section
open Go.RowKit Go
/-- Parse's end. -/
theorem parse_end {wx : World} {R : Nat} {cs : Array Value} {x : Value} {tmps : Array Value} (hr : wx.heap[R]? = some (.cells cs 35 (0, 0))) (hs : cs.size = 4) (hp : tmps.getD 2 undef = .pointer (some ⟨R, 0, none⟩)) (hx : tmps.getD 3 undef = x) :
    (results Tryd.f42 tmps).run Tryd.prog wx = .ok (.tuple #[.agg cs, x]) wx := by
  refine (results_cell_tmp rfl _ _ _).trans ?_
  rw [hp, hx]
  have h1 := run_loadVar_row (P := Tryd.prog) wx R 35 35 cs (0, 0) _ hr Tryd.underlying35 rfl (by rw [hs]; exact info61)
  simp [asAddr, h1, Result.andThen]

set_option maxRecDepth 1000000 in
set_option maxHeartbeats 1000000 in
theorem lParse_any (w : World) (v : Value) (b : List Nat) (hb : BSl w v b) :
    Calls Tryd.prog 42 #[v] w fun e w' => e = .returned (.tuple #[lkv (lparse b).1, .int .i64 ((lparse b).2 : Nat)]) ∧ Below w.heap.size w w' := by
  have HB := hide hb
  obtain ⟨⟨a, cap, rfl, hn, hc⟩, hmax, hby⟩ := hb
  have HR0 : Hid ((w.alloc (.cells #[.int .i64 0, .int .u64 0, .int .u64 0, .string ⟨#[]⟩] 35)).heap[w.heap.size]? = some (.cells zlk 35 (0, 0))) := heap_alloc_new w _
  have HB0 := hide (below_alloc4 w (.cells #[.int .i64 0, .int .u64 0, .int .u64 0, .string ⟨#[]⟩] 35))
  clear hn hc hby
  go_enter Tryd.func42, Tryd.ntmps42
  go_wp2_with fail
  generalize w.alloc (.cells #[.int .i64 0, .int .u64 0, .int .u64 0, .string ⟨#[]⟩] 35) = w0 at *
  refine (lFirst_any w0 _ b (HB.out.move (keep_below HB0.out))).mono ?_
  rintro e w1 ⟨rfl, hb1⟩
  have HR1 : Hid (w1.heap[w.heap.size]? = some (.cells zlk 35 (0, 0))) := (hb1.block _ (blk_lt HR0.out)).trans HR0.out
  have HB1 : Hid (Below w.heap.size w w1) := HB0.out.trans (hb1.mono HB0.out.size)
  have HPR : Hid (lparse b = if (lfirst b).2.2 ≠ 0 then (Lk.none, (lfirst b).2.2) else if (lfirst b).2.1 < b.length then (Lk.none, 44) else ((lfirst b).1, 0)) := rfl
  clear hb1
  generalize lfirst b = r at *
  obtain ⟨⟨lv, lc, lh, ld⟩, n, er⟩ := r
  simp only at HPR ⊢
  have HNE : Hid (w.heap.size ≠ w1.heap.size) := by have := blk_lt HR1.out; show _ ≠ _; omega
  have HL2 : Hid ((w1.alloc (.cells #[.int .i64 lv, .int .u64 (lc : Nat), .int .u64 (lh : Nat), .string (nstr ld)] 35)).heap[w1.heap.size]? = some (.cells #[.int .i64 lv, .int .u64 (lc : Nat), .int .u64 (lh : Nat), .string (nstr ld)] 35 (0, 0))) := heap_alloc_new w1 _
  have HR2 : Hid ((w1.alloc (.cells #[.int .i64 lv, .int .u64 (lc : Nat), .int .u64 (lh : Nat), .string (nstr ld)] 35)).heap[w.heap.size]? = some (.cells zlk 35 (0, 0))) := blk_alloc _ HR1.out
  have HB2 : Hid (Below w.heap.size w (w1.alloc (.cells #[.int .i64 lv, .int .u64 (lc : Nat), .int .u64 (lh : Nat), .string (nstr ld)] 35))) := HB1.out.trans ((below_alloc4 w1 _).mono HB1.out.size)
  clear HR1 HB1
  simp only [lkv]
  by_cases he : er = 0
  · subst he
    by_cases hlt : n < b.length
    · as_aux_lemma =>
      have g1 : (n : Int) < (b.length : Int) := by omega
      have HP2 : Hid (lparse b = (Lk.none, 44)) := by show _ = _; rw [HPR.out]; simp [hlt]
      clear HPR hlt
      go_wp2_with (refine wpList_zero rfl rfl w.heap.size rfl rfl HR2.out ?_)
      exact bodyPost_ret (parse_end HR2.out rfl rfl rfl) rfl ⟨by rw [HP2.out]; rfl, HB2.out⟩
    · as_aux_lemma =>
      have g1 : ¬ (n : Int) < (b.length : Int) := by omega
      have HP2 : Hid (lparse b = (⟨lv, lc, lh, ld⟩, 0)) := by show _ = _; rw [HPR.out]; simp [hlt]
      clear HPR hlt
      go_wp2_with (first
        | (refine wpList_loadAll rfl rfl w1.heap.size #[.int .i64 lv, .int .u64 (lc : Nat), .int .u64 (lh : Nat), .string (nstr ld)] 35 rfl HL2.out Tryd.underlying35 info61 ?_)
        | (refine wpList_storeRow rfl rfl w.heap.size zlk #[.int .i64 lv, .int .u64 (lc : Nat), .int .u64 (lh : Nat), .string (nstr ld)] 35 rfl rfl HR2.out info61 rfl (by kernel_rfl) ?_))
      exact bodyPost_ret (parse_end (row_same HR2.out) rfl rfl rfl) rfl ⟨by rw [HP2.out]; rfl, HB2.out.trans ((row_kp _ _ _).below HB2.out.size (fun q e => by omega))⟩
  · as_aux_lemma =>
    have g1 : ((er : Int) == 0) = false := beq_eq_false_iff_ne.2 (by omega)
    have HP2 : Hid (lparse b = (Lk.none, er)) := by show _ = _; rw [HPR.out]; simp [he]
    clear HPR he
    go_wp2_with (refine wpList_zero rfl rfl w.heap.size rfl rfl HR2.out ?_)
    exact bodyPost_ret (parse_end HR2.out rfl rfl rfl) rfl ⟨by rw [HP2.out]; rfl, HB2.out⟩
end
section
open Go.RowKit Go
set_option maxRecDepth 1000000 in
set_option maxHeartbeats 1000000 in
theorem lHolds_any (w : World) (v : Int) (c h : Nat) (s : ByteArray) (vb : Value) (b : List Nat) (hh : h < 18446744073709551616) (hs : s.size ≤ 9223372036854775807) (hb : BSl w vb b) (hbl : b.length ≤ 140737488351232) :
    Calls Tryd.prog 22 #[.agg #[.int .i64 v, .int .u64 (c : Nat), .int .u64 (h : Nat), .string s], vb] w fun e w' => e = .returned (.bool (decide (lok ⟨v, c, h, sl s⟩) && dholds h (sl s) b)) ∧ Below w.heap.size w w' := by
  have HB := hide hb
  have HBL := hide hbl
  have HH := hide hh
  obtain ⟨⟨a, cap, rfl, hn, hc⟩, hmax, hby⟩ := hb
  have HT : Hid ((w.alloc (.cells #[.int .i64 v, .int .u64 (c : Nat), .int .u64 (h : Nat), .string s] 35)).heap[w.heap.size]? = some (.cells #[.int .i64 v, .int .u64 (c : Nat), .int .u64 (h : Nat), .string s] 35 (0, 0))) := heap_alloc_new w _
  have HB0 := hide (below_alloc4 w (.cells #[.int .i64 v, .int .u64 (c : Nat), .int .u64 (h : Nat), .string s] 35))
  clear hn hc hby
  go_enter Tryd.func22, Tryd.ntmps22
  go_wp2_with fail
  generalize w.alloc (.cells #[.int .i64 v, .int .u64 (c : Nat), .int .u64 (h : Nat), .string s] 35) = w0 at *
  refine (refCheck_any w0 v c h s HH.out hs).mono ?_
  rintro e w1 ⟨rfl, hb1⟩
  have q0 : w1.heap[w.heap.size]? = some (.cells #[.int .i64 v, .int .u64 (c : Nat), .int .u64 (h : Nat), .string s] 35 (0, 0)) := (hb1.block _ (blk_lt HT.out)).trans HT.out
  have HB1 : Hid (Below w.heap.size w w1) := HB0.out.trans (hb1.mono HB0.out.size)
  have c2 : w1.cell? ⟨w.heap.size, 2, none⟩ = some (.int .u64 (h : Nat)) := blk_cell q0 rfl
  have c3 : w1.cell? ⟨w.heap.size, 3, none⟩ = some (.string s) := blk_cell q0 rfl
  have cv := conv_sb w1 s
  clear hb1 q0
  by_cases hl : lok ⟨v, c, h, sl s⟩
  · as_aux_lemma =>
    rw [if_pos hl]
    have HL := hide hl
    clear hl
    have HS1 := hide (conv_sb_bsl w1 s hs)
    have HB2 : Hid (Below w.heap.size w (Lib.bytesWorld w1 5 s)) := HB1.out.trans ((conv_sb_below w1 s).mono HB1.out.size)
    go_wp2_with fail
    clear cv c2 c3
    generalize grownCap w1 s.size 0 5 = G at *
    generalize w1.heap.size = gg at *
    generalize Lib.bytesWorld w1 5 s = w2 at *
    refine (refHolds_any w2 h _ _ (sl s) b HH.out HS1.out (HB.out.move (keep_below HB2.out)) HBL.out).mono ?_
    rintro e w3 ⟨rfl, hb3⟩
    have HB3 : Hid (Below w.heap.size w w3) := HB2.out.trans (hb3.mono HB2.out.size)
    clear hb3
    go_wp2_with fail
    go_ret
    exact ⟨by rw [decide_eq_true HL.out, Bool.true_and]; rfl, HB3.out⟩
  · as_aux_lemma =>
    rw [if_neg hl]
    have HL := hide hl
    clear hl
    go_wp2_with fail
    go_ret
    exact ⟨by rw [decide_eq_false HL.out, Bool.false_and]; rfl, HB1.out⟩
end
section
open Go.RowKit Go
/-- Which stands ahead, where they differ. -/
def blt : List Nat → List Nat → Bool
  | x :: r, y :: q => if x = y then blt r q else decide (x < y)
  | _, _ => false
theorem blt_drop {x y : List Nat} {i : Nat} (hx : i < x.length) (hy : i < y.length) : blt (x.drop i) (y.drop i) = if x.getD i 0 = y.getD i 0 then blt (x.drop (i + 1)) (y.drop (i + 1)) else decide (x.getD i 0 < y.getD i 0) := by
  rw [List.drop_eq_getElem_cons hx, List.drop_eq_getElem_cons hy]
  simp [blt, List.getD, hx, hy]
theorem blt_end {x y : List Nat} {i : Nat} (h : ¬ i < x.length ∨ ¬ i < y.length) : blt (x.drop i) (y.drop i) = false := by
  rcases h with h | h
  · rw [List.drop_of_length_le (by omega)]
    rfl
  · rw [List.drop_of_length_le (l := y) (by omega)]
    cases x.drop i <;> rfl
theorem bsl_cell {w : World} {a : Option Addr} {n cap : Nat} {xs : List Nat} (h : BSl w (.slice a n cap) xs) {i : Nat} (hi : i < xs.length) : ∃ b off, a = some ⟨b, off, none⟩ ∧ w.cell? ⟨b, off + i, none⟩ = some (.int .u8 ((xs.getD i 0 : Nat) : Int)) := by
  obtain ⟨⟨a', cap', e, _, hc⟩, _, _⟩ := h
  injection e with e1 e2 e3
  subst e1
  rcases hc with hc | ⟨b, off, ha, hc⟩
  · rw [hc] at hi
    simp at hi
  · exact ⟨b, off, ha, hc i hi⟩
/-- The bytes that Bytes tells. -/
def lb (v : Int) (c h : Nat) (s : ByteArray) : List Nat := if lok ⟨v, c, h, sl s⟩ then lbytes ⟨v, c, h, sl s⟩ else []
theorem lb_byte (v : Int) (c h : Nat) (s : ByteArray) : ∀ x ∈ lb v c h s, x < 256 := by
  unfold lb
  split
  · rename_i hl
    exact lbytes_byte hl (sl_byte s)
  · simp
theorem lb_len (v : Int) (c h : Nat) (s : ByteArray) : (lb v c h s).length ≤ 76 := by
  unfold lb
  split
  · rename_i hl
    exact lbytes_len hl
  · simp

set_option maxRecDepth 1000000 in
set_option maxHeartbeats 1000000 in
theorem lLess_any (w : World) (v : Int) (c h : Nat) (s : ByteArray) (v' : Int) (c' h' : Nat) (s' : ByteArray) (hh : h < 18446744073709551616) (hs : s.size ≤ 9223372036854775807) (hh' : h' < 18446744073709551616) (hs' : s'.size ≤ 9223372036854775807) :
    Calls Tryd.prog 24 #[.agg #[.int .i64 v, .int .u64 (c : Nat), .int .u64 (h : Nat), .string s], .agg #[.int .i64 v', .int .u64 (c' : Nat), .int .u64 (h' : Nat), .string s']] w fun e w' => e = .returned (.bool (decide (lok ⟨v, c, h, sl s⟩) && decide (lok ⟨v', c', h', sl s'⟩) && blt (lb v c h s) (lb v' c' h' s'))) ∧ Below w.heap.size w w' := by
  have HH := hide hh
  have HH' := hide hh'
  go_enter Tryd.func24, Tryd.ntmps24
  go_wp2_with fail
  have HT : Hid (((w.alloc (.cells #[.int .i64 v, .int .u64 (c : Nat), .int .u64 (h : Nat), .string s] 35)).alloc (.cells #[.int .i64 v', .int .u64 (c' : Nat), .int .u64 (h' : Nat), .string s'] 35)).heap[w.heap.size + 1]? = some (.cells #[.int .i64 v', .int .u64 (c' : Nat), .int .u64 (h' : Nat), .string s'] 35 (0, 0))) := alloc2_new _ _ _
  have HB0 : Hid (Below w.heap.size w ((w.alloc (.cells #[.int .i64 v, .int .u64 (c : Nat), .int .u64 (h : Nat), .string s] 35)).alloc (.cells #[.int .i64 v', .int .u64 (c' : Nat), .int .u64 (h' : Nat), .string s'] 35))) := (below_alloc4 w _).trans ((below_alloc4 _ _).mono (by simp))
  generalize (w.alloc (.cells #[.int .i64 v, .int .u64 (c : Nat), .int .u64 (h : Nat), .string s] 35)).alloc (.cells #[.int .i64 v', .int .u64 (c' : Nat), .int .u64 (h' : Nat), .string s'] 35) = w0 at *
  refine (refBytes_any w0 v c h s HH.out hs).mono ?_
  rintro e w1 ⟨vx, rfl, ho1, hb1⟩
  have HX1 : Hid (BSl w1 vx (lb v c h s)) := BSl.own ho1 (lb_byte v c h s)
  obtain ⟨ax, cx, hvx, _⟩ := own_form ho1
  have hlx : (if lok ⟨v, c, h, sl s⟩ then lbytes ⟨v, c, h, sl s⟩ else []).length = (lb v c h s).length := rfl
  rw [hlx] at hvx
  subst hvx
  have q0 : w1.heap[w.heap.size + 1]? = some (.cells #[.int .i64 v', .int .u64 (c' : Nat), .int .u64 (h' : Nat), .string s'] 35 (0, 0)) := (hb1.block _ (blk_lt HT.out)).trans HT.out
  have c0 : w1.cell? ⟨w.heap.size + 1, 0, none⟩ = some (.int .i64 v') := blk_cell q0 rfl
  have c1 : w1.cell? ⟨w.heap.size + 1, 1, none⟩ = some (.int .u64 (c' : Nat)) := blk_cell q0 rfl
  have c2 : w1.cell? ⟨w.heap.size + 1, 2, none⟩ = some (.int .u64 (h' : Nat)) := blk_cell q0 rfl
  have c3 : w1.cell? ⟨w.heap.size + 1, 3, none⟩ = some (.string s') := blk_cell q0 rfl
  have HB1 : Hid (Below w.heap.size w w1) := HB0.out.trans (hb1.mono HB0.out.size)
  have hxl := lb_len v c h s
  clear ho1 hb1 q0 hlx
  generalize hR1 : (if lok ⟨v, c, h, sl s⟩ then (0 : Int) else 40) = r1
  have HR1 := hide hR1
  clear hR1
  go_wp2_with fail
  refine (refBytes_any w1 v' c' h' s' HH'.out hs').mono ?_
  rintro e w2 ⟨vy, rfl, ho2, hb2⟩
  have HY2 : Hid (BSl w2 vy (lb v' c' h' s')) := BSl.own ho2 (lb_byte v' c' h' s')
  obtain ⟨ay, cy, hvy, _⟩ := own_form ho2
  have hly : (if lok ⟨v', c', h', sl s'⟩ then lbytes ⟨v', c', h', sl s'⟩ else []).length = (lb v' c' h' s').length := rfl
  rw [hly] at hvy
  subst hvy
  have HX2 := hide (HX1.out.move (keep_below hb2))
  have HB2 : Hid (Below w.heap.size w w2) := HB1.out.trans (hb2.mono HB1.out.size)
  have hyl := lb_len v' c' h' s'
  clear ho2 hb2 hly c0 c1 c2 c3 HX1 HB1
  generalize hR2 : (if lok ⟨v', c', h', sl s'⟩ then (0 : Int) else 40) = r2
  have HR2 := hide hR2
  clear hR2
  by_cases hl : lok ⟨v, c, h, sl s⟩
  · by_cases hl' : lok ⟨v', c', h', sl s'⟩
    · have HLL : Hid ((decide (lok ⟨v, c, h, sl s⟩) && decide (lok ⟨v', c', h', sl s'⟩) && blt (lb v c h s) (lb v' c' h' s')) = blt (lb v c h s) (lb v' c' h' s')) := by show _ = _; simp [hl, hl']
      have e1 : r1 = 0 := by rw [← HR1.out, if_pos hl]
      have e2 : r2 = 0 := by rw [← HR2.out, if_pos hl']
      subst e1
      subst e2
      clear HR1 HR2 hl hl'
      generalize hx : lb v c h s = x at HX2 hxl ⊢
      generalize hy : lb v' c' h' s' = y at HY2 hyl ⊢
      have HXE := hide hx
      have HYE := hide hy
      clear hx hy
      go_wp2_with fail
      go_loopw [9] (fun ii wx => ∃ i : Nat, i ≤ x.length ∧ ii = .int .i64 (i : Nat) ∧ Hid (blt x y = blt (x.drop i) (y.drop i)) ∧ Hid (Below w2.heap.size w2 wx)) (fun ii _ => x.length - (intOf ii).toNat)
      case atStart => exact ⟨0, by omega, rfl, rfl, Below.refl _ _⟩
      case round =>
        obtain ⟨i, hi, rfl, HI, HL⟩ := hrel
        by_cases hin : i < x.length ∧ i < y.length
        · obtain ⟨hix, hiy⟩ := hin
          have g1 : (i : Int) < (x.length : Int) := by omega
          have g2 : (i : Int) < (y.length : Int) := by omega
          have HD := hide (blt_drop hix hiy)
          obtain ⟨b1, o1, hax, hc1⟩ := bsl_cell HX2.out hix
          obtain ⟨b2, o2, hay, hc2⟩ := bsl_cell HY2.out hiy
          subst hax
          subst hay
          have cc1 : wr.cell? ⟨b1, o1 + i, none⟩ = some (.int .u8 ((x.getD i 0 : Nat) : Int)) := keep_below HL.out _ _ hc1
          have cc2 : wr.cell? ⟨b2, o2 + i, none⟩ = some (.int .u8 ((y.getD i 0 : Nat) : Int)) := keep_below HL.out _ _ hc2
          clear hc1 hc2
          generalize x.getD i 0 = p at *
          generalize y.getD i 0 = q at *
          by_cases hpq : p = q
          · subst hpq
            have HI2 : Hid (blt x y = blt (x.drop (i + 1)) (y.drop (i + 1))) := by show _ = _; rw [HI.out, HD.out, if_pos rfl]
            go_wp2_with fail
            go_quiet (fail)
            go_wp2_with fail
            go_roundw
            case rel => exact ⟨i + 1, by omega, by go_num, HI2, (((Kp.of_below (S := fun _ => False) HL.out).drewN _).below (Nat.le_refl _) (fun _ h => h.elim))⟩
            case measure => simp [intOf]; omega
          · have g3 : (((p : Nat) : Int) == ((q : Nat) : Int)) = false := beq_eq_false_iff_ne.2 (by omega)
            have HI2 : Hid (blt x y = decide (p < q)) := by show _ = _; rw [HI.out, HD.out, if_neg hpq]
            have HBF : Hid (Below w.heap.size w wr) := HB2.out.trans (HL.out.mono HB2.out.size)
            by_cases hlt : p < q
            · have g4 : ((p : Nat) : Int) < ((q : Nat) : Int) := by omega
              have HI3 : Hid (blt x y = true) := by show _ = _; rw [HI2.out]; simp [hlt]
              go_wp2_with fail
              go_quiet (fail)
              go_wp2_with fail
              go_quiet (fail)
              go_wp2_with fail
              go_ret
              exact ⟨by rw [HLL.out, HXE.out, HYE.out, HI3.out]; rfl, ⟨HBF.out.os, HBF.out.tape, HBF.out.output, HBF.out.size, HBF.out.block⟩⟩
            · have g4 : ¬ ((p : Nat) : Int) < ((q : Nat) : Int) := by omega
              have HI3 : Hid (blt x y = false) := by show _ = _; rw [HI2.out]; simp [hlt]
              go_wp2_with fail
              go_quiet (fail)
              go_wp2_with fail
              go_quiet (fail)
              go_wp2_with fail
              go_ret
              exact ⟨by rw [HLL.out, HXE.out, HYE.out, HI3.out]; rfl, ⟨HBF.out.os, HBF.out.tape, HBF.out.output, HBF.out.size, HBF.out.block⟩⟩
        · have g0 : ¬ (i : Int) < (x.length : Int) ∨ ((i : Int) < (x.length : Int) ∧ ¬ (i : Int) < (y.length : Int)) := by omega
          have HZ : Hid (blt x y = false) := by show _ = _; rw [HI.out]; exact blt_end (by omega)
          have HBF : Hid (Below w.heap.size w wr) := HB2.out.trans (HL.out.mono HB2.out.size)
          rcases g0 with g1 | ⟨g1, g2⟩
          all_goals
            go_wp2_with fail
            go_ret
            exact ⟨by rw [HLL.out, HXE.out, HYE.out, HZ.out]; rfl, HBF.out⟩
    · as_aux_lemma =>
      have e2 : r2 = 40 := by rw [← HR2.out, if_neg hl']
      have e1 : r1 = 0 := by rw [← HR1.out, if_pos hl]
      have HZ : Hid ((decide (lok ⟨v, c, h, sl s⟩) && decide (lok ⟨v', c', h', sl s'⟩) && blt (lb v c h s) (lb v' c' h' s')) = false) := by show _ = _; simp [hl']
      subst e1
      subst e2
      clear HR1 HR2 hl hl'
      go_wp2_with fail
      go_ret
      exact ⟨by rw [HZ.out]; rfl, HB2.out⟩
  · as_aux_lemma =>
    have e1 : r1 = 40 := by rw [← HR1.out, if_neg hl]
    have HZ : Hid ((decide (lok ⟨v, c, h, sl s⟩) && decide (lok ⟨v', c', h', sl s'⟩) && blt (lb v c h s) (lb v' c' h' s')) = false) := by show _ = _; simp [hl]
    subst e1
    clear HR1 HR2 hl
    go_wp2_with fail
    go_ret
    exact ⟨by rw [HZ.out]; rfl, HB2.out⟩
end
section
open Go.RowKit Go
theorem sl_nstr {xs : List Nat} (h : ∀ x ∈ xs, x < 256) : sl (nstr xs) = xs := by
  have key : ∀ l : List Nat, (∀ x ∈ l, x < 256) → (nstr l).data.toList.map UInt8.toNat = l := by
    intro l hl
    simp only [nstr, strOfNums_data, List.map_map]
    conv => rhs; rw [← List.map_id l]
    apply List.map_congr_left
    intro x hx
    have := hl x hx
    simp; omega
  exact key xs h
/-- The link of a block (P4.2). -/
def lof (c : Nat) (b : List Nat) : Lk × Nat := if c < 9223372036854775808 then (⟨1, c, 18, sha b⟩, 0) else (Lk.none, 40)
theorem of_end {wx : World} {R : Nat} {cs : Array Value} {x : Value} {tmps : Array Value} (hr : wx.heap[R]? = some (.cells cs 35 (0, 0))) (hs : cs.size = 4) (hp : tmps.getD 4 undef = .pointer (some ⟨R, 0, none⟩)) (hx : tmps.getD 5 undef = x) :
    (results Tryd.f19 tmps).run Tryd.prog wx = .ok (.tuple #[.agg cs, x]) wx := by
  refine (results_cell_tmp rfl _ _ _).trans ?_
  rw [hp, hx]
  have h1 := run_loadVar_row (P := Tryd.prog) wx R 35 35 cs (0, 0) _ hr Tryd.underlying35 rfl (by rw [hs]; exact info61)
  simp [asAddr, h1, Result.andThen]

set_option maxRecDepth 1000000 in
set_option maxHeartbeats 1000000 in
theorem lOf_any (w : World) (c : Nat) (vb : Value) (b : List Nat) (hb : BSl w vb b) (hbl : b.length ≤ 140737488351232) :
    Calls Tryd.prog 19 #[.int .u64 (c : Nat), vb] w fun e w' => e = .returned (.tuple #[lkv (lof c b).1, .int .i64 ((lof c b).2 : Nat)]) ∧ Below w.heap.size w w' := by
  have HB := hide hb
  have HBL := hide hbl
  obtain ⟨⟨a, cap, rfl, hn, hc⟩, hmax, hby⟩ := hb
  clear hn hc hby
  go_enter Tryd.func19, Tryd.ntmps19
  have HR0 : Hid ((w.alloc (.cells #[.int .i64 0, .int .u64 0, .int .u64 0, .string ⟨#[]⟩] 35)).heap[w.heap.size]? = some (.cells zlk 35 (0, 0))) := heap_alloc_new w _
  have HB0 := hide (below_alloc4 w (.cells #[.int .i64 0, .int .u64 0, .int .u64 0, .string ⟨#[]⟩] 35))
  go_wp2_with fail
  generalize w.alloc (.cells #[.int .i64 0, .int .u64 0, .int .u64 0, .string ⟨#[]⟩] 35) = w0 at *
  refine (refSum_any w0 _ b (HB.out.move (keep_below HB0.out)) HBL.out).mono ?_
  rintro e w1 ⟨rfl, hb1⟩
  have HI := hide (info32d b)
  have HON := hide (one32 b)
  have HSL := hide (sha_len b)
  have HSB := hide (sha_byte b)
  have hb2 := hb1.trans ((below_alloc4 w1 (.cells (bv (sha b)).toArray 76)).mono hb1.size)
  have HR2 : Hid ((w1.alloc (.cells (bv (sha b)).toArray 76)).heap[w.heap.size]? = some (.cells zlk 35 (0, 0))) := (hb2.block _ (blk_lt HR0.out)).trans HR0.out
  have HB2 : Hid (Below w.heap.size w (w1.alloc (.cells (bv (sha b)).toArray 76))) := HB0.out.trans (hb2.mono HB0.out.size)
  have HBD := hide (bsl_block (heap_alloc_new w1 (.cells (bv (sha b)).toArray 76)) HSB.out (by rw [HSL.out]; decide))
  rw [HSL.out] at HBD
  have hDE : sha b = sha b := rfl
  clear hb1 hb2 HR0 HB0
  generalize hD : sha b = D at HI HON HSL HSB HR2 HB2 HBD ⊢
  have HDE := hide hD
  clear hD hDE
  have cv := HBD.out.text
  go_wp2_with (refine wpList_storeRow rfl rfl w1.heap.size _ (bv D).toArray 76 rfl rfl (heap_alloc_new w1 _) HI.out (by simp [bv_len, HSL.out]) HON.out ?_; rw [World.setRow_alloc_new])
  clear cv
  have HNS : Hid (sl (nstr D) = D) := sl_nstr HSB.out
  have HSZ : Hid ((nstr D).size ≤ 9223372036854775807) := by show _ ≤ _; rw [← sl_len, HNS.out, HSL.out]; decide
  have HOK : Hid (lok ⟨1, c, 18, sl (nstr D)⟩ ↔ c < 9223372036854775808) := by
    show _ ↔ _
    rw [HNS.out]
    unfold lok okd
    simp [HSL.out]
  have hz2 : (w1.alloc (.cells (bv D).toArray 76)).heap.size = w1.heap.size + 1 := by simp
  generalize w1.alloc (.cells (bv D).toArray 76) = w2 at *
  have HL3 : Hid ((w2.alloc (.cells #[.int .i64 1, .int .u64 (c : Nat), .int .u64 18, .string (nstr D)] 35)).heap[w1.heap.size + 1]? = some (.cells #[.int .i64 1, .int .u64 (c : Nat), .int .u64 18, .string (nstr D)] 35 (0, 0))) := by
    have e := heap_alloc_new w2 (.cells #[.int .i64 1, .int .u64 (c : Nat), .int .u64 18, .string (nstr D)] 35)
    rw [hz2] at e
    exact e
  have HR3 : Hid ((w2.alloc (.cells #[.int .i64 1, .int .u64 (c : Nat), .int .u64 18, .string (nstr D)] 35)).heap[w.heap.size]? = some (.cells zlk 35 (0, 0))) := blk_alloc _ HR2.out
  have HB3 : Hid (Below w.heap.size w (w2.alloc (.cells #[.int .i64 1, .int .u64 (c : Nat), .int .u64 18, .string (nstr D)] 35))) := HB2.out.trans ((below_alloc4 w2 _).mono HB2.out.size)
  clear hz2 HR2 HB2 HBD HI HON
  generalize w2.alloc (.cells #[.int .i64 1, .int .u64 (c : Nat), .int .u64 18, .string (nstr D)] 35) = w3 at *
  have HCK : Calls Tryd.prog 46 #[.agg #[.int .i64 1, .int .u64 (c : Nat), .int .u64 18, .string (nstr D)]] w3 _ := refCheck_any w3 1 c 18 (nstr D) (by decide) HSZ.out
  refine HCK.mono ?_
  rintro e w4 ⟨rfl, hb4⟩
  have HL4 : Hid (w4.heap[w1.heap.size + 1]? = some (.cells #[.int .i64 1, .int .u64 (c : Nat), .int .u64 18, .string (nstr D)] 35 (0, 0))) := (hb4.block _ (blk_lt HL3.out)).trans HL3.out
  have HR4 : Hid (w4.heap[w.heap.size]? = some (.cells zlk 35 (0, 0))) := (hb4.block _ (blk_lt HR3.out)).trans HR3.out
  have HB4 : Hid (Below w.heap.size w w4) := HB3.out.trans (hb4.mono HB3.out.size)
  clear hb4 HL3 HR3 HB3
  by_cases hc63 : c < 9223372036854775808
  · as_aux_lemma =>
    have HP : Hid (lof c b = (⟨1, c, 18, D⟩, 0)) := by show _ = _; unfold lof; rw [HDE.out, if_pos hc63]
    rw [if_pos (HOK.out.2 hc63)]
    clear HOK hc63
    go_wp2_with (first
      | (refine wpList_loadAll rfl rfl (w1.heap.size + 1) #[.int .i64 1, .int .u64 (c : Nat), .int .u64 18, .string (nstr D)] 35 rfl HL4.out Tryd.underlying35 info61 ?_)
      | (refine wpList_storeRow rfl rfl w.heap.size zlk #[.int .i64 1, .int .u64 (c : Nat), .int .u64 18, .string (nstr D)] 35 rfl rfl HR4.out info61 rfl (by kernel_rfl) ?_))
    exact bodyPost_ret (of_end (row_same HR4.out) rfl rfl rfl) rfl ⟨by rw [HP.out]; rfl, HB4.out.trans ((row_kp _ _ _).below HB4.out.size (fun q e => by omega))⟩
  · as_aux_lemma =>
    have HP : Hid (lof c b = (Lk.none, 40)) := by show _ = _; unfold lof; rw [if_neg hc63]
    rw [if_neg (fun e => hc63 (HOK.out.1 e))]
    clear HOK hc63
    go_wp2_with (refine wpList_zero rfl rfl w.heap.size rfl rfl HR4.out ?_)
    exact bodyPost_ret (of_end HR4.out rfl rfl rfl) rfl ⟨by rw [HP.out]; rfl, HB4.out⟩
end
end Go.Proofs.YtidglddjinfncaaDoor
