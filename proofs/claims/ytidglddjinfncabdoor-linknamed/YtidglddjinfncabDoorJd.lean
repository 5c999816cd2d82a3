import Derived.Test.YtidglddjinfncabDoorJc
namespace Go.Proofs.YtidglddjinfncabDoor
section
open Go.RowKit
/-! ### Plain -/
/-- What Read tells: k bytes have gone by, m is what they come to. -/
def rd : Nat → Nat → List Nat → Nat × Nat × Nat
  | k, _, [] => if k = 9 then (0, 0, 11) else (0, 0, 10)
  | k, m, x :: r => if k = 9 then (0, 0, 11) else if 128 ≤ x then rd (k + 1) (m + x % 128 * 128 ^ k) r else if x = 0 ∧ 0 < k then (0, 0, 12) else (m + x % 128 * 128 ^ k, k + 1, 0)

theorem and127 (x : Nat) (h : x < 256) : bits .and .u8 (x : Int) 127 = ((x % 128 : Nat) : Int) := by
  have := bits_mask .u8 8 (by decide) wraps_u8 7 (by decide) (x : Int) (by omega) (by omega)
  simpa using this
theorem and128 (x : Nat) (h : x < 256) : bits .and .u8 (x : Int) 128 = if 128 ≤ x then 128 else 0 := by
  have h1 := u8_and_nat x 128 h (by omega)
  have h2 := nat_bit 7 x
  have e : (2 : Nat) ^ 7 = 128 := rfl
  rw [e] at h2
  rw [h2] at h1
  have h3 : bits .and .u8 (x : Int) 128 = ((x / 128 % 2 * 128 : Nat) : Int) := h1
  rw [h3]
  split <;> omega
theorem pow7 (k : Nat) : 2 ^ (7 * k) = 128 ^ k := by rw [Nat.pow_mul]
theorem small_pow (k : Nat) (h : k ≤ 8) : 128 ^ k ≤ 72057594037927936 := by
  have h2 : 128 ^ k ≤ 128 ^ 8 := Nat.pow_le_pow_right (by decide) h
  exact h2
theorem step_val (x m k : Nat) (hx : x < 256) (hk : k ≤ 8) (hm : m < 128 ^ k) :
    bits .or .u64 (m : Int) (IntKind.u64.wrap (IntKind.u64.wrap (bits .and .u8 (x : Int) 127) * 2 ^ (7 * k))) = ((m + x % 128 * 128 ^ k : Nat) : Int) := by
  rw [and127 x hx]
  have hp := small_pow k hk
  have hy : x % 128 * 128 ^ k < 128 * 72057594037927936 := by
    have h1 : x % 128 < 128 := by omega
    have h2 : 0 < 128 ^ k := Nat.pow_pos (by decide)
    calc x % 128 * 128 ^ k < 128 * 128 ^ k := Nat.mul_lt_mul_of_pos_right h1 h2
      _ ≤ 128 * 72057594037927936 := Nat.mul_le_mul_left _ hp
  have e1 : IntKind.u64.wrap (((x % 128 : Nat)) : Int) = ((x % 128 : Nat) : Int) := by rw [IntKind.wrap_u64]; omega
  have e2 : ((x % 128 : Nat) : Int) * 2 ^ (7 * k) = ((x % 128 * 128 ^ k : Nat) : Int) := by
    rw [Int.natCast_mul, ← pow7, Int.natCast_pow]; rfl
  rw [e1, e2]
  generalize hY : x % 128 * 128 ^ k = y at *
  have e3 : IntKind.u64.wrap ((y : Nat) : Int) = ((y : Nat) : Int) := by rw [IntKind.wrap_u64]; omega
  rw [e3, u64_or_nat m y (by omega) (by omega)]
  rw [Nat.or_comm, nat_join (7 * k) y m (by rw [pow7, ← hY]; exact Nat.mul_mod_left _ _) (by rw [pow7]; exact hm), Nat.add_comm]
theorem next_small (x m k : Nat) (hm : m < 128 ^ k) : m + x % 128 * 128 ^ k < 128 ^ (k + 1) := by
  have h1 : x % 128 ≤ 127 := by omega
  have h2 : x % 128 * 128 ^ k ≤ 127 * 128 ^ k := Nat.mul_le_mul_right _ h1
  rw [Nat.pow_succ]
  omega
theorem drop_at (xs : List Nat) (k : Nat) (h : k < xs.length) : xs.drop k = xs.getD k 0 :: xs.drop (k + 1) := by
  rw [List.drop_eq_getElem_cons h]
  simp [List.getD, h]

/-! ### The walk -/
set_option maxRecDepth 1000000 in
set_option maxHeartbeats 400000 in
theorem vread_any (b off len cap : Nat) (xs : List Nat) (w : World) (hz : xs.length = len) (hmax : len ≤ 9223372036854775807)
    (hc : ∀ j, j < len → w.cell? ⟨b, off + j, none⟩ = some (.int .u8 (xs.getD j 0 : Nat)))
    (hr : ∀ j : Nat, xs.getD j 0 < 256) :
    Calls Tryd.prog 38 #[.slice (some ⟨b, off, none⟩) len cap] w fun e w' => e = .returned (.tuple #[.int .u64 (rd 0 0 xs).1, .int .i64 (rd 0 0 xs).2.1, .int .i64 (rd 0 0 xs).2.2]) ∧ w' = w := by
  generalize hR : rd 0 0 xs = R
  have HR0 := hide hR
  clear hR
  go_enter Tryd.func38, Tryd.ntmps38
  go_wp2
  refine scope_again 0 (fun a' w' => w' = w ∧ ∃ (m k : Nat) (u7 u8 u9 u10 u11 u12 u13 u14 u15 u16 u17 u18 u19 u20 u21 u22 u23 u24 u25 u26 u27 u28 u29 u30 u31 u32 u33 u34 u35 u36 u37 u38 : Value), a' = { tmps := #[.slice (some ⟨b, off, none⟩) len cap, undef, .int .u64 0, .int .i64 0, .int .i64 0, .int .u64 m, .int .i64 k, u7, u8, u9, u10, u11, u12, u13, u14, u15, u16, u17, u18, u19, u20, u21, u22, u23, u24, u25, u26, u27, u28, u29, u30, u31, u32, u33, u34, u35, u36, u37, u38], defers := [] } ∧ k ≤ 9 ∧ k ≤ len ∧ m < 128 ^ k ∧ rd k m (xs.drop k) = R) (fun a' _ => 10 - (intOf (a'.tmps.getD 6 undef)).toNat) rfl ?_ ?_
  · clear HR0
    rintro a' w' ⟨rfl, m, k, u7, u8, u9, u10, u11, u12, u13, u14, u15, u16, u17, u18, u19, u20, u21, u22, u23, u24, u25, u26, u27, u28, u29, u30, u31, u32, u33, u34, u35, u36, u37, u38, rfl, hk, hkl, hm, hrel⟩
    have HM := hide hm
    have HREL := hide hrel
    have HZ := hide hz
    have hcell : k < len → w'.cell? ⟨b, off + k, none⟩ = some (.int .u8 (xs.getD k 0 : Nat)) := fun h => hc k h
    have hrk : ((xs.getD k 0 : Nat) : Int) < 256 := by have := hr k; omega
    have hdr : Hid (k < len → xs.drop k = xs.getD k 0 :: xs.drop (k + 1)) := fun h => drop_at xs k (by omega)
    generalize xs.getD k 0 = x at *
    clear hc hr hm hrel hz
    by_cases h9 : k = 9
    · have h9' : ((k : Int) == 9) = true := beq_iff_eq.2 (by omega)
      have hend : R = (0, 0, 11) := by
        rw [← HREL.out, h9]; cases xs.drop 9 <;> rfl
      subst h9
      subst hend
      clear HREL hdr HM
      go_wp2
      simp only [Exit.jump]
      go_ret3
      exact ⟨rfl, rfl⟩
    · have h9' : ((k : Int) == 9) = false := beq_eq_false_iff_ne.2 (by omega)
      by_cases hl : k = len
      · have hl' : ((k : Int) == (len : Int)) = true := beq_iff_eq.2 (by omega)
        have hend : R = (0, 0, 10) := by
          rw [← HREL.out, List.drop_eq_nil_of_le (by have := HZ.out; omega)]; simp [rd, h9]
        subst hend
        clear HREL hdr HM h9 hcell
        go_wp2
        simp only [Exit.jump]
        go_ret3
        exact ⟨rfl, rfl⟩
      · have hl' : ((k : Int) == (len : Int)) = false := beq_eq_false_iff_ne.2 (by omega)
        have hlt : k < len := by omega
        have hcc := hcell hlt
        have hrd := HREL.out
        rw [hdr.out hlt] at hrd
        have HRD := hide hrd
        have hx : x < 256 := by omega
        have HSV := hide (step_val x m k hx (by omega) HM.out)
        have hk8 : k ≤ 8 := by omega
        clear hrd HREL hdr hcell h9 hl HZ
        by_cases hb : 128 ≤ x
        · have ha : (bits .and .u8 (x : Int) 128 != 0) = true := by rw [and128 x hx, if_pos hb]; rfl
          go_wp2
          go_step3
          rw [HSV.out]
          refine ⟨rfl, ⟨rfl, m + x % 128 * 128 ^ k, k + 1, _, _, _, _, _, _, _, _, _, _, _, _, _, _, _, _, _, _, _, _, _, _, _, _, _, _, _, _, _, _, _, _, rfl, by omega, by omega, next_small x m k HM.out, ?_⟩, ?_⟩
          · have h := HRD.out
            have h9 : k ≠ 9 := by have := beq_eq_false_iff_ne.1 h9'; omega
            rw [rd, if_neg h9, if_pos hb] at h
            exact h
          · simp [intOf]; omega
        · have ha : (bits .and .u8 (x : Int) 128 != 0) = false := by rw [and128 x hx, if_neg hb]; rfl
          have h := HRD.out
          have h9 : k ≠ 9 := by have := beq_eq_false_iff_ne.1 h9'; omega
          rw [rd, if_neg h9, if_neg hb] at h
          clear h9 HRD
          by_cases hq : x = 0 ∧ 0 < k
          · rw [if_pos hq] at h
            subst h
            obtain ⟨hx0, hk0⟩ := hq
            have hx0' : ((x : Int) == 0) = true := beq_iff_eq.2 (by omega)
            have hk0' : decide ((1 : Int) < (k : Int) + 1) = true := by simp; omega
            clear HSV HM hx0
            go_wp2
            all_goals simp only [Exit.jump]
            all_goals go_ret3
            all_goals exact ⟨rfl, rfl⟩
          · rw [if_neg hq] at h
            subst h
            have HQ := hide hq
            clear hq
            by_cases hx0 : x = 0
            · have hx0' : ((x : Int) == 0) = true := beq_iff_eq.2 (by omega)
              have hk0 : k = 0 := by have := HQ.out; omega
              have hk0' : decide ((1 : Int) < (k : Int) + 1) = false := by simp; omega
              have hk1 : ¬ ((1 : Int) < (k : Int) + 1) := by omega
              clear hx0 hk0
              go_wp2
              simp only [Exit.jump]
              rw [HSV.out]
              go_ret3
              exact ⟨rfl, rfl⟩
            · have hx0' : ((x : Int) == 0) = false := beq_eq_false_iff_ne.2 (by omega)
              clear hx0
              go_wp2
              simp only [Exit.jump]
              rw [HSV.out]
              go_ret3
              exact ⟨rfl, rfl⟩
  · intro HR
    go_wp2
    go_step3
    rename_i hK
    exact hK _ _ (HR.out _ _ ⟨rfl, 0, 0, _, _, _, _, _, _, _, _, _, _, _, _, _, _, _, _, _, _, _, _, _, _, _, _, _, _, _, _, _, _, _, _, rfl, by omega, by omega, by decide, by simpa using HR0.out⟩)

set_option maxRecDepth 1000000 in
set_option maxHeartbeats 400000 in
theorem vread_empty (a : Option Addr) (cap : Nat) (w : World) :
    Calls Tryd.prog 38 #[.slice a 0 cap] w fun e w' => e = .returned (.tuple #[.int .u64 0, .int .i64 0, .int .i64 10]) ∧ w' = w := by
  go_enter Tryd.func38, Tryd.ntmps38
  go_wp2
  refine wp_scope_jumps 0 (fun _ _ => False) (fun _ _ => 0) rfl ?_ (fun _ _ h => h.elim)
  go_wp2
  go_step3
  go_wp2
  simp only [Exit.jump]
  go_ret3
  exact ⟨rfl, rfl⟩
theorem BSl.vread {w : World} {v : Value} {xs : List Nat} (h : BSl w v xs) :
    Calls Tryd.prog 38 #[v] w fun e w' => e = .returned (.tuple #[.int .u64 (rd 0 0 xs).1, .int .i64 (rd 0 0 xs).2.1, .int .i64 (rd 0 0 xs).2.2]) ∧ w' = w := by
  obtain ⟨⟨a, cap, rfl, _, hc⟩, hmax, hb⟩ := h
  rcases hc with rfl | ⟨b, off, rfl, hc⟩
  · exact vread_empty a cap w
  · exact vread_any b off xs.length cap xs w rfl hmax hc (getD_lt hb)
end
section
open Go.RowKit
/-- What Number of the document tells. -/
def dnum (xs : List Nat) : Nat × Nat × Nat := if (rd 0 0 xs).2.2 = 0 then rd 0 0 xs else (0, 0, if (rd 0 0 xs).2.2 = 10 then 32 else 33)
def dnumR (r : Nat × Nat × Nat) : Value := .tuple #[.int .u64 (r.1 : Nat), .int .i64 (r.2.1 : Nat), .int .i64 (r.2.2 : Nat)]

theorem num_val (x m k : Nat) (hk : k ≤ 8) (hm : m < 128 ^ k) : IntKind.u64.wrap ((m : Int) + IntKind.u64.wrap ((x : Int) % 128 * 2 ^ (7 * k))) = ((m + x % 128 * 128 ^ k : Nat) : Int) := by
  have hp := small_pow k hk
  have hy : x % 128 * 128 ^ k ≤ 127 * 128 ^ k := Nat.mul_le_mul_right _ (by omega)
  have e2 : (x : Int) % 128 * 2 ^ (7 * k) = ((x % 128 * 128 ^ k : Nat) : Int) := by
    rw [Int.natCast_mul, ← pow7, Int.natCast_pow]; rfl
  rw [e2]
  generalize x % 128 * 128 ^ k = y at *
  have e3 : IntKind.u64.wrap ((y : Nat) : Int) = ((y : Nat) : Int) := by rw [IntKind.wrap_u64]; omega
  rw [e3, IntKind.wrap_u64]
  omega
end
section
open Go.RowKit
theorem rd_bound : ∀ (xs : List Nat) (k m : Nat), k ≤ 9 → m < 128 ^ k → (rd k m xs).2.2 = 0 → (rd k m xs).1 < 9223372036854775808 ∧ (rd k m xs).2.1 ≤ k + xs.length ∧ (rd k m xs).2.1 ≤ 9
  | [], k, m, hk, hm, h => by
    rw [rd] at h
    split at h <;> simp at h
  | x :: r, k, m, hk, hm, h => by
    rw [rd] at h ⊢
    by_cases h9 : k = 9
    · rw [if_pos h9] at h; simp at h
    · rw [if_neg h9] at h ⊢
      have hn := next_small x m k hm
      by_cases hx : 128 ≤ x
      · rw [if_pos hx] at h ⊢
        have := rd_bound r (k + 1) _ (by omega) hn h
        simp only [List.length_cons]
        omega
      · rw [if_neg hx] at h ⊢
        by_cases hz : x = 0 ∧ 0 < k
        · rw [if_pos hz] at h; simp at h
        · rw [if_neg hz]
          have hp : 128 ^ (k + 1) ≤ 128 ^ 9 := Nat.pow_le_pow_right (by decide) (by omega)
          have e9 : 128 ^ 9 = 9223372036854775808 := rfl
          simp only [List.length_cons]
          omega
theorem dnum_bound (xs : List Nat) (h : (dnum xs).2.2 = 0) : (dnum xs).1 < 9223372036854775808 ∧ (dnum xs).2.1 ≤ xs.length ∧ (dnum xs).2.1 ≤ 9 := by
  unfold dnum at h ⊢
  by_cases h0 : (rd 0 0 xs).2.2 = 0
  · rw [if_pos h0]
    have := rd_bound xs 0 0 (by omega) (by simp) h0
    omega
  · rw [if_neg h0] at h
    simp only at h
    split at h <;> simp at h
theorem dnum_bad (xs : List Nat) (h : (dnum xs).2.2 ≠ 0) : (dnum xs).2.2 = 32 ∨ (dnum xs).2.2 = 33 := by
  unfold dnum at h ⊢
  by_cases h0 : (rd 0 0 xs).2.2 = 0
  · rw [if_pos h0] at h; exact absurd h0 h
  · rw [if_neg h0]
    simp only
    split
    · exact .inl rfl
    · exact .inr rfl
/-- What Read of the document tells. -/
def dread (xs : List Nat) : Nat × List Nat × Nat × Nat :=
  if (dnum xs).2.2 ≠ 0 then (0, [], 0, (dnum xs).2.2)
  else if (dnum (xs.drop (dnum xs).2.1)).2.2 ≠ 0 then (0, [], 0, (dnum (xs.drop (dnum xs).2.1)).2.2)
  else if (dnum xs).1 ≠ 18 ∧ (dnum xs).1 ≠ 0 then (0, [], 0, 30)
  else if ((dnum xs).1 = 18 ∧ (dnum (xs.drop (dnum xs).2.1)).1 ≠ 32) ∨ ((dnum xs).1 = 0 ∧ 64 < (dnum (xs.drop (dnum xs).2.1)).1) then (0, [], 0, 31)
  else if xs.length - ((dnum xs).2.1 + (dnum (xs.drop (dnum xs).2.1)).2.1) < (dnum (xs.drop (dnum xs).2.1)).1 then (0, [], 0, 32)
  else ((dnum xs).1, (xs.drop ((dnum xs).2.1 + (dnum (xs.drop (dnum xs).2.1)).2.1)).take (dnum (xs.drop (dnum xs).2.1)).1, (dnum xs).2.1 + (dnum (xs.drop (dnum xs).2.1)).2.1 + (dnum (xs.drop (dnum xs).2.1)).1, 0)

theorem dread_one {xs : List Nat} (h : (dnum xs).2.2 ≠ 0) : dread xs = (0, [], 0, (dnum xs).2.2) := by unfold dread; rw [if_pos h]
theorem dread_rest {xs : List Nat} {hn u : Nat} (h : dnum xs = (hn, u, 0)) : 
    ((dnum (xs.drop u)).2.2 ≠ 0 → dread xs = (0, [], 0, (dnum (xs.drop u)).2.2)) ∧
    ∀ n m, dnum (xs.drop u) = (n, m, 0) →
      (hn ≠ 18 ∧ hn ≠ 0 → dread xs = (0, [], 0, 30)) ∧ (¬ (hn ≠ 18 ∧ hn ≠ 0) →
      ((hn = 18 ∧ n ≠ 32) ∨ (hn = 0 ∧ 64 < n) → dread xs = (0, [], 0, 31)) ∧ (¬ ((hn = 18 ∧ n ≠ 32) ∨ (hn = 0 ∧ 64 < n)) →
      (xs.length - (u + m) < n → dread xs = (0, [], 0, 32)) ∧ (¬ xs.length - (u + m) < n → dread xs = (hn, (xs.drop (u + m)).take n, u + m + n, 0)))) := by
  have e1 : (dnum xs).1 = hn := by rw [h]
  have e2 : (dnum xs).2.1 = u := by rw [h]
  have e3 : ¬ (dnum xs).2.2 ≠ 0 := by rw [h]; simp
  unfold dread
  rw [if_neg e3, e1, e2]
  refine ⟨fun hb => by rw [if_pos hb], fun n m hq => ?_⟩
  have q1 : (dnum (xs.drop u)).1 = n := by rw [hq]
  have q2 : (dnum (xs.drop u)).2.1 = m := by rw [hq]
  have q3 : ¬ (dnum (xs.drop u)).2.2 ≠ 0 := by rw [hq]; simp
  rw [if_neg q3, q1, q2]
  refine ⟨fun h1 => by rw [if_pos h1], fun h1 => ?_⟩
  rw [if_neg h1]
  refine ⟨fun h2 => by rw [if_pos h2], fun h2 => ?_⟩
  rw [if_neg h2]
  exact ⟨fun h3 => by rw [if_pos h3], fun h3 => by rw [if_neg h3]⟩
/-- The bytes from a place on, where something is left behind it. -/
theorem BSl.drop {w : World} {b off n cap : Nat} {xs : List Nat} (h : BSl w (.slice (some ⟨b, off, none⟩) n cap) xs) (k : Nat) (hk : k ≤ xs.length) : BSl w (.slice (some ⟨b, off + k, none⟩) (n - k) (cap - k)) (xs.drop k) := by
  obtain ⟨⟨a, cap', hv, hn, hc⟩, hmax, hby⟩ := h
  injection hv with h1 h2 h3
  subst h1
  subst h3
  subst h2
  refine ⟨⟨_, cap - k, by rw [List.length_drop], ⟨by rw [List.length_drop]; omega, fun h => by cases h⟩, ?_⟩, by rw [List.length_drop]; omega, fun z hz => hby z (List.mem_of_mem_drop hz)⟩
  rcases hc with hc | ⟨b', off', e, hc⟩
  · exact .inl (by subst hc; simp)
  · injection e with e
    injection e with e1 e2 e3
    subst e1
    subst e2
    refine .inr ⟨b, off + k, rfl, fun j hj => ?_⟩
    rw [List.length_drop] at hj
    have hq := hc (k + j) (by omega)
    have e : off + (k + j) = off + k + j := by omega
    rw [e] at hq
    rw [hq]
    simp [List.getD]

theorem results_four {fn : Func} {p q r s : Tmp} (h : fn.results = #[.tmp p, .tmp q, .tmp r, .tmp s]) (tmps : Array Value) (P : Program) (w : World) :
    (results fn tmps).run P w = .ok (.tuple #[tmps.getD p undef, tmps.getD q undef, tmps.getD r undef, tmps.getD s undef]) w := by
  simp only [results, h]
  simp
theorem dnum_nil : dnum [] = (0, 0, 32) := rfl
end
end Go.Proofs.YtidglddjinfncabDoor
