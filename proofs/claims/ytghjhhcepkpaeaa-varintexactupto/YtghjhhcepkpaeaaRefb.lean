import Derived.Test.YtghjhhcepkpaeaaRefa
import Derived.Deep.RegionWith
namespace Go.Proofs.Ytghjhhcepkpaeaa
open Go.RowKit

/-! ### Plain -/
/-- What sevens of bits come to, the lowest first. -/
def numv : List Nat → Nat
  | [] => 0
  | x :: r => x % 128 + 128 * numv r
theorem numv_lt : ∀ ys, numv ys < 128 ^ ys.length
  | [] => by decide
  | x :: r => by
    have := numv_lt r
    simp only [numv, List.length_cons, Nat.pow_succ]
    omega
theorem numv_digs : ∀ f n, n < 128 ^ f → numv (digs f n) = n
  | 0, n, h => by simp at h; subst h; rfl
  | f + 1, n, h => by
    by_cases hb : 128 ≤ n
    · have hlt : n / 128 < 128 ^ f := by rw [Nat.pow_succ] at h; exact Nat.div_lt_of_lt_mul (by omega)
      rw [digs_big hb, numv, numv_digs f _ hlt]
      omega
    · rw [digs_small (by omega)]; simp [numv]; omega
theorem digs_last : ∀ g m, 0 < m → m < 128 ^ g → (digs g m).getD ((digs g m).length - 1) 0 ≠ 0
  | 0, m, h, h1 => by simp at h1; omega
  | g + 1, m, h, h1 => by
    by_cases hb : 128 ≤ m
    · have hlt : m / 128 < 128 ^ g := by rw [Nat.pow_succ] at h1; exact Nat.div_lt_of_lt_mul (by omega)
      have ih := digs_last g (m / 128) (by omega) hlt
      have hp : 1 ≤ (digs g (m / 128)).length := by
        match g, hlt with
        | 0, hlt => simp at hlt; omega
        | g + 1, _ => exact digs_pos
      rw [digs_big hb]
      have e : ((m % 128 + 128) :: digs g (m / 128)).length - 1 = ((digs g (m / 128)).length - 1) + 1 := by simp; omega
      rw [e]
      simpa using ih
    · rw [digs_small (by omega)]; simp; omega
theorem form_ne (xs : List Nat) (q : Nat) (hq0 : 0 < q) (hq : q < xs.length) (hz : xs.getD q 0 = 0) : digs 9 (numv (xs.take (q + 1))) ≠ xs.take (q + 1) := by
  intro h
  have hlen : (xs.take (q + 1)).length = q + 1 := by rw [List.length_take]; omega
  generalize hm : numv (xs.take (q + 1)) = m at *
  have hl : (digs 9 m).length = q + 1 := by rw [h, hlen]
  have hb : 128 ≤ m := by
    rcases Nat.lt_or_ge m 128 with h1 | h1
    · rw [digs_small (f := 8) h1] at hl; simp at hl; omega
    · exact h1
  have hq9 : q + 1 ≤ 9 := by have := digs_len 9 m; omega
  have hlt : m < 128 ^ 9 := by
    have h1 := numv_lt (xs.take (q + 1))
    rw [hm, hlen] at h1
    exact Nat.lt_of_lt_of_le h1 (Nat.pow_le_pow_right (by decide) hq9)
  have h2 := digs_last 9 m (by omega) hlt
  rw [hl, h] at h2
  apply h2
  simp only [Nat.add_sub_cancel]
  have h3 : (xs.take (q + 1)).getD q 0 = xs.getD q 0 := by simp [List.getD]
  rw [h3, hz]
theorem ok_eq (xs : List Nat) (q val : Nat) (h : digs 9 val = xs.take (q + 1)) (hv : val < 128 ^ 9) : numv (xs.take (q + 1)) = val := by rw [← h]; exact numv_digs 9 val hv
theorem numv_step (xs : List Nat) (q j : Nat) (hj : j < q + 1) (hq : q < xs.length) : numv ((xs.take (q + 1)).drop j) = xs.getD j 0 % 128 + 128 * numv ((xs.take (q + 1)).drop (j + 1)) := by
  have hlen : (xs.take (q + 1)).length = q + 1 := by rw [List.length_take]; omega
  rw [List.drop_eq_getElem_cons (by omega), numv]
  congr 2
  have : j < xs.length := by omega
  simp [List.getD, this]

theorem wrap_step (N x : Nat) (hN : N < 72057594037927936) : IntKind.u64.wrap (IntKind.u64.wrap ((N : Int) * 128) + (x : Int) % 128) = ((x % 128 + 128 * N : Nat) : Int) := by
  have e1 : IntKind.u64.wrap ((N : Int) * 128) = (N : Int) * 128 := by rw [IntKind.wrap_u64]; omega
  rw [e1, IntKind.wrap_u64]
  omega

set_option maxRecDepth 1000000 in
set_option maxHeartbeats 400000 in
theorem refRead_any (w : World) (v : Value) (xs : List Nat) (hsl : BSl w v xs) :
    Calls Try.prog 26 #[v] w fun e w' => e = .returned (.tuple #[.int .u64 (rd 0 0 xs).1, .int .i64 (rd 0 0 xs).2.1, .int .i64 (rd 0 0 xs).2.2]) ∧ Below w.heap.size w w' := by
  have HSL := hide hsl
  obtain ⟨⟨ad, capv, rfl, hcp, hc⟩, hmx, hby⟩ := hsl
  have hcap := hcp.1
  have HC := hide hc
  have HBY := hide hby
  clear hcp hc hby
  generalize hR : rd 0 0 xs = R
  have HRD := hide hR
  clear hR
  go_enter Try.func26, Try.ntmps26
  go_wp2
  go_loop [5] (fun h => ∃ q : Nat, h = .int .i64 q ∧ q ≤ 9 ∧ q ≤ xs.length ∧ ∀ j, j < q → 128 ≤ xs.getD j 0) (fun h => 9 - (intOf h).toNat)
  case atStart => exact ⟨0, rfl, by omega, by omega, fun j hj => by omega⟩
  case round =>
    obtain ⟨q, rfl, hq9, hql, hqh⟩ := hrel
    have HQ := hide hqh
    clear hqh
    by_cases hll : q < xs.length
    · have hll' : (q : Int) < (xs.length : Int) := by omega
      by_cases h99 : q < 9
      · have h99' : (q : Int) < 9 := by omega
        rcases HC.out with h | ⟨bb, oo, rfl, hcc⟩
        · rw [h] at hll; simp at hll
        have HCC := hide hcc
        have hcq := hcc q hll
        have hx := getD_lt HBY.out q
        clear hcc HC
        by_cases hxb : 128 ≤ xs.getD q 0
        · have hxb' : (128 : Int) ≤ ((xs.getD q 0 : Nat) : Int) := by omega
          have HGO : Hid (∀ j, j < q + 1 → 128 ≤ xs.getD j 0) := fun j hj => by
            rcases Nat.lt_or_ge j q with h1 | h1
            · exact HQ.out j h1
            · have : j = q := by omega
              rw [this]; exact hxb
          clear hxb
          generalize xs.getD q 0 = x at *
          go_wp2
          go_round
          case rel => exact ⟨q + 1, by go_num, by omega, by omega, HGO.out⟩
          case measure => simp [intOf]; omega
        · have hxb' : ¬ (128 : Int) ≤ ((xs.getD q 0 : Nat) : Int) := by omega
          have hlead := lead_unique (f := 9) hq9 hql HQ.out (.inr (.inr (by omega)))
          have hq9' : ((q : Int) == 9) = false := beq_eq_false_iff_ne.2 (by omega)
          have hql' : ((q : Int) == (xs.length : Int)) = false := beq_eq_false_iff_ne.2 (by omega)
          have HLD := hide hlead
          clear hlead hxb hx HQ
          generalize xs.getD q 0 = x at hcq hxb'
          go_wp2
          clear hcq hxb'
          go_loop [6, 7] (fun nn i => ∃ j : Nat, j ≤ q + 1 ∧ i = .int .i64 ((j : Int) - 1) ∧ nn = .int .u64 ((numv ((xs.take (q + 1)).drop j) : Nat) : Int)) (fun _ i => (intOf i + 1).toNat)
          case atStart => exact ⟨q + 1, Nat.le_refl _, by simp, by rw [List.drop_of_length_le (by rw [List.length_take]; omega)]; rfl⟩
          case round =>
            obtain ⟨j, hj, rfl, rfl⟩ := hrel
            by_cases hj0 : 0 < j
            · obtain ⟨j', rfl⟩ : ∃ j', j = j' + 1 := ⟨j - 1, by omega⟩
              have hcj := HCC.out j' (by omega)
              have hxj := getD_lt HBY.out j'
              have hst := numv_step xs q j' (by omega) hll
              have hsm : numv ((xs.take (q + 1)).drop (j' + 1)) < 72057594037927936 := by
                have h1 := numv_lt ((xs.take (q + 1)).drop (j' + 1))
                have h2 : ((xs.take (q + 1)).drop (j' + 1)).length ≤ 8 := by rw [List.length_drop, List.length_take]; omega
                exact Nat.lt_of_lt_of_le h1 (small_pow _ h2)
              have HST := hide hst
              have HSM := hide hsm
              clear hst hsm hj0
              generalize numv ((xs.take (q + 1)).drop (j' + 1)) = N at *
              generalize xs.getD j' 0 = x at *
              go_wp2
              go_round
              case rel => exact ⟨j', by omega, rfl, by rw [HST.out, wrap_step N x HSM.out]⟩
              case measure => simp [intOf]
            · have hj00 : j = 0 := by omega
              subst hj00
              clear hj0 hj
              have hys : (xs.take (q + 1)).drop 0 = xs.take (q + 1) := rfl
              rw [hys]
              clear hys
              have hlen1 : (xs.take (q + 1)).length = q + 1 := by rw [List.length_take]; omega
              have hnlt : numv (xs.take (q + 1)) < 9223372036854775808 := by
                have h1 := numv_lt (xs.take (q + 1))
                rw [hlen1] at h1
                exact Nat.lt_of_lt_of_le h1 (pow_lid q (by omega))
              have HND := hide (fun W => digits_any 8 ((numv (xs.take (q + 1)) : Nat) : Int) W (by omega) (by rw [Int.toNat_natCast]; exact hnlt) (Nat.le_refl _))
              simp only [Int.toNat_natCast] at HND
              have HB9 := hide (digs_byte 9 (numv (xs.take (q + 1))))
              have hcq1 : (q : Int) + 1 ≤ (capv : Int) := by omega
              have HTK : Hid (BSl w (.slice (some ⟨bb, oo, none⟩) (q + 1) capv) (xs.take (q + 1))) := HSL.out.take (q + 1) (by omega)
              have hcase : (digs 9 (numv (xs.take (q + 1))) ≠ xs.take (q + 1) ∧ R = (0, 0, 12)) ∨ (digs 9 (numv (xs.take (q + 1))) = xs.take (q + 1) ∧ R = (numv (xs.take (q + 1)), q + 1, 0)) := by
                have hl0 := HLD.out
                by_cases hz : 0 < q ∧ xs.getD q 0 = 0
                · refine .inl ⟨form_ne xs q hz.1 hll hz.2, ?_⟩
                  rw [← HRD.out]
                  exact rd_form xs 0 0 (by rw [hl0]; omega) (by rw [hl0]; omega) (by rw [hl0]; omega) (by rw [hl0]; exact hz.2)
                · obtain ⟨val, e1, e2, e3, _⟩ := rd_ok xs 0 0 HBY.out (by rw [hl0]; omega) (by rw [hl0]; omega) (by rw [hl0]; omega)
                  rw [hl0] at e1 e3
                  have e4 := ok_eq xs q val e3 e2
                  refine .inr ⟨by rw [e4]; exact e3, ?_⟩
                  rw [← HRD.out, e1, e4]
                  simp
              clear HRD HLD HSL HCC hnlt
              generalize numv (xs.take (q + 1)) = N at *
              generalize digs 9 N = D at *
              generalize xs.take (q + 1) = ys at *
              have hj0' : ¬ (0 : Int) ≤ ((0 : Nat) : Int) - 1 := by omega
              have hwr : IntKind.i64.wrap ((q : Int) + 1) = (q : Int) + 1 := by rw [IntKind.wrap_i64]; omega
              rcases hcase with ⟨hne, rfl⟩ | ⟨heq, rfl⟩
              · have HDE : Hid (decide (D = ys) = false) := decide_eq_false hne
                clear hne
                go_wp2
                go_region_with (first
                  | (go_at_call 22; refine (HND.out _).mono ?_; rintro e w2 ⟨v2, rfl, hown2, hbel2⟩; have HB2 := hide (BSl.own hown2 HB9.out); have HY2 := hide ((HTK.out.move (w' := w.drew) (fun _ _ h => h)).move (keep_below hbel2)); have HBE : Hid (Below w.heap.size w w2) := (Below.refl _ w).drew.trans hbel2; clear hown2 hbel2)
                  | (go_at_call 31; refine (eq_any _ _ _ _ _ HB2.out HY2.out).mono ?_; rintro e w3 ⟨rfl, hk3⟩; rw [HDE.out]; have HK3 := hide hk3; clear hk3))
                all_goals
                  go_wp2
                  go_ret3
                  exact ⟨rfl, HBE.out.trans ((HK3.out.below (Nat.le_refl _) (fun _ h => h.elim)).mono HBE.out.size)⟩
              · have HDE : Hid (decide (D = ys) = true) := decide_eq_true heq
                clear heq
                go_wp2
                go_region_with (first
                  | (go_at_call 22; refine (HND.out _).mono ?_; rintro e w2 ⟨v2, rfl, hown2, hbel2⟩; have HB2 := hide (BSl.own hown2 HB9.out); have HY2 := hide ((HTK.out.move (w' := w.drew) (fun _ _ h => h)).move (keep_below hbel2)); have HBE : Hid (Below w.heap.size w w2) := (Below.refl _ w).drew.trans hbel2; clear hown2 hbel2)
                  | (go_at_call 31; refine (eq_any _ _ _ _ _ HB2.out HY2.out).mono ?_; rintro e w3 ⟨rfl, hk3⟩; rw [HDE.out]; have HK3 := hide hk3; clear hk3))
                all_goals
                  go_wp2
                  go_ret3
                  exact ⟨rfl, HBE.out.trans ((HK3.out.below (Nat.le_refl _) (fun _ h => h.elim)).mono HBE.out.size)⟩
      · have h99' : ¬ (q : Int) < 9 := by omega
        have hq9' : ((q : Int) == 9) = true := beq_iff_eq.2 (by omega)
        have hend : R = (0, 0, 11) := by
          rw [← HRD.out]
          have hlead := lead_unique (f := 9) hq9 hql HQ.out (.inl (by omega))
          exact rd_long xs 0 0 (by omega) (by rw [hlead]; omega)
        subst hend
        clear HC
        go_wp2
        go_ret3
        exact ⟨rfl, Below.refl _ _⟩
    · have hll' : ¬ (q : Int) < (xs.length : Int) := by omega
      have hlead := lead_unique (f := 9) hq9 hql HQ.out (.inr (.inl (by omega)))
      by_cases h99 : q = 9
      · have hq9' : ((q : Int) == 9) = true := beq_iff_eq.2 (by omega)
        have hend : R = (0, 0, 11) := by
          rw [← HRD.out]
          exact rd_long xs 0 0 (by omega) (by rw [hlead]; omega)
        subst hend
        clear hlead HC h99
        go_wp2
        go_ret3
        exact ⟨rfl, Below.refl _ _⟩
      · have hq9' : ((q : Int) == 9) = false := beq_eq_false_iff_ne.2 (by omega)
        have hql' : ((q : Int) == (xs.length : Int)) = true := beq_iff_eq.2 (by omega)
        have hend : R = (0, 0, 10) := by
          rw [← HRD.out]
          exact rd_short xs 0 0 (by omega) (by rw [hlead]; omega) (by rw [hlead]; omega)
        subst hend
        clear hlead HC h99
        go_wp2
        go_ret3
        exact ⟨rfl, Below.refl _ _⟩
end Go.Proofs.Ytghjhhcepkpaeaa
