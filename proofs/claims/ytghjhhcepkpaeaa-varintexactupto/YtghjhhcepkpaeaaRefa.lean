import Derived.Test.YtghjhhcepkpaeaaMath
import Derived.Test.YtghjhhcepkpaeaaKp
import Derived.Deep.QuietTactic
import Derived.BigQuiet
namespace Go.Proofs.Ytghjhhcepkpaeaa
open Go.RowKit

theorem own_one (w : World) (x : Nat) : (w.alloc (.cells #[.int .u8 ((x : Nat) : Int)] 5)).ownsRow w.heap.size 5 1 (.slice (some ⟨w.heap.size, 0, none⟩) 1 1) 1 (bv [x]) :=
  ⟨rfl, .inr ⟨w.heap.size, 1, _, rfl, Nat.le_refl _, heap_alloc_new w _, Nat.le_refl _, by decide, rfl, rfl⟩⟩
theorem own_mono {w : World} {base base' : Nat} {e : TypeId} {size : Nat} {v : Value} {n : Nat} {xs : List Value} (h : w.ownsRow base e size v n xs) (hb : base' ≤ base) : w.ownsRow base' e size v n xs := by
  refine ⟨h.1, ?_⟩
  rcases h.2 with hn | ⟨g, cap, cur, hv, hg, r⟩
  · exact .inl hn
  · exact .inr ⟨g, cap, cur, hv, Nat.le_trans hb hg, r⟩
theorem own_below {w w' : World} {B base : Nat} {e : TypeId} {size : Nat} {v : Value} {n : Nat} {xs : List Value} (h : w.ownsRow base e size v n xs) (hb : Below w.heap.size w w') (_hB : B = B) : w'.ownsRow base e size v n xs :=
  (Kp.of_below (S := fun _ => False) hb).owns h (fun _ _ hf => hf)

set_option maxRecDepth 1000000 in
set_option maxHeartbeats 400000 in
theorem digits_any : ∀ (f : Nat) (n : Int) (w : World), 0 ≤ n → n.toNat < 128 ^ (f + 1) → f ≤ 8 →
    Calls Try.prog 22 #[.int .u64 n] w fun e w' => ∃ v, e = .returned v ∧ w'.ownsRow w.heap.size 5 1 v (digs (f + 1) n.toNat).length (bv (digs (f + 1) n.toNat)) ∧ Below w.heap.size w w' := by
  intro f
  induction f with
  | zero =>
    intro n w h0 h1 _
    have hlt : n < 128 := by simp at h1; omega
    have e1 : n = ((n.toNat : Nat) : Int) := by omega
    have HD : Hid (digs (0 + 1) n.toNat = [n.toNat]) := digs_small (by omega)
    have HE := hide e1
    clear e1 h1
    go_enter Try.func22, Try.ntmps22
    go_wp2
    go_ret
    refine ⟨_, rfl, ?_, (Below.refl _ _).alloc (Nat.le_refl _) _⟩
    rw [HD.out]
    have h := own_one w n.toNat
    rw [← HE.out] at h
    exact h
  | succ g ih =>
    intro n w h0 h1 hg
    by_cases hlt : n < 128
    · have e1 : n = ((n.toNat : Nat) : Int) := by omega
      have HD : Hid (digs (g + 1 + 1) n.toNat = [n.toNat]) := digs_small (by omega)
      have HE := hide e1
      clear e1 h1 ih
      go_enter Try.func22, Try.ntmps22
      go_wp2
      go_ret
      refine ⟨_, rfl, ?_, (Below.refl _ _).alloc (Nat.le_refl _) _⟩
      rw [HD.out]
      have h := own_one w n.toNat
      rw [← HE.out] at h
      exact h
    · have hge : ¬ n < 128 := hlt
      have hdv : n.toNat / 128 < 128 ^ (g + 1) := by rw [Nat.pow_succ] at h1; exact Nat.div_lt_of_lt_mul (by omega)
      have hq : (n / 128).toNat = n.toNat / 128 := by omega
      have hdl := digs_len (g + 1) (n.toNat / 128)
      have hn64 : n.toNat < 9223372036854775808 := Nat.lt_of_lt_of_le h1 (pow_lid (g + 1) hg)
      have HI := hide (ih (n / 128) (w.alloc (.cells #[.int .u8 ((n.toNat % 128 + 128 : Nat) : Int)] 5)) (by omega) (by rw [hq]; exact hdv) (by omega))
      rw [hq] at HI
      have HD : Hid (digs (g + 1 + 1) n.toNat = (n.toNat % 128 + 128) :: digs (g + 1) (n.toNat / 128)) := digs_big (by omega)
      have hx : (128 : Int) + n % 128 = ((n.toNat % 128 + 128 : Nat) : Int) := by omega
      have HDL : Hid ((digs (g + 1) (n.toNat / 128)).length ≤ 10) := by show _ ≤ _; omega
      have hbyt := digs_byte (g + 1) (n.toNat / 128)
      have HBY := hide hbyt
      have HW : Hid (IntKind.u64.wrap (n.tdiv 128) = n / 128) := by
        have e2 : n.tdiv 128 = n / 128 := Int.tdiv_eq_ediv_of_nonneg h0
        show _ = _
        rw [e2, IntKind.wrap_u64]
        omega
      clear ih hdv hq hdl h1 hn64 hbyt
      generalize n.toNat % 128 + 128 = x at *
      generalize digs (g + 1) (n.toNat / 128) = D at *
      go_enter Try.func22, Try.ntmps22
      go_wp2_with fail
      rw [HW.out]
      refine HI.out.mono ?_
      rintro e w2 ⟨v2, rfl, hown2, hbel2⟩
      have HB2 : Hid (BSl w2 v2 D) := BSl.own hown2 HBY.out
      have HO1 : Hid (w2.ownsRow w.heap.size 5 1 (.slice (some ⟨w.heap.size, 0, none⟩) 1 1) 1 (bv [x])) := own_below (B := 0) (own_one w x) hbel2 rfl
      have HBE : Hid (Below w.heap.size w w2) := ((Below.refl _ _).alloc (Nat.le_refl _) _).trans (hbel2.mono (by simp))
      clear hown2 hbel2 HI
      go_wp2_with (at_builtin; refine append_bsl rfl _ _ rfl w.heap.size _ 1 [x] rfl HO1.out _ D rfl HB2.out (by have := HDL.out; omega) HBE.out.size ?_)
      intro v3 w3 ho3 hg3
      have HO3 := hide ho3
      have HBE3 : Hid (Below w.heap.size w w3) := HBE.out.grown hg3 HBE.out.size (fun q hq => (HO1.out.lt q hq).1)
      clear ho3 hg3
      go_wp2
      go_ret
      refine ⟨v3, rfl, ?_, HBE3.out⟩
      rw [HD.out]
      have e4 : (x :: D).length = 1 + D.length := by simp; omega
      rw [e4]
      exact HO3.out

set_option maxRecDepth 1000000 in
theorem refLay_no (n : Int) (w : World) (h1 : 9223372036854775808 ≤ n) :
    Calls Try.prog 7 #[.int .u64 n] w fun e w' => e = .returned (.tuple #[.slice none 0 0, .int .i64 11]) ∧ w' = w := by
  go_enter Try.func7, Try.ntmps7
  go_wp2
  go_ret2
  exact ⟨rfl, rfl⟩
set_option maxRecDepth 1000000 in
theorem refLay_any (n : Int) (w : World) (h0 : 0 ≤ n) (h1 : n < 9223372036854775808) :
    Calls Try.prog 7 #[.int .u64 n] w fun e w' => ∃ v, e = .returned (.tuple #[v, .int .i64 0]) ∧ w'.ownsRow w.heap.size 5 1 v (digs 9 n.toNat).length (bv (digs 9 n.toNat)) ∧ Below w.heap.size w w' := by
  have HC := hide (digits_any 8 n w h0 (by show n.toNat < 9223372036854775808; omega) (Nat.le_refl _))
  go_enter Try.func7, Try.ntmps7
  go_wp2_with fail
  refine HC.out.mono ?_
  rintro e w2 ⟨v2, rfl, hown2, hbel2⟩
  have HO := hide hown2
  have HB := hide hbel2
  clear hown2 hbel2 HC
  go_wp2
  go_ret2
  exact ⟨v2, rfl, HO.out, HB.out⟩

/-! ### Eq -/
set_option maxRecDepth 1000000 in
set_option maxHeartbeats 400000 in
theorem eq_any (w : World) (v1 v2 : Value) (xs ys : List Nat) (h1 : BSl w v1 xs) (h2 : BSl w v2 ys) :
    Calls Try.prog 31 #[v1, v2] w fun e w' => e = .returned (.bool (decide (xs = ys))) ∧ Kp (fun _ => False) w w' := by
  have H1 := hide h1
  have H2 := hide h2
  obtain ⟨⟨a1, cap1, rfl, _, hc1⟩, hm1, _⟩ := h1
  obtain ⟨⟨a2, cap2, rfl, _, hc2⟩, hm2, _⟩ := h2
  have HC1 := hide hc1
  have HC2 := hide hc2
  clear hc1 hc2
  by_cases hlen : xs.length = ys.length
  · have hne : ((xs.length : Int) != (ys.length : Int)) = false := by simp [hlen]
    have HLN := hide hlen
    clear hlen
    go_enter Try.func31, Try.ntmps31
    go_wp2
    go_loopw [5] (fun i wr => ∃ k : Nat, k ≤ xs.length ∧ i = .int .i64 k ∧ Kp (fun _ => False) w wr ∧ xs.take k = ys.take k) (fun i _ => xs.length - (intOf i).toNat)
    case atStart => exact ⟨0, Nat.zero_le _, rfl, Kp.refl _ _, by simp⟩
    case round =>
      obtain ⟨k, hk, rfl, hkp, htk⟩ := hrel
      have HK := hide hkp
      have HTK := hide htk
      clear hkp htk
      by_cases hlt : k < xs.length
      · have hlt' : (k : Int) < (xs.length : Int) := by omega
        have hlty : k < ys.length := by have := HLN.out; omega
        have hlty' : (k : Int) < (ys.length : Int) := by omega
        rcases HC1.out with h | ⟨b1, o1, rfl, hcc1⟩
        · rw [h] at hlt; simp at hlt
        rcases HC2.out with h | ⟨b2, o2, rfl, hcc2⟩
        · rw [h] at hlty; simp at hlty
        have cc1 := HK.out.cell (hcc1 k hlt) (by simp)
        have cc2 := HK.out.cell (hcc2 k hlty) (by simp)
        have hs1 : xs.take (k + 1) = xs.take k ++ [xs.getD k 0] := by rw [List.take_succ_eq_append_getElem hlt]; simp [List.getD, hlt]
        have hs2 : ys.take (k + 1) = ys.take k ++ [ys.getD k 0] := by rw [List.take_succ_eq_append_getElem hlty]; simp [List.getD, hlty]
        have HS1 := hide hs1
        have HS2 := hide hs2
        clear hcc1 hcc2 hs1 hs2
        by_cases hxy : xs.getD k 0 = ys.getD k 0
        · have hxy' : (((xs.getD k 0 : Nat) : Int) != ((ys.getD k 0 : Nat) : Int)) = false := by rw [hxy]; simp
          have HXY := hide hxy
          clear hxy
          generalize xs.getD k 0 = x at *
          generalize ys.getD k 0 = y at *
          go_wp2
          go_quiet (fail)
          go_wp2
          go_roundw
          case rel => exact ⟨k + 1, by omega, by go_num, HK.out.drewN _, by rw [HS1.out, HS2.out, HTK.out, HXY.out]⟩
          case measure => simp [intOf]; omega
        · have hxy' : (((xs.getD k 0 : Nat) : Int) != ((ys.getD k 0 : Nat) : Int)) = true := bne_iff_ne.2 (by omega)
          have hd : decide (xs = ys) = false := decide_eq_false (fun e => hxy (by rw [e]))
          have HD := hide hd
          clear hxy hd
          generalize xs.getD k 0 = x at *
          generalize ys.getD k 0 = y at *
          go_wp2
          go_quiet (fail)
          go_wp2
          go_ret
          exact ⟨by rw [HD.out]; rfl, HK.out.drewN _⟩
      · have hlt' : ¬ (k : Int) < (xs.length : Int) := by omega
        have hd : decide (xs = ys) = true := decide_eq_true (by
          have h := HTK.out
          rw [List.take_of_length_le (by omega), List.take_of_length_le (by have := HLN.out; omega)] at h
          exact h)
        have HD := hide hd
        clear hd
        go_wp2
        go_ret
        exact ⟨by rw [HD.out]; rfl, HK.out⟩
  · have hne : ((xs.length : Int) != (ys.length : Int)) = true := bne_iff_ne.2 (by omega)
    have hd : decide (xs = ys) = false := decide_eq_false (fun e => hlen (by rw [e]))
    rw [hd]
    clear hlen hd
    go_enter Try.func31, Try.ntmps31
    go_wp2
    go_ret
    exact ⟨rfl, Kp.refl _ _⟩
end Go.Proofs.Ytghjhhcepkpaeaa
