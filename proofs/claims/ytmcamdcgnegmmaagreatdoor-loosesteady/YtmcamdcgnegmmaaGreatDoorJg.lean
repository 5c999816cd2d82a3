import Derived.Test.YtmcamdcgnegmmaaGreatDoorJf
import Derived.Laws.BitsAllLaws
import Derived.Test.YtmcamdcgnegmmaaGreatDoorJe
import Derived.Lib.AppendZerosOnto
import Derived.Lib.SliceRun
set_option maxRecDepth 1000000
set_option maxHeartbeats 16000000
namespace Go.Proofs.YtmcamdcgnegmmaaGreatDoor
section
open Go.RowKit Go
theorem and1023 (a : Nat) (ha : a < 65536) : bits .and .u64 (a : Int) 1023 = ((a % 1024 : Nat) : Int) := by
  have h := bits_and_u64_nat a 1023 (by omega) (by decide)
  have e := Nat.and_two_pow_sub_one_eq_mod a 10
  rw [show (2 ^ 10 - 1 : Nat) = 1023 from rfl, show (2 ^ 10 : Nat) = 1024 from rfl] at e
  rw [e] at h
  exact h
theorem partsS9 (w : World) (a : Nat) (ha : a < 1024) : Calls Tryz.prog 109 #[.agg #[.int .i64 5, .int .i64 10], .int .u64 (a : Nat)] w fun e w' => e = .returned (.tuple #[.int .u64 (a : Nat), .int .i64 (-24)]) ∧ Below w.heap.size w w' := by
  obtain ⟨w1, hw1⟩ : ∃ w1, w1 = w.alloc (.cells #[.int .i64 5, .int .i64 10] 135) := ⟨_, rfl⟩
  have HB1 : Hid (Below w.heap.size w w1) := hw1 ▸ below_alloc4 w _
  have HC := hide (box_fm hw1 w1 ⟨⟨w1, Below.refl _ _⟩, rfl⟩)
  have HI := hide infoFm
  have HA : Hid (∀ w, (isAgg 135).run Tryz.prog w = .ok true w) := aggFm
  have hc1 : w1.cell? ⟨w.heap.size, 1, none⟩ = some (.int .i64 10) := HC.out 1 _ rfl
  have g1 : bits .and .u64 (a : Int) 1023 = (a : Int) := by
    have h := and1023 a (by omega)
    rw [Nat.mod_eq_of_lt ha] at h
    exact h
  have g2 : (a : Int) / 1024 = 0 := by omega
  clear ha
  go_enter Tryz.func109, Tryz.ntmps109
  go_upto_region 1 with fail
  rw [← hw1]
  clear hw1
  go_wp2_with (first
    | (refine wpList_aggAt rfl rfl HI.out HA.out w.heap.size 0 #[.int .i64 5, .int .i64 10] rfl rfl HC.out ?_)
    | (go_at_call 127; refine (lowH9 _).mono ?_; rintro e w' ⟨rfl, hb⟩))
  have HB2 : Hid (Below w.heap.size w w') := HB1.out.trans (hb.mono HB1.out.size)
  clear hb HC hc1
  go_wp2_with fail
  refine bodyPost_ret (results_tmp2 (t := 4) (u := 5) rfl _ _ _) rfl ⟨rfl, HB2.out⟩
theorem partsN9 (w : World) (a : Nat) (h1 : 1024 ≤ a) (ha : a < 31744) : Calls Tryz.prog 109 #[.agg #[.int .i64 5, .int .i64 10], .int .u64 (a : Nat)] w fun e w' => e = .returned (.tuple #[.int .u64 ((a % 1024 + 1024 : Nat) : Int), .int .i64 (-24 + ((a / 1024 : Nat) : Int) - 1)]) ∧ Below w.heap.size w w' := by
  obtain ⟨w1, hw1⟩ : ∃ w1, w1 = w.alloc (.cells #[.int .i64 5, .int .i64 10] 135) := ⟨_, rfl⟩
  have HB1 : Hid (Below w.heap.size w w1) := hw1 ▸ below_alloc4 w _
  have HC := hide (box_fm hw1 w1 ⟨⟨w1, Below.refl _ _⟩, rfl⟩)
  have HI := hide infoFm
  have HA : Hid (∀ w, (isAgg 135).run Tryz.prog w = .ok true w) := aggFm
  have hc1 : w1.cell? ⟨w.heap.size, 1, none⟩ = some (.int .i64 10) := HC.out 1 _ rfl
  obtain ⟨m, hm⟩ : ∃ m : Nat, m = a % 1024 := ⟨_, rfl⟩
  obtain ⟨k, hk⟩ : ∃ k : Nat, k = a / 1024 := ⟨_, rfl⟩
  rw [← hm, ← hk]
  have g1 : bits .and .u64 (a : Int) 1023 = (m : Int) := by
    have h := and1023 a (by omega)
    rw [← hm] at h
    exact h
  have g2 : (a : Int) / 1024 = (k : Int) := by omega
  have hk1 : 1 ≤ k := by omega
  have hk2 : k < 31 := by omega
  have hm2 : m < 1024 := by omega
  have g3 : ((k : Int) == 0) = false := by simp; omega
  obtain ⟨M, hM⟩ : ∃ M : Nat, M = m + 1024 := ⟨_, rfl⟩
  have g4 : bits .or .u64 (m : Int) 1024 = (M : Int) := by
    have h := bits_or_u64_nat m 1024 (by omega) (by decide)
    have e : m ||| 1024 = m + 1024 := by
      have := Nat.two_pow_add_eq_or_of_lt (i := 10) (b := m) (by omega) 1
      rw [Nat.or_comm]
      simpa [Nat.add_comm] using this.symm
    rw [e, ← hM] at h
    exact h
  rw [← hM]
  clear ha h1 hm hk hM hm2
  go_enter Tryz.func109, Tryz.ntmps109
  go_upto_region 1 with fail
  rw [← hw1]
  clear hw1
  go_wp2_with (first
    | (refine wpList_aggAt rfl rfl HI.out HA.out w.heap.size 0 #[.int .i64 5, .int .i64 10] rfl rfl HC.out ?_)
    | (go_at_call 127; refine (lowH9 _).mono ?_; rintro e w' ⟨rfl, hb⟩))
  have HB2 : Hid (Below w.heap.size w w') := HB1.out.trans (hb.mono HB1.out.size)
  clear hb HC hc1
  go_wp2_with fail
  refine bodyPost_ret (results_tmp2 (t := 4) (u := 5) rfl _ _ _) rfl ⟨rfl, HB2.out⟩
def hnr (n : Nat) (pw : Int) : Nat := (pw + (Sort.bitsLen n : Int) + 1021).toNat * 4503599627370496 + n * 2 ^ (53 - Sort.bitsLen n)
theorem lz9 (n : Nat) (hn : n < 2048) (w : World) : Calls Tryz.prog 126 #[.int .u64 (n : Nat)] w fun e w' => e = .returned (.int .i64 (64 - (Sort.bitsLen n : Int))) ∧ w' = w := by
  have h := Any.bits_LeadingZeros64 Tryz.laysLz (n : Int) w (by omega) (by omega)
  rwa [Int.toNat_natCast, bitLen9 64 n (by omega) (Nat.le_refl _)] at h
theorem near9 (w : World) (n : Nat) (pw : Int) (h0 : 0 < n) (hn : n < 2048) (h2 : -24 ≤ pw) (h3 : pw ≤ 6) : Calls Tryz.prog 108 #[.agg #[.int .i64 11, .int .i64 52], .int .u64 (n : Nat), .int .i64 pw] w fun e w' => e = .returned (.int .u64 (hnr n pw : Nat)) ∧ Below w.heap.size w w' := by
  obtain ⟨w1, hw1⟩ : ∃ w1, w1 = w.alloc (.cells #[.int .i64 11, .int .i64 52] 135) := ⟨_, rfl⟩
  have HB1 : Hid (Below w.heap.size w w1) := hw1 ▸ below_alloc4 w _
  have HC := hide (box_fm hw1)
  have HI := hide infoFm
  have HA : Hid (∀ w, (isAgg 135).run Tryz.prog w = .ok true w) := aggFm
  have HLZ := hide (lz9 n hn)
  have hl1 : Sort.bitsLen n ≤ 11 := (Sort.bitsLen_le_iff n 11).2 (by omega)
  have hl0 : 1 ≤ Sort.bitsLen n := by
    refine Nat.le_of_not_lt fun h => ?_
    have := (Sort.bitsLen_le_iff n 0).1 (by omega)
    omega
  have hll : n < 2 ^ Sort.bitsLen n := (Sort.bitsLen_le_iff n _).1 (Nat.le_refl _)
  unfold hnr
  generalize Sort.bitsLen n = l at *
  obtain ⟨M, hM⟩ : ∃ M : Nat, M = n * 2 ^ (53 - l) := ⟨_, rfl⟩
  have hMl : M < 9007199254740992 := by
    have h4 : n * 2 ^ (53 - l) < 2 ^ l * 2 ^ (53 - l) := Nat.mul_lt_mul_of_pos_right hll (Nat.two_pow_pos _)
    rw [← Nat.pow_add, show l + (53 - l) = 53 from by omega, ← hM] at h4
    exact h4
  have hN : n * 2 ^ (64 - l) = M * 2048 := by
    rw [hM, Nat.mul_assoc, show (2048 : Nat) = 2 ^ 11 from rfl, ← Nat.pow_add, show 53 - l + 11 = 64 - l from by omega]
  obtain ⟨N, hNN⟩ : ∃ N : Nat, N = M * 2048 := ⟨_, rfl⟩
  have hwr : IntKind.u64.wrap ((n : Int) * 2 ^ (64 - l)) = (N : Int) := by
    rw [IntKind.wrap_u64, show ((n : Int) * 2 ^ (64 - l)) = ((n * 2 ^ (64 - l) : Nat) : Int) by push_cast; rfl, hN, hNN]
    omega
  have hN2 : (N : Int) / 2048 = (M : Int) := by omega
  have hN3 : IntKind.u64.wrap ((N : Int) * 9007199254740992) = 0 := by
    rw [IntKind.wrap_u64, hNN]
    omega
  rw [← hM]
  have g0 : ((n : Int) == 0) = false := by simp; omega
  have HPW : Hid (-24 ≤ pw ∧ pw ≤ 6 ∧ 1 ≤ l ∧ l ≤ 11) := ⟨h2, h3, hl0, hl1⟩
  obtain ⟨P, hP⟩ : ∃ P : Int, pw - (64 - (l : Int)) = P := ⟨_, rfl⟩
  have hP1 : -87 ≤ P := by omega
  have hP2 : P ≤ -47 := by omega
  have hmx : max 11 (IntKind.i64.wrap (-1074 - P)) = 11 := by
    rw [IntKind.wrap_i64]
    omega
  have HPP : Hid (pw + (l : Int) + 1021 = P + 1085) := by show _ = _; omega
  have HLO : Hid (∀ t : Ext w1, _) := fun t => Calls.ext_below (lowD9 t.w')
  have HGR : Hid (∀ t : Ext w1, _) := fun t => Calls.ext_below (greatestD9 t.w')
  clear hn h0 hll hM hN hNN h2 h3
  have HW1 := hide hw1
  have HMl := hide hMl
  clear hMl
  go_enter Tryz.func108, Tryz.ntmps108
  go_upto_region 1 with fail
  rw [← hw1]
  clear hw1
  go_upto_region 6 with (go_at_call 126; refine (HLZ.out _).mono ?_; rintro e w' ⟨rfl, rfl⟩)
  clear hwr hP HLZ g0
  refine region_ext (by kernel_rfl) (by kernel_rfl) ?_
  with_reducible refine wpQuiet_step (fun K hK => ?_)
  go_simp
  with_reducible refine hK _ ?_
  clear hK K
  with_reducible refine wpQuiet_step (fun K hK => ?_)
  refine qstep_exec rfl (.int .i64 52) (fun wq hq => by have h0 := HC.out wq hq 1 _ rfl; first | (go_simp; done) | (go_simp; rfl)) (hK _ ?_)
  clear hK K
  with_reducible refine wpQuiet_step (fun K hK => ?_)
  refine qstep_exec rfl (.int .i64 11) (fun wq hq => by go_simp; rfl) (hK _ ?_)
  clear hK K
  with_reducible refine wpQuiet_step (fun K hK => ?_)
  refine qstep_exec rfl (.agg #[.int .i64 11, .int .i64 52]) (fun wq hq => exec_aggAt HI.out HA.out rfl rfl rfl (HC.out wq hq)) (hK _ ?_)
  clear hK K
  with_reducible refine wpQuiet_step (fun K hK => ?_)
  go_simp
  apply Exists.intro
  refine ⟨fun _ => ?_, hK _ ?_⟩
  (go_at_call 127; exact Hid.out HLO _)
  clear hK K
  with_reducible refine wpQuiet_step (fun K hK => ?_)
  go_simp
  with_reducible refine hK _ ?_
  clear hK K
  with_reducible refine wpQuiet_step (fun K hK => ?_)
  go_simp
  with_reducible refine hK _ ?_
  clear hK K
  with_reducible refine wpQuiet_step (fun K hK => ?_)
  refine qstep_exec rfl (.int .i64 11) (fun wq hq => by go_simp) (hK _ ?_)
  clear hK K
  with_reducible refine wpQuiet_step (fun K hK => ?_)
  go_simp
  with_reducible refine hK _ ?_
  clear hK K
  refine wpQuiet_nil ?_
  rintro _ ⟨tq, rfl⟩
  have HBa : Hid (Below w.heap.size w tq.w') := HB1.out.trans (tq.h.mono HB1.out.size)
  have HCa : Hid (∀ wy, Below tq.w'.heap.size tq.w' wy → ∀ j u, (#[.int .i64 11, .int .i64 52] : Array Value)[j]? = some u → wy.cell? ⟨w.heap.size, 0 + j, none⟩ = some u) := fun wy hy => HC.out wy ⟨⟨wy, tq.h.trans (hy.mono tq.h.size)⟩, rfl⟩
  clear HC HB1 HLO HGR HW1 hmx
  generalize tq.w' = wa at *
  clear tq
  have HCn := hide (HCa.out wa (Below.refl _ _))
  go_upto_region 10 with (first
    | (refine wpList_aggAt rfl rfl HI.out HA.out w.heap.size 0 #[.int .i64 11, .int .i64 52] rfl rfl HCn.out ?_)
    | (go_at_call 127; refine (lowD9 _).mono ?_; rintro e wb ⟨rfl, hbb⟩))
  have HBb : Hid (Below w.heap.size w wb) := HBa.out.trans (hbb.mono HBa.out.size)
  have HCb : Hid (∀ wy, Below wb.heap.size wb wy → ∀ j u, (#[.int .i64 11, .int .i64 52] : Array Value)[j]? = some u → wy.cell? ⟨w.heap.size, 0 + j, none⟩ = some u) := fun wy hy => HCa.out wy (hbb.trans (hy.mono hbb.size))
  clear HCn HCa HBa hbb
  have HCn := hide (HCb.out wb (Below.refl _ _))
  go_upto_region 12 with (first
    | (refine wpList_aggAt rfl rfl HI.out HA.out w.heap.size 0 #[.int .i64 11, .int .i64 52] rfl rfl HCn.out ?_)
    | (go_at_call 125; refine (greatestD9 _).mono ?_; rintro e wc ⟨rfl, hbc⟩))
  have HBc : Hid (Below w.heap.size w wc) := HBb.out.trans (hbc.mono HBb.out.size)
  have hc1 : wc.cell? ⟨w.heap.size, 1, none⟩ = some (.int .i64 52) := HCb.out wc hbc 1 _ rfl
  clear HCb HBb hbc HCn HPW
  obtain ⟨E, hE⟩ : ∃ E : Int, P + 11 + 1074 = E := ⟨_, rfl⟩
  have hE1 : 0 ≤ E := by omega
  have hE2 : E ≤ 1038 := by omega
  have HEE : Hid (P + 1085 = E) := by show _ = _; omega
  rw [hE]
  clear hE hP1 hP2
  go_quiet (fail)
  go_wp2_with fail
  go_ret
  refine ⟨?_, below_drewN HBc.out _⟩
  rw [HPP.out, HEE.out]
  obtain ⟨e, rfl⟩ := Int.eq_ofNat_of_zero_le hE1
  have he : e ≤ 1038 := by omega
  have hlt : e * 4503599627370496 + M < 18446744073709551616 := Nat.lt_trans (Nat.add_lt_add_of_le_of_lt (Nat.mul_le_mul_right 4503599627370496 he) HMl.out) (by decide)
  have h9 : IntKind.u64.wrap ((e : Int) * 4503599627370496 + (M : Int)) = ((e * 4503599627370496 + M : Nat) : Int) := by
    rw [IntKind.wrap_u64, show ((e : Int) * 4503599627370496 + (M : Int)) = ((e * 4503599627370496 + M : Nat) : Int) from by rw [Int.natCast_add, Int.natCast_mul]; rfl]
    exact Int.emod_eq_of_lt (Int.natCast_nonneg _) (Int.ofNat_lt.2 hlt)
  exact congrArg (fun z => Ending.returned (Value.int .u64 z)) h9
def hlfA (a : Nat) : Nat := if a < 31744 then (if a = 0 then 0 else if a < 1024 then hnr a (-24) else hnr (a % 1024 + 1024) (-24 + ((a / 1024 : Nat) : Int) - 1)) else 9218868437227405312
def hlf (n : Nat) : Nat := if 31744 < n % 32768 then 9221120237041090560 else hlfA (n % 32768) + (if n < 32768 then 0 else 9223372036854775808)
end
section
open Go.RowKit Go
theorem near_narrow (neg : Bool) (m : Nat) (e : Int) (hm : m < 9007199254740992) (hl : 4503599627370496 ≤ m) (h1 : -77 ≤ e) (h2 : e ≤ -36) : ∃ X, X < 2139095040 ∧ Ieee.single.nearest neg m e = Ieee.single.word neg X := by
  have h0 : m ≠ 0 := by omega
  have hL : m.log2 = 52 := (Nat.log2_eq_iff h0).2 ⟨hl, hm⟩
  unfold Ieee.Format.nearest
  rw [if_neg h0, hL]
  have e1 : max (e + ((52 : Nat) : Int) - (Ieee.single.fractionBits : Int)) Ieee.single.leastPlace = e + 29 := by
    have : Ieee.single.leastPlace = -149 := by decide
    rw [this]
    show max (e + ((52 : Nat) : Int) - ((23 : Nat) : Int)) (-149) = _
    omega
  simp only [e1]
  have e2 : (e - (e + 29)).toNat = 0 := by omega
  have e3 : (e + 29 - e).toNat = 29 := by omega
  have e4 : (e + 29 - Ieee.single.leastPlace).toNat ≤ 142 := by
    have : Ieee.single.leastPlace = -149 := by decide
    rw [this]
    omega
  have e6 : Ieee.single.binade = 8388608 := by decide
  have e7 : Ieee.single.infRung = 2139095040 := by decide
  rw [e2, e3, e6, e7, Nat.shiftLeft_zero]
  have e8 : Ieee.Toward.even.cut neg m 29 ≤ 16777216 := by
    unfold Ieee.Toward.cut
    rw [hL]
    have e9 : (1 <<< min 29 (52 + 2) : Nat) = 536870912 := by decide
    simp only [e9]
    have e10 : m / 536870912 < 16777216 := by omega
    exact Nat.le_trans (Nat.add_le_add_left (Bool.toNat_le _) _) (by omega)
  generalize (e + 29 - Ieee.single.leastPlace).toNat = Y at *
  generalize Ieee.Toward.even.cut neg m 29 = K at *
  refine ⟨_, ?_, rfl⟩
  exact Nat.lt_of_le_of_lt (Nat.min_le_left _ _) (Nat.lt_of_le_of_lt (Nat.add_le_add (Nat.mul_le_mul_right 8388608 e4) e8) (by decide))
def nrw (b : Nat) : Nat := Ieee.single.write (Ieee.double.read b)
theorem nrw_lt (b : Nat) : nrw b < 4294967296 := by
  have h := Ieee.single.write_lt (Ieee.double.read b)
  have e : (2 : Nat) ^ Ieee.single.width = 4294967296 := by decide
  rw [e] at h
  exact h
theorem word_rung {neg : Bool} {X : Nat} (h : X < 2147483648) : (Ieee.single.word neg X) % 2147483648 = X := by
  unfold Ieee.Format.word
  have : Ieee.single.signWeight = 2147483648 := by decide
  rw [this]
  cases neg
  · rw [if_neg (by decide)]
    omega
  · rw [if_pos rfl]
    omega
theorem dread_mid {b : Nat} (h1 : 4494592428115755008 ≤ b % 9223372036854775808) (h2 : b % 9223372036854775808 < 4683743612465315840) : ∃ m p, Ieee.double.read b = .number (b / 9223372036854775808 % 2 == 1) m p ∧ 4503599627370496 ≤ m ∧ m < 9007199254740992 ∧ -77 ≤ p ∧ p ≤ -36 := by
  rw [read_def, if_neg (by omega), if_pos (by omega)]
  exact ⟨_, _, rfl, by omega, by omega, by omega, by omega⟩
theorem f64_f32 {b : Nat} (h : b % 9223372036854775808 = 0 ∨ (4494592428115755008 ≤ b % 9223372036854775808 ∧ b % 9223372036854775808 < 4683743612465315840)) : floatToFloatBits .f64 b .f32 = some (nrw b) ∧ nrw b % 2147483648 < 2139095040 := by
  have key : ∃ s m p X, Ieee.double.read b = .number s m p ∧ X < 2139095040 ∧ Ieee.single.nearest s m p = Ieee.single.word s X := by
    rcases h with h | ⟨h1, h2⟩
    · refine ⟨b / 9223372036854775808 % 2 == 1, 0, -1074, 0, ?_, by decide, ?_⟩
      · rw [read_def, if_pos (by omega), h]
      · unfold Ieee.Format.nearest
        rw [if_pos rfl]
    · obtain ⟨m, p, e, a1, a2, a3, a4⟩ := dread_mid h1 h2
      obtain ⟨X, hX, eX⟩ := near_narrow (b / 9223372036854775808 % 2 == 1) m p a2 a1 a3 a4
      exact ⟨_, m, p, X, e, hX, eX⟩
  obtain ⟨s, m, p, X, e, hX, eX⟩ := key
  have e0 : nrw b = Ieee.single.word s X := by
    unfold nrw
    rw [e]
    exact eX
  have e1 : nrw b % 2147483648 = X := by rw [e0]; exact word_rung (by omega)
  refine ⟨?_, by omega⟩
  unfold floatToFloatBits
  rw [if_neg (by decide)]
  show (match Ieee.double.read b with | .nan _ _ => none | .infinity s => some (Ieee.single.write (.infinity s)) | .number s m e => if (Ieee.single.read (Ieee.single.write (.number s m e))).isInfinity then none else some (Ieee.single.write (.number s m e))) = _
  have e8 : Ieee.single.write (.number s m p) = nrw b := by unfold nrw; rw [e]
  rw [e]
  simp only [e8]
  obtain ⟨m2, p2, e9, -⟩ := sread_fin (b := nrw b) (by omega)
  rw [e9]
  rfl
theorem f64_f32_inf {b : Nat} (h : b % 9223372036854775808 = 9218868437227405312) : floatToFloatBits .f64 b .f32 = some (nrw b) ∧ nrw b % 2147483648 = 2139095040 := by
  have e : Ieee.double.read b = .infinity (b / 9223372036854775808 % 2 == 1) := by
    rw [read_def, if_neg (by omega), if_neg (by omega), if_pos h]
  have e0 : nrw b = Ieee.single.word (b / 9223372036854775808 % 2 == 1) 2139095040 := by
    unfold nrw
    rw [e]
    have e7 : Ieee.single.infRung = 2139095040 := by decide
    show Ieee.single.word _ Ieee.single.infRung = _
    rw [e7]
  refine ⟨?_, by rw [e0]; exact word_rung (by decide)⟩
  unfold floatToFloatBits
  rw [if_neg (by decide)]
  show (match Ieee.double.read b with | .nan _ _ => none | .infinity s => some (Ieee.single.write (.infinity s)) | .number s m e => if (Ieee.single.read (Ieee.single.write (.number s m e))).isInfinity then none else some (Ieee.single.write (.number s m e))) = _
  unfold nrw
  rw [e]
theorem sgl_finb {r : Nat} (h : r % 2147483648 ≤ 2139095040) : finb (sgl r) = decide (r % 2147483648 < 2139095040) := by
  by_cases h1 : r % 2147483648 < 2139095040
  · rw [decide_eq_true h1]
    obtain ⟨m, p, e, hm, h2, h3⟩ := sread_fin h1
    obtain ⟨X, hX, eX⟩ := near_wide (r / 2147483648 % 2 == 1) m p hm h2 h3
    unfold sgl
    rw [e]
    show finb (Ieee.double.nearest _ m p) = true
    rw [eX]
    unfold finb
    rw [decide_eq_true_iff]
    unfold Ieee.Format.word
    have : Ieee.double.signWeight = 9223372036854775808 := by decide
    rw [this]
    split <;> omega
  · rw [decide_eq_false h1]
    have e : Ieee.single.read r = .infinity (r / 2147483648 % 2 == 1) := by
      rw [sread_def, if_neg (by omega), if_neg h1, if_pos (by omega)]
    unfold sgl
    rw [e]
    show finb (Ieee.double.word _ Ieee.double.infRung) = false
    have e7 : Ieee.double.infRung = 9218868437227405312 := by decide
    rw [e7]
    unfold finb
    rw [decide_eq_false_iff_not]
    unfold Ieee.Format.word
    have : Ieee.double.signWeight = 9223372036854775808 := by decide
    rw [this]
    split <;> omega
theorem f64_f32_nan {r : Nat} (h : 9218868437227405312 < r % 9223372036854775808) (t : TypeId) (t' : TypeId) (hs : (Tryz.prog.underlying t).isSome = true) (hd : Tryz.prog.underlying t' = some (.float .f32)) (w : World) : ∃ B, (convert t t' (.float .f64 r)).run Tryz.prog w = .ok (.float .f32 B) w.drew ∧ 2139095040 < B % 2147483648 ∧ B < 4294967296 := by
  obtain ⟨u, hs'⟩ := Option.isSome_iff_exists.1 hs
  have e : FloatKind.f64.decode r = .nan (r / 9223372036854775808 % 2 == 1) (r % 9223372036854775808 - 9218868437227405312) := by
    show Ieee.double.read r = _
    rw [read_def, if_neg (by omega), if_neg (by omega), if_neg (by omega)]
  have e2 : (convert t t' (.float .f64 r)).run Tryz.prog w = .ok (.float .f32 (Question.cut (.nanConv .f32 r) (w.tape w.drawn (.nanConv .f32 r)))) w.drew := by
    cases u <;> simp [convert, run_underlying hs', run_underlying hd, Conv.floatToFloat, e, Question.forced]
  refine ⟨_, e2, ?_, ?_⟩
  · generalize w.tape w.drawn (.nanConv .f32 r) = T
    show 2139095040 < ((T % 2) * 2 ^ 31 + 0x7f800000 + 1 + (T / 2) % (2 ^ 23 - 1)) % 2147483648
    have h3 : (T / 2) % (2 ^ 23 - 1) < 2 ^ 23 - 1 := Nat.mod_lt _ (by decide)
    generalize (T / 2) % (2 ^ 23 - 1) = U at *
    have h4 : T % 2 < 2 := Nat.mod_lt _ (by decide)
    generalize T % 2 = S at *
    omega
  · generalize w.tape w.drawn (.nanConv .f32 r) = T
    show ((T % 2) * 2 ^ 31 + 0x7f800000 + 1 + (T / 2) % (2 ^ 23 - 1)) < 4294967296
    have h3 : (T / 2) % (2 ^ 23 - 1) < 2 ^ 23 - 1 := Nat.mod_lt _ (by decide)
    generalize (T / 2) % (2 ^ 23 - 1) = U at *
    have h4 : T % 2 < 2 := Nat.mod_lt _ (by decide)
    generalize T % 2 = S at *
    omega
theorem hnr_rng (n : Nat) (pw : Int) (h0 : 0 < n) (hn : n < 2048) (h2 : -24 ≤ pw) (h3 : pw ≤ 6) : 4494592428115755008 ≤ hnr n pw ∧ hnr n pw < 4683743612465315840 := by
  have hl1 : Sort.bitsLen n ≤ 11 := (Sort.bitsLen_le_iff n 11).2 (by omega)
  have hl0 : 1 ≤ Sort.bitsLen n := by
    refine Nat.le_of_not_lt fun h => ?_
    have := (Sort.bitsLen_le_iff n 0).1 (by omega)
    omega
  have hll : n < 2 ^ Sort.bitsLen n := (Sort.bitsLen_le_iff n _).1 (Nat.le_refl _)
  unfold hnr
  generalize Sort.bitsLen n = l at *
  obtain ⟨M, hM⟩ : ∃ M : Nat, M = n * 2 ^ (53 - l) := ⟨_, rfl⟩
  have hMl : M < 9007199254740992 := by
    have h4 : n * 2 ^ (53 - l) < 2 ^ l * 2 ^ (53 - l) := Nat.mul_lt_mul_of_pos_right hll (Nat.two_pow_pos _)
    rw [← Nat.pow_add, show l + (53 - l) = 53 from by omega, ← hM] at h4
    exact h4
  rw [← hM]
  have e1 : 998 ≤ (pw + (l : Int) + 1021).toNat := by omega
  have e2 : (pw + (l : Int) + 1021).toNat ≤ 1038 := by omega
  generalize (pw + (l : Int) + 1021).toNat = E at *
  exact ⟨Nat.le_trans (Nat.mul_le_mul_right 4503599627370496 e1) (Nat.le_add_right _ _), Nat.lt_of_lt_of_le (Nat.add_lt_add_of_le_of_lt (Nat.mul_le_mul_right 4503599627370496 e2) hMl) (by decide)⟩
theorem hlfA_rng {a : Nat} (ha : a < 31744) : hlfA a = 0 ∨ (4494592428115755008 ≤ hlfA a ∧ hlfA a < 4683743612465315840) := by
  unfold hlfA
  rw [if_pos ha]
  by_cases h0 : a = 0
  · rw [if_pos h0]
    exact .inl rfl
  · rw [if_neg h0]
    refine .inr ?_
    by_cases h1 : a < 1024
    · rw [if_pos h1]
      exact hnr_rng a (-24) (by omega) (by omega) (by omega) (by omega)
    · rw [if_neg h1]
      exact hnr_rng _ _ (by omega) (by omega) (by omega) (by omega)
theorem hlf_fin {n : Nat} (h : n % 32768 < 31744) : hlf n % 9223372036854775808 = 0 ∨ (4494592428115755008 ≤ hlf n % 9223372036854775808 ∧ hlf n % 9223372036854775808 < 4683743612465315840) := by
  have h1 := hlfA_rng h
  unfold hlf
  rw [if_neg (by omega)]
  generalize hlfA (n % 32768) = A at *
  have h2 : (A + if n < 32768 then 0 else 9223372036854775808) % 9223372036854775808 = A := by
    split <;> omega
  rw [h2]
  exact h1
theorem hlf_inf {n : Nat} (h : n % 32768 = 31744) : hlf n % 9223372036854775808 = 9218868437227405312 := by
  unfold hlf
  rw [if_neg (by omega), h]
  have : hlfA 31744 = 9218868437227405312 := by
    unfold hlfA
    rw [if_neg (by omega)]
  rw [this]
  split <;> omega
theorem hlf_nan {n : Nat} (h : 31744 < n % 32768) : hlf n = 9221120237041090560 := by
  unfold hlf
  rw [if_pos h]
theorem andNot_half (n : Nat) (hn : n < 65536) : bits .andNot .u64 (n : Int) 32768 = ((n % 32768 : Nat) : Int) := by
  have h := u64_andNot_nat n 32768 (by omega) (by decide)
  have e : n &&& (18446744073709551615 - 32768) = n % 32768 := by
    apply Nat.eq_of_testBit_eq
    intro i
    rw [Nat.testBit_and, show (18446744073709551615 - 32768 : Nat) = 2 ^ 64 - (32768 + 1) from by decide, Nat.testBit_two_pow_sub_succ (by decide), show (32768 : Nat) = 2 ^ 15 from rfl, Nat.testBit_two_pow, Nat.testBit_mod_two_pow]
    by_cases h1 : i < 15
    · simp [h1, show i < 64 from by omega, show ¬ (15 = i) from by omega]
    · by_cases h2 : i = 15
      · subst h2
        simp
      · have : n.testBit i = false := Nat.testBit_lt_two_pow (Nat.lt_of_lt_of_le hn (by have := Nat.pow_le_pow_right (n := 2) (by decide) (show 16 ≤ i from by omega); simpa using this))
        simp [this]
  rw [e] at h
  exact h
end
section
open Go.RowKit Go
theorem own_rebase9 {w : World} {B B' : Nat} {e : TypeId} {s : Nat} {v : Value} {n : Nat} {xs : List Value} (h : w.ownsRow B e s v n xs) (hb : B' ≤ B) : w.ownsRow B' e s v n xs := by
  refine ⟨h.1, ?_⟩
  rcases h.2 with hn | ⟨g, cap, cur, rfl, hg, rest⟩
  · exact .inl hn
  · exact .inr ⟨g, cap, cur, rfl, Nat.le_trans hb hg, rest⟩
theorem infoRV : ∃ i, Tryz.prog.info? 41 = some i ∧ i.zero = some (.agg #[.int .i64 0, .bool false, .bool false, .int .u64 0, .int .u64 0, .string ⟨#[]⟩, .slice none 0 0, .int .i64 0, .int .u64 0, .int .u64 0, .string ⟨#[]⟩, .slice none 0 0, .slice none 0 0]) ∧ i.size = 13 ∧ i.bytes = 160 := by
  have h : (Tryz.prog.info? 41).map (fun i => (i.zero, i.size, i.bytes)) = some (some (.agg #[.int .i64 0, .bool false, .bool false, .int .u64 0, .int .u64 0, .string ⟨#[]⟩, .slice none 0 0, .int .i64 0, .int .u64 0, .int .u64 0, .string ⟨#[]⟩, .slice none 0 0, .slice none 0 0]), 13, 160) := by kernel_rfl
  cases hi : Tryz.prog.info? 41 with
  | none => rw [hi] at h; cases h
  | some i =>
    rw [hi] at h
    simp only [Option.map_some, Option.some.injEq, Prod.mk.injEq] at h
    exact ⟨i, rfl, h⟩
theorem growV9 (w : World) (n : Nat) (hn : n ≤ 1000000) : Calls Tryz.prog 65 #[.slice none 0 0, .int .i64 (n : Nat)] w fun e w' => ∃ v, e = .returned v ∧ w'.ownsRow w.heap.size 41 13 v 0 [] ∧ Below w.heap.size w w' := by
  by_cases h0 : 0 < n
  · obtain ⟨i5, hi, hz0, hz1, hz2⟩ := infoRV
    have hold : (Builtin.firstCells i5.size 0 (.slice none 0 0)).run Tryz.prog w.drew = .ok ([] : List Value).toArray w.drew := run_firstCells_none w.drew i5.size 0 0 0
    have hrz : ∀ ty, (Builtin.append_ #[39, 3] ty #[.slice none 0 0, .int .i64 (n : Nat)]).run Tryz.prog w = .ok (.slice (some ⟨w.heap.size, 0, none⟩) n (grownCap w n 0 41)) (w.drew.alloc (.cells (Builtin.zeroCells ((.agg #[.int .i64 0, .bool false, .bool false, .int .u64 0, .int .u64 0, .string ⟨#[]⟩, .slice none 0 0, .int .i64 0, .int .u64 0, .int .u64 0, .string ⟨#[]⟩, .slice none 0 0, .slice none 0 0]) : Value).cells n ++ Builtin.zeroCells ((.agg #[.int .i64 0, .bool false, .bool false, .int .u64 0, .int .u64 0, .string ⟨#[]⟩, .slice none 0 0, .int .i64 0, .int .u64 0, .int .u64 0, .string ⟨#[]⟩, .slice none 0 0, .slice none 0 0]) : Value).cells (grownCap w n 0 41 - n)) 41)) := fun ty => by
      have h := Lib.run_append_grow_zeros w 39 3 ty 41 i5 (.agg #[.int .i64 0, .bool false, .bool false, .int .u64 0, .int .u64 0, .string ⟨#[]⟩, .slice none 0 0, .int .i64 0, .int .u64 0, .int .u64 0, .string ⟨#[]⟩, .slice none 0 0, .slice none 0 0]) .i64 .i64 Tryz.underlying39 Tryz.underlying3 hi hz0 none 0 0 [] hold n h0 (by rw [hz1]; omega) (by omega) (by omega) (by rw [hz2]; omega) (growslice_fits (by omega) (by rw [hz2]; omega))
      simpa using h
    have hG := grownCap_ge w n 0 41
    have hM := grownCap_le_maxLen w n 0 41 (by unfold maxLen; omega)
    have HO : Hid ((w.drew.alloc (.cells (Builtin.zeroCells ((.agg #[.int .i64 0, .bool false, .bool false, .int .u64 0, .int .u64 0, .string ⟨#[]⟩, .slice none 0 0, .int .i64 0, .int .u64 0, .int .u64 0, .string ⟨#[]⟩, .slice none 0 0, .slice none 0 0]) : Value).cells n ++ Builtin.zeroCells ((.agg #[.int .i64 0, .bool false, .bool false, .int .u64 0, .int .u64 0, .string ⟨#[]⟩, .slice none 0 0, .int .i64 0, .int .u64 0, .int .u64 0, .string ⟨#[]⟩, .slice none 0 0, .slice none 0 0]) : Value).cells (grownCap w n 0 41 - n)) 41)).ownsRow w.heap.size 41 13 (.slice (some ⟨w.heap.size, 0, none⟩) 0 (grownCap w n 0 41)) 0 []) := by
      refine ⟨rfl, .inr ⟨w.heap.size, grownCap w n 0 41, _, rfl, Nat.le_refl _, heap_alloc_new w.drew _, by omega, hM, ?_, by simp⟩⟩
      simp [Builtin.zeroCells, Value.cells]
      omega
    have HB : Hid (Below w.heap.size w (w.drew.alloc (.cells (Builtin.zeroCells ((.agg #[.int .i64 0, .bool false, .bool false, .int .u64 0, .int .u64 0, .string ⟨#[]⟩, .slice none 0 0, .int .i64 0, .int .u64 0, .int .u64 0, .string ⟨#[]⟩, .slice none 0 0, .slice none 0 0]) : Value).cells n ++ Builtin.zeroCells ((.agg #[.int .i64 0, .bool false, .bool false, .int .u64 0, .int .u64 0, .string ⟨#[]⟩, .slice none 0 0, .int .i64 0, .int .u64 0, .int .u64 0, .string ⟨#[]⟩, .slice none 0 0, .slice none 0 0]) : Value).cells (grownCap w n 0 41 - n)) 41))) := (Below.refl w.heap.size w).drew.alloc (Nat.le_refl _) _
    clear hold hi hz0 hz1 hz2
    have h1 : ¬ ((n : Int) < 0) := by omega
    have h4 : (n : Int) > 0 := by omega
    have hG63 : (grownCap w n 0 41 : Int) ≤ 9223372036854775807 := by unfold maxLen at hM; omega
    generalize grownCap w n 0 41 = G at *
    generalize (w.drew.alloc (.cells (Builtin.zeroCells ((.agg #[.int .i64 0, .bool false, .bool false, .int .u64 0, .int .u64 0, .string ⟨#[]⟩, .slice none 0 0, .int .i64 0, .int .u64 0, .int .u64 0, .string ⟨#[]⟩, .slice none 0 0, .slice none 0 0]) : Value).cells n ++ Builtin.zeroCells ((.agg #[.int .i64 0, .bool false, .bool false, .int .u64 0, .int .u64 0, .string ⟨#[]⟩, .slice none 0 0, .int .i64 0, .int .u64 0, .int .u64 0, .string ⟨#[]⟩, .slice none 0 0, .slice none 0 0]) : Value).cells (G - n)) 41)) = w1 at *
    go_enter Tryz.func65, Tryz.ntmps65
    go_wp2_with (at_builtin; refine Lib.wpList_append_run _ rfl _ _ _ _ rfl _ _ rfl rfl _ _ (hrz _) ?_)
    go_ret
    exact ⟨_, rfl, HO.out, HB.out⟩
  · have e : n = 0 := by omega
    subst e
    go_enter Tryz.func65, Tryz.ntmps65
    go_wp2_with fail
    go_ret
    exact ⟨_, rfl, World.ownsRow_nil _ _ _ _, Below.refl _ _⟩
theorem roomV9 (w : World) (h : HR) (hn : h.n ≤ 1000000) : Calls Tryz.prog 43 #[h.val] w fun e w' => ∃ v, e = .returned v ∧ w'.ownsRow w.heap.size 41 13 v 0 [] ∧ Below w.heap.size w w' := by
  obtain ⟨hm', hi, hn', hu', hs, he⟩ := h
  replace hn : hn' ≤ 1000000 := hn
  obtain ⟨w1, hw1⟩ : ∃ w1, w1 = w.alloc (.cells #[.int .i64 (hm' : Nat), .int .i64 (hi : Nat), .int .u64 (hn' : Nat), .int .i64 (hu' : Nat), .bool hs] 66) := ⟨_, rfl⟩
  have HB1 : Hid (Below w.heap.size w w1) := hw1 ▸ below_alloc4 w _
  have hg1 := heap_alloc_new w (.cells #[.int .i64 (hm' : Nat), .int .i64 (hi : Nat), .int .u64 (hn' : Nat), .int .i64 (hu' : Nat), .bool hs] 66)
  rw [← hw1] at hg1
  have d2 : w1.cell? ⟨w.heap.size, 2, none⟩ = some (.int .u64 (hn' : Nat)) := blk_cell (j := 2) hg1 rfl
  have HCG := hide (growV9 w1 hn' hn)
  have k4 : wrap64 (hn' : Int) = (hn' : Int) := by unfold wrap64; omega
  have k5 : IntKind.i64.wrap (hn' : Int) = (hn' : Int) := by rw [IntKind.wrap_i64]; omega
  simp only [HR.val]
  clear hg1 hn
  go_enter Tryz.func43, Tryz.ntmps43
  go_upto_region 1 with fail
  rw [← hw1]
  clear hw1
  go_wp2_with fail
  refine HCG.out.mono ?_
  rintro e w2 ⟨v, rfl, ho, hb⟩
  have HO := hide ho
  have HB2 : Hid (Below w.heap.size w w2) := HB1.out.trans (hb.mono HB1.out.size)
  obtain ⟨a0, cap0, hvn, -⟩ := own_formG ho
  subst hvn
  have HBS := hide HB1.out.size
  clear ho hb HCG HB1
  go_wp2_with fail
  exact bodyPost_ret (v := .slice a0 0 cap0) (results_tmp (t := 2) rfl _ _ _) rfl ⟨_, rfl, own_rebase9 HO.out HBS.out, HB2.out⟩
theorem infoRS : ∃ i, Tryz.prog.info? 9 = some i ∧ i.zero = some (.string ⟨#[]⟩) ∧ i.size = 1 ∧ i.bytes = 16 := by
  have h : (Tryz.prog.info? 9).map (fun i => (i.zero, i.size, i.bytes)) = some (some (.string ⟨#[]⟩), 1, 16) := by kernel_rfl
  cases hi : Tryz.prog.info? 9 with
  | none => rw [hi] at h; cases h
  | some i =>
    rw [hi] at h
    simp only [Option.map_some, Option.some.injEq, Prod.mk.injEq] at h
    exact ⟨i, rfl, h⟩
theorem growS9 (w : World) (n : Nat) (hn : n ≤ 1000000) : Calls Tryz.prog 66 #[.slice none 0 0, .int .i64 (n : Nat)] w fun e w' => ∃ v, e = .returned v ∧ w'.ownsRow w.heap.size 9 1 v 0 [] ∧ Below w.heap.size w w' := by
  by_cases h0 : 0 < n
  · obtain ⟨i5, hi, hz0, hz1, hz2⟩ := infoRS
    have hold : (Builtin.firstCells i5.size 0 (.slice none 0 0)).run Tryz.prog w.drew = .ok ([] : List Value).toArray w.drew := run_firstCells_none w.drew i5.size 0 0 0
    have hrz : ∀ ty, (Builtin.append_ #[38, 3] ty #[.slice none 0 0, .int .i64 (n : Nat)]).run Tryz.prog w = .ok (.slice (some ⟨w.heap.size, 0, none⟩) n (grownCap w n 0 9)) (w.drew.alloc (.cells (Builtin.zeroCells ((.string ⟨#[]⟩) : Value).cells n ++ Builtin.zeroCells ((.string ⟨#[]⟩) : Value).cells (grownCap w n 0 9 - n)) 9)) := fun ty => by
      have h := Lib.run_append_grow_zeros w 38 3 ty 9 i5 (.string ⟨#[]⟩) .i64 .i64 Tryz.underlying38 Tryz.underlying3 hi hz0 none 0 0 [] hold n h0 (by rw [hz1]; omega) (by omega) (by omega) (by rw [hz2]; omega) (growslice_fits (by omega) (by rw [hz2]; omega))
      simpa using h
    have hG := grownCap_ge w n 0 9
    have hM := grownCap_le_maxLen w n 0 9 (by unfold maxLen; omega)
    have HO : Hid ((w.drew.alloc (.cells (Builtin.zeroCells ((.string ⟨#[]⟩) : Value).cells n ++ Builtin.zeroCells ((.string ⟨#[]⟩) : Value).cells (grownCap w n 0 9 - n)) 9)).ownsRow w.heap.size 9 1 (.slice (some ⟨w.heap.size, 0, none⟩) 0 (grownCap w n 0 9)) 0 []) := by
      refine ⟨rfl, .inr ⟨w.heap.size, grownCap w n 0 9, _, rfl, Nat.le_refl _, heap_alloc_new w.drew _, by omega, hM, ?_, by simp⟩⟩
      simp [Builtin.zeroCells, Value.cells]
      omega
    have HB : Hid (Below w.heap.size w (w.drew.alloc (.cells (Builtin.zeroCells ((.string ⟨#[]⟩) : Value).cells n ++ Builtin.zeroCells ((.string ⟨#[]⟩) : Value).cells (grownCap w n 0 9 - n)) 9))) := (Below.refl w.heap.size w).drew.alloc (Nat.le_refl _) _
    clear hold hi hz0 hz1 hz2
    have h1 : ¬ ((n : Int) < 0) := by omega
    have h4 : (n : Int) > 0 := by omega
    have hG63 : (grownCap w n 0 9 : Int) ≤ 9223372036854775807 := by unfold maxLen at hM; omega
    generalize grownCap w n 0 9 = G at *
    generalize (w.drew.alloc (.cells (Builtin.zeroCells ((.string ⟨#[]⟩) : Value).cells n ++ Builtin.zeroCells ((.string ⟨#[]⟩) : Value).cells (G - n)) 9)) = w1 at *
    go_enter Tryz.func66, Tryz.ntmps66
    go_wp2_with (at_builtin; refine Lib.wpList_append_run _ rfl _ _ _ _ rfl _ _ rfl rfl _ _ (hrz _) ?_)
    go_ret
    exact ⟨_, rfl, HO.out, HB.out⟩
  · have e : n = 0 := by omega
    subst e
    go_enter Tryz.func66, Tryz.ntmps66
    go_wp2_with fail
    go_ret
    exact ⟨_, rfl, World.ownsRow_nil _ _ _ _, Below.refl _ _⟩
theorem roomS9 (w : World) (h : HR) (hn : h.n ≤ 1000000) : Calls Tryz.prog 44 #[h.val] w fun e w' => ∃ v, e = .returned v ∧ w'.ownsRow w.heap.size 9 1 v 0 [] ∧ Below w.heap.size w w' := by
  obtain ⟨hm', hi, hn', hu', hs, he⟩ := h
  replace hn : hn' ≤ 1000000 := hn
  obtain ⟨w1, hw1⟩ : ∃ w1, w1 = w.alloc (.cells #[.int .i64 (hm' : Nat), .int .i64 (hi : Nat), .int .u64 (hn' : Nat), .int .i64 (hu' : Nat), .bool hs] 66) := ⟨_, rfl⟩
  have HB1 : Hid (Below w.heap.size w w1) := hw1 ▸ below_alloc4 w _
  have hg1 := heap_alloc_new w (.cells #[.int .i64 (hm' : Nat), .int .i64 (hi : Nat), .int .u64 (hn' : Nat), .int .i64 (hu' : Nat), .bool hs] 66)
  rw [← hw1] at hg1
  have d2 : w1.cell? ⟨w.heap.size, 2, none⟩ = some (.int .u64 (hn' : Nat)) := blk_cell (j := 2) hg1 rfl
  have HCG := hide (growS9 w1 hn' hn)
  have k4 : wrap64 (hn' : Int) = (hn' : Int) := by unfold wrap64; omega
  have k5 : IntKind.i64.wrap (hn' : Int) = (hn' : Int) := by rw [IntKind.wrap_i64]; omega
  simp only [HR.val]
  clear hg1 hn
  go_enter Tryz.func44, Tryz.ntmps44
  go_upto_region 1 with fail
  rw [← hw1]
  clear hw1
  go_wp2_with fail
  refine HCG.out.mono ?_
  rintro e w2 ⟨v, rfl, ho, hb⟩
  have HO := hide ho
  have HB2 : Hid (Below w.heap.size w w2) := HB1.out.trans (hb.mono HB1.out.size)
  obtain ⟨a0, cap0, hvn, -⟩ := own_formG ho
  subst hvn
  have HBS := hide HB1.out.size
  clear ho hb HCG HB1
  go_wp2_with fail
  exact bodyPost_ret (v := .slice a0 0 cap0) (results_tmp (t := 2) rfl _ _ _) rfl ⟨_, rfl, own_rebase9 HO.out HBS.out, HB2.out⟩
end
section
open Go.RowKit Go
theorem SSl.own {w : World} {base n : Nat} {v : Value} {ks : List ByteArray} (h : w.ownsRow base 9 1 v n (sv ks)) (hn : n = ks.length) (hm : ks.length ≤ 140737488351232) (hs : ∀ s ∈ ks, s.size ≤ 140737488351232) : SSl w v ks := by
  subst hn
  rcases id h.2 with ⟨hv, he⟩ | ⟨g, cap, cur, hv, _, _, h1, _⟩
  · subst hv
    have e : ks = [] := List.length_eq_zero_iff.1 he
    subst e
    exact ⟨⟨none, 0, rfl, ⟨by simp, fun _ => rfl⟩, .inl rfl⟩, hm, hs⟩
  · subst hv
    refine ⟨⟨_, cap, rfl, ⟨by omega, fun h => by cases h⟩, .inr ⟨g, 0, rfl, fun j s hj => ?_⟩⟩, hm, hs⟩
    rw [Nat.zero_add]
    exact (own_cell h (sv_get hj)).1
end
section
open Go.RowKit Go
inductive Ntv (w : World) (lo hi : Nat) : Tv → Array Value → Prop
  | mk (t : Tv) (vy vk vi : Value) (L : List (Array Value)) (hbd : Tbd t) (hyb : ∀ x ∈ t.y, x < 256) (hy : w.ownsRow lo 5 1 vy t.y.length (bv t.y)) (hgy : ∀ q, vy.ownBlock = some q → q < hi) (hk : w.ownsRow lo 9 1 vk t.ks.length (sv t.ks)) (hgk : ∀ q, vk.ownBlock = some q → q < hi) (hkl : t.ks.length ≤ 140737488351232) (hks : ∀ s ∈ t.ks, s.size ≤ 140737488351232)
      (hv : w.ownsRow lo 41 13 vi t.is.length (vfl L)) (hgi : ∀ q, vi.ownBlock = some q → q < hi) (hil : t.is.length ≤ 140737488351232) (hL : L.length = t.is.length) (h13 : ∀ c ∈ L, c.size = 13) (hcs : ∀ (i : Nat) (u : Tv) (c : Array Value), t.is[i]? = some u → L[i]? = some c → Ntv w lo hi u c) :
      Ntv w lo hi t (vcs t vy vk vi)
theorem own_one1 {w : World} {B e s n : Nat} {v : Value} {xs : List Value} (h : w.ownsRow B e s v n xs) : v.oneCell' = true := by
  rcases h.2 with ⟨e, _⟩ | ⟨g, c, cur, e, _⟩ <;> (rw [e]; rfl)
theorem Ntv.size {w : World} {lo hi : Nat} {t : Tv} {c : Array Value} (h : Ntv w lo hi t c) : c.size = 13 := by
  cases h
  rfl
theorem Ntv.one {w : World} {lo hi : Nat} {t : Tv} {c : Array Value} (h : Ntv w lo hi t c) : one13 c := by
  cases h with
  | mk _ vy vk vi L hbd hyb hy hgy hk hgk hkl hks hv hgi hil hL h13 hcs =>
  refine ⟨rfl, fun u hu => ?_⟩
  simp only [vcs, List.mem_cons, List.not_mem_nil, or_false] at hu
  rcases hu with rfl | rfl | rfl | rfl | rfl | rfl | rfl | rfl | rfl | rfl | rfl | rfl | rfl <;> first | rfl | exact own_one1 hy | exact own_one1 hk | exact own_one1 hv
theorem Ntv.kp {w w' : World} {lo hi : Nat} {t : Tv} {c : Array Value} {S : Nat → Prop} (h : Ntv w lo hi t c) (hk : Kp S w w') (hs : ∀ q, lo ≤ q → q < hi → ¬ S q) : Ntv w' lo hi t c := by
  induction h with
  | mk t vy vk vi L hbd hyb hy hgy hkk hgk hkl hks hv hgi hil hL h13 _ ih =>
    exact Ntv.mk t vy vk vi L hbd hyb (hk.owns hy (fun q hq => hs q (hy.lt q hq).1 (hgy q hq))) hgy (hk.owns hkk (fun q hq => hs q (hkk.lt q hq).1 (hgk q hq))) hgk hkl hks (hk.owns hv (fun q hq => hs q (hv.lt q hq).1 (hgi q hq))) hgi hil hL h13 ih
theorem Ntv.kept {w w' : World} {lo hi : Nat} {t : Tv} {c : Array Value} (h : Ntv w lo hi t c) (hb : Below w.heap.size w w') : Ntv w' lo hi t c := h.kp (Kp.of_below (S := fun _ => False) hb) (fun _ _ _ h => h)
theorem Ntv.mono {w : World} {lo hi lo' hi' : Nat} {t : Tv} {c : Array Value} (h : Ntv w lo hi t c) (h1 : lo' ≤ lo) (h2 : hi ≤ hi') : Ntv w lo' hi' t c := by
  induction h with
  | mk t vy vk vi L hbd hyb hy hgy hkk hgk hkl hks hv hgi hil hL h13 _ ih =>
    exact Ntv.mk t vy vk vi L hbd hyb (own_mono hy h1) (fun q hq => Nat.lt_of_lt_of_le (hgy q hq) h2) (own_mono hkk h1) (fun q hq => Nat.lt_of_lt_of_le (hgk q hq) h2) hkl hks (own_mono hv h1) (fun q hq => Nat.lt_of_lt_of_le (hgi q hq) h2) hil hL h13 ih
theorem Ntv.tin {w : World} {lo hi : Nat} {t : Tv} {c : Array Value} (h : Ntv w lo hi t c) : Tin w t c := by
  induction h with
  | mk t vy vk vi L hbd hyb hy hgy hkk hgk hkl hks hv hgi hil hL h13 _ ih =>
    refine Tin.of (BSl.own hy hyb) (SSl.own hkk rfl hkl hks) ?_ hbd
    rcases id hv.2 with ⟨e, h0⟩ | ⟨g, cap, cur, e, _, _, h1, _⟩
    · subst e
      have e2 : t.is = [] := List.length_eq_zero_iff.1 h0
      refine ⟨⟨none, 0, by rw [h0], ⟨by omega, fun _ => rfl⟩, .inl e2⟩, hil⟩
    · subst e
      refine ⟨⟨_, cap, rfl, ⟨by omega, fun h => by cases h⟩, .inr ⟨g, 0, rfl, fun i u hu => ?_⟩⟩, hil⟩
      have hil2 := (List.getElem?_eq_some_iff.1 hu).1
      have hc : L[i]? = some (L[i]'(by omega)) := List.getElem?_eq_getElem (by omega)
      refine ⟨_, ih i u _ hu hc, fun j v hj => ?_⟩
      rw [Nat.zero_add]
      exact own_val hv h13 hc j v hj
end
section
open Go.RowKit Go
inductive Nos (w : World) (lo : Nat) : (Nat → Prop) → Tv → Array Value → Prop
  | mk (D : Nat → Prop) (t : Tv) (vy vk vi : Value) (L : List (Array Value)) (E : Nat → Nat → Prop) (hbd : Tbd t) (hyb : ∀ x ∈ t.y, x < 256) (hy : w.ownsRow lo 5 1 vy t.y.length (bv t.y)) (hk : w.ownsRow lo 9 1 vk t.ks.length (sv t.ks)) (hkl : t.ks.length ≤ 140737488351232) (hks : ∀ s ∈ t.ks, s.size ≤ 140737488351232) (hv : w.ownsRow lo 41 13 vi t.is.length (vfl L)) (hil : t.is.length ≤ 140737488351232) (hL : L.length = t.is.length) (h13 : ∀ c ∈ L, one13 c)
      (hDy : ∀ q, vy.ownBlock = some q → D q) (hDk : ∀ q, vk.ownBlock = some q → D q) (hDi : ∀ q, vi.ownBlock = some q → D q)
      (hE : ∀ i, i < t.is.length → ∀ q, E i q → D q ∧ vy.ownBlock ≠ some q ∧ vk.ownBlock ≠ some q ∧ vi.ownBlock ≠ some q) (hdj : ∀ i j, i < j → j < t.is.length → ∀ q, E i q → ¬ E j q)
      (hcs : ∀ (i : Nat) (u : Tv) (c : Array Value), t.is[i]? = some u → L[i]? = some c → Nos w lo (E i) u c) : Nos w lo D t (vcs t vy vk vi)
theorem Nos.ntv {w : World} {lo hi : Nat} {D : Nat → Prop} {t : Tv} {c : Array Value} (h : Nos w lo D t c) : (∀ q, D q → q < hi) → Ntv w lo hi t c := by
  induction h with
  | mk D t vy vk vi L E hbd hyb hy hk hkl hks hv hil hL h13 hDy hDk hDi hE hdj hcs ih =>
    intro hD
    exact Ntv.mk t vy vk vi L hbd hyb hy (fun q e => hD q (hDy q e)) hk (fun q e => hD q (hDk q e)) hkl hks hv (fun q e => hD q (hDi q e)) hil hL (fun c hc => (h13 c hc).1) (fun i u c h1 h2 => ih i u c h1 h2 (fun q e => hD q (hE i (List.getElem?_eq_some_iff.1 h1).1 q e).1))
theorem Nos.kp {w w' : World} {lo : Nat} {D S : Nat → Prop} {t : Tv} {c : Array Value} (h : Nos w lo D t c) (hk : Kp S w w') : (∀ q, D q → ¬ S q) → Nos w' lo D t c := by
  induction h with
  | mk D t vy vk vi L E hbd hyb hy hkk hkl hks hv hil hL h13 hDy hDk hDi hE hdj hcs ih =>
    intro hs
    exact Nos.mk D t vy vk vi L E hbd hyb (hk.owns hy (fun q e => hs q (hDy q e))) (hk.owns hkk (fun q e => hs q (hDk q e))) hkl hks (hk.owns hv (fun q e => hs q (hDi q e))) hil hL h13 hDy hDk hDi hE hdj (fun i u c h1 h2 => ih i u c h1 h2 (fun q e => hs q (hE i (List.getElem?_eq_some_iff.1 h1).1 q e).1))
theorem Nos.base {w : World} {lo lo' : Nat} {D : Nat → Prop} {t : Tv} {c : Array Value} (h : Nos w lo D t c) (hl : lo' ≤ lo) : Nos w lo' D t c := by
  induction h with
  | mk D t vy vk vi L E hbd hyb hy hk hkl hks hv hil hL h13 hDy hDk hDi hE hdj hcs ih =>
    exact Nos.mk D t vy vk vi L E hbd hyb (own_mono hy hl) (own_mono hk hl) hkl hks (own_mono hv hl) hil hL h13 hDy hDk hDi hE hdj ih
end
section
open Go.RowKit Go
def lits (f : Nat → List (Nat × Nat) → Lx (Tv × List (Nat × Nat) × Nat)) (b : List Nat) (h : HR) : Nat → Nat → List Tv → List (Nat × Nat) → Lx (List Tv × List (Nat × Nat) × Nat)
  | 0, _, _, _ => .error (0, 0)
  | j + 1, p, ts, ns => if lmo b p h ts.length = true then lbind (f p ns) fun x => lits f b h j x.2.2 (ts ++ [x.1]) x.2.1 else .ok (ts, ns, lmp b p h)
def TreP (w : World) (N0 g : Nat) (v : Value) (b : List Nat) (dp op : Nat) (vn : Value) (r : Lx (Tv × List (Nat × Nat) × Nat)) (e : Ending) (w' : World) : Prop := (∃ x vx c D, r = .ok x ∧ e = .returned (.agg c) ∧ Itg w w' N0 g v b dp x.2.2 op vn vx x.2.1 ∧ Nos w' w.heap.size D x.1 c ∧ ∀ q, D q → w.heap.size ≤ q ∧ q < w'.heap.size ∧ vx.ownBlock ≠ some q) ∨ ∃ c q, r = .error (c, q) ∧ e = gup c q ∧ Kp (fun q => q = g ∨ vn.ownBlock = some q) w w'
structure Lit (lo : Nat) (wx : World) (vx vi : Value) (ts : List Tv) (L : List (Array Value)) (E : Nat → Nat → Prop) : Prop where
  o : wx.ownsRow lo 41 13 vi ts.length (vfl L)
  l : L.length = ts.length
  c : ∀ c ∈ L, one13 c
  d : ∀ i, i < ts.length → ∀ q, E i q → lo ≤ q ∧ q < wx.heap.size ∧ vi.ownBlock ≠ some q ∧ vx.ownBlock ≠ some q
  j : ∀ i j, i < j → j < ts.length → ∀ q, E i q → ¬ E j q
  v : ∀ i u c, ts[i]? = some u → L[i]? = some c → Nos wx lo (E i) u c
theorem Nos.one {w : World} {lo : Nat} {D : Nat → Prop} {t : Tv} {c : Array Value} (h : Nos w lo D t c) : one13 c := by
  cases h with
  | mk D t vy vk vi L E hbd hyb hy hk hkl hks hv hil hL h13 hDy hDk hDi hE hdj hcs =>
    obtain ⟨ay, cy, rfl, -⟩ := own_formG hy
    obtain ⟨ak, ck, rfl, -⟩ := own_formG hk
    obtain ⟨ai, ci, rfl, -⟩ := own_formG hv
    exact ⟨rfl, by simp [vcs, Value.oneCell']⟩
section
variable {lo : Nat} {w wx wy wz : World} {N0 g : Nat} {v : Value} {b : List Nat} {dp p op p' op' : Nat} {vn vx vx' vi vi' : Value} {ns ns' : List (Nat × Nat)} {ts : List Tv} {L : List (Array Value)} {E : Nat → Nat → Prop}
theorem Lit.start (h : wx.ownsRow lo 41 13 vi 0 []) : Lit lo wx vx vi [] [] (fun _ _ => False) :=
  ⟨h, rfl, (fun c hc => by cases hc), (fun i hi => by simp at hi), (fun i j _ hj => by simp at hj), (fun i u c hu => by simp at hu)⟩
theorem Lit.itg (h : Lit lo wx vx vi ts L E) (hI : Itp wx N0 g v b dp p op vx ns) (hg : g < lo) (h2 : Itg wx wy N0 g v b dp p' op' vx vx' ns') : Lit lo wy vx' vi ts L E := by
  have hs := h2.k.size
  refine ⟨h2.k.owns h.o (fun q e => ?_), h.l, h.c, fun i hi q e => ?_, h.j, fun i u c hu hc => (h.v i u c hu hc).kp h2.k (fun q e => ?_)⟩
  · rintro (e2 | e2)
    · have := (h.o.lt q e).1
      omega
    · exact own_apart h.o hI.o (by decide) e e2
  · obtain ⟨h3, h4, h5, h6⟩ := h.d i hi q e
    refine ⟨h3, by omega, h5, fun e2 => ?_⟩
    rcases h2.n with hn | hn
    · exact h6 (hn ▸ e2)
    · have := hn q e2
      omega
  · obtain ⟨h3, h4, h5, h6⟩ := h.d i (List.getElem?_eq_some_iff.1 hu).1 q e
    rintro (e2 | e2)
    · omega
    · exact h6 e2
theorem Lit.put {D : Nat → Prop} {t : Tv} {c : Array Value} {B : Nat} (h : Lit lo wy vx vi ts L E) (hN : Nos wy B D t c) (hB : lo ≤ B) (hD : ∀ q, D q → B ≤ q ∧ q < wy.heap.size ∧ vx.ownBlock ≠ some q) (hE : ∀ i, i < ts.length → ∀ q, E i q → q < B) (hvi : ∀ q, vi.ownBlock = some q → q < B)
    (ho : wz.ownsRow lo 41 13 vi' (ts.length + 1) (vfl L ++ c.toList)) (hk : Kp (fun q => vi.ownBlock = some q) wy wz) (hv : vi'.ownBlock = vi.ownBlock ∨ ∀ q, vi'.ownBlock = some q → wy.heap.size ≤ q) : Lit lo wz vx vi' (ts ++ [t]) (L ++ [c]) (fun i => if i < ts.length then E i else D) := by
  have hs := hk.size
  have hc1 := hN.one
  refine ⟨?_, by simp [h.l], fun c' hc' => ?_, fun i hi q e => ?_, fun i j hij hj q e => ?_, fun i u c' hu hc' => ?_⟩
  · rw [List.length_append, vfl_app]
    have e : vfl [c] = c.toList := by simp [vfl]
    rw [e]
    exact ho
  · rcases List.mem_append.1 hc' with hm | hm
    · exact h.c c' hm
    · rw [List.mem_singleton.1 hm]
      exact hc1
  · by_cases hi2 : i < ts.length
    · rw [if_pos hi2] at e
      obtain ⟨h3, h4, h5, h6⟩ := h.d i hi2 q e
      refine ⟨h3, by omega, fun e2 => ?_, h6⟩
      rcases hv with hv | hv
      · exact h5 (hv ▸ e2)
      · have := hv q e2
        omega
    · rw [if_neg hi2] at e
      obtain ⟨h3, h4, h5⟩ := hD q e
      refine ⟨by omega, by omega, fun e2 => ?_, h5⟩
      rcases hv with hv | hv
      · have := hvi q (hv ▸ e2)
        omega
      · have := hv q e2
        omega
  · rw [List.length_append, List.length_singleton] at hj
    have hi2 : i < ts.length := by omega
    rw [if_pos hi2] at e
    by_cases hj2 : j < ts.length
    · rw [if_pos hj2]
      exact h.j i j hij hj2 q e
    · rw [if_neg hj2]
      intro e2
      have h3 := hE i hi2 q e
      have h4 := (hD q e2).1
      omega
  · by_cases hi2 : i < ts.length
    · rw [List.getElem?_append_left hi2] at hu
      rw [List.getElem?_append_left (by rw [h.l]; exact hi2)] at hc'
      rw [if_pos hi2]
      exact (h.v i u c' hu hc').kp hk (fun q e e2 => (h.d i hi2 q e).2.2.1 e2)
    · have hlt := (List.getElem?_eq_some_iff.1 hu).1
      rw [List.length_append, List.length_singleton] at hlt
      have e : i = ts.length := by omega
      subst e
      rw [if_neg (by omega)]
      simp at hu
      have hc2 : c = c' := by simpa [← h.l] using hc'
      subst hu hc2
      exact (hN.kp hk (fun q e e2 => by have h3 := hvi q e2; have h4 := (hD q e).1; omega)).base hB
end
end
section
open Go.RowKit Go
theorem Itg.kpS {w wx wy : World} {N0 g : Nat} {v : Value} {b : List Nat} {dp p op : Nat} {vn vx : Value} {ns : List (Nat × Nat)} {S : Nat → Prop} (h : Itg w wx N0 g v b dp p op vn vx ns) (hk : Kp S wx wy) (hS : ∀ q, S q → w.heap.size ≤ q ∧ vx.ownBlock ≠ some q) (hg : g < w.heap.size) (hN : N0 ≤ w.heap.size) : Itg w wy N0 g v b dp p op vn vx ns := by
  have hks : Kp (fun q => N0 ≤ q) wx wy := hk.mono (fun q _ e => by have := (hS q e).1; omega)
  exact ⟨⟨⟨(hk.block _ (blk_lt h.i.r.blk) (fun e => by have := (hS _ e).1; omega)).trans h.i.r.blk, h.i.r.z, h.i.r.c0, h.i.r.c2, fun wz hz => h.i.bs wz (hks.trans hz (fun q _ e => by have := h.i.g; omega)), h.i.r.hb, h.i.r.hp, h.i.r.ho⟩, hk.owns h.i.o (fun q e s => (hS q s).2 e), h.i.g, fun wz hz => h.i.bs wz (hks.trans hz (fun _ _ e => e))⟩, h.k.trans hk (fun q hq e => by have := (hS q e).1; omega), h.n⟩
theorem lits_more {f : Nat → List (Nat × Nat) → Lx (Tv × List (Nat × Nat) × Nat)} {b : List Nat} {h : HR} {j p : Nat} {ts : List Tv} {ns : List (Nat × Nat)} (hm : lmo b p h ts.length = true) : lits f b h (j + 1) p ts ns = lbind (f p ns) fun x => lits f b h j x.2.2 (ts ++ [x.1]) x.2.1 := by
  show (if _ then _ else _) = _
  rw [if_pos hm]
theorem lits_end {f : Nat → List (Nat × Nat) → Lx (Tv × List (Nat × Nat) × Nat)} {b : List Nat} {h : HR} {j p : Nat} {ts : List Tv} {ns : List (Nat × Nat)} (hm : lmo b p h ts.length = false) : lits f b h (j + 1) p ts ns = .ok (ts, ns, lmp b p h) := by
  show (if _ then _ else _) = _
  rw [if_neg (by rw [hm]; decide)]
theorem lins_one {fs : Nat → Lx Nat} {b : List Nat} {h : HR} {j n q pe : Nat} (hm : lmo b q h n = true) (h1 : lins fs b h 1 (j + 1) n q = .ok pe) : ∃ q', fs q = .ok q' ∧ lins fs b h 1 j (n + 1) q' = .ok pe := by
  rw [(ins_more9 fs b h 1 j n q hm).1] at h1
  have e : lturn fs 1 q = lbind (fs q) fun x => .ok x := rfl
  rw [e] at h1
  cases hf : fs q with
  | error e => rw [hf] at h1; cases h1
  | ok q' => rw [hf] at h1; exact ⟨q', rfl, h1⟩
theorem appV9 {wz : World} {lo : Nat} {a0 : Option Addr} {n0 cap0 : Nat} {ds : List Value} {c : Array Value} {G : Nat} (h : wz.ownsRow lo 41 13 (.slice a0 n0 cap0) n0 ds) (h13 : one13 c) (hg : wz.heap[G]? = some (.cells c 41 (0, 0))) (hn : n0 < 1099511627) (hlo : lo ≤ wz.heap.size) (ops : Array Oper) (rest : List Oper) (o : Oper) (ac : Act) (Q : Exit → Act → World → Prop) (s y' : Operand) (h1 : o.guard = none) (h2 : o.op = .call { callee := .builtin .append, args := #[s, y'], argTypes := #[39, 39] }) (h3 : ac.eval s = .slice a0 n0 cap0) (h4 : ac.eval y' = .slice (some ⟨G, 0, none⟩) 1 1) (h5 : ∀ a' n' c' w', n' = n0 + 1 → w'.ownsRow lo 41 13 (.slice a' n' c') (n0 + 1) (ds ++ c.toList) → Kp (fun q => (Value.slice a0 n0 cap0).ownBlock = some q) wz w' → ((Value.slice a' n' c').ownBlock = (Value.slice a0 n0 cap0).ownBlock ∨ ∀ q, (Value.slice a' n' c').ownBlock = some q → wz.heap.size ≤ q) → wpList Tryz.prog ops Q rest (ac.put o.dst (.slice a' n' c')) w') : wpList Tryz.prog ops Q (o :: rest) ac wz := by
  refine append_val h1 s y' h2 lo _ n0 ds h3 h G c h13 h4 hg hn hlo (fun v' w' h6 h7 h8 => ?_)
  obtain ⟨a', c', hv', _⟩ := own_formG h6
  subst hv'
  refine h5 _ _ _ w' rfl h6 (kp_grown9 h7) (h8.imp id (fun e q eq => ?_))
  rw [e] at eq
  have := Option.some.inj eq
  omega
def ItsP (w : World) (N0 g : Nat) (v : Value) (b : List Nat) (dp op : Nat) (vn : Value) (r : Lx (List Tv × List (Nat × Nat) × Nat)) (e : Ending) (w' : World) : Prop := (∃ x vx vi L E, r = .ok x ∧ e = .returned vi ∧ Itg w w' N0 g v b dp x.2.2 op vn vx x.2.1 ∧ Lit w.heap.size w' vx vi x.1 L E) ∨ ∃ c q, r = .error (c, q) ∧ e = gup c q ∧ Kp (fun q => q = g ∨ vn.ownBlock = some q) w w'
theorem items9_any {f : Nat → List (Nat × Nat) → Lx (Tv × List (Nat × Nat) × Nat)} {fs : Nat → Lx Nat} {w : World} {N0 g : Nat} {v : Value} {b : List Nat} {dp p op : Nat} {vn : Value} {ns : List (Nat × Nat)} (hI : Itp w N0 g v b dp p op vn ns) (hT : Vtb N0 w) (hop : op < dp) (hbl : b.length ≤ 1000000) (h : HR) (hn : h.n ≤ 1000000) (J : Nat) (hJ : b.length + 1 ≤ J) (hns : ns.length + 3 * (b.length - p) ≤ 999990)
    (hF : ∀ (wx : World) (q : Nat) (ms : List (Nat × Nat)) (vx : Value) (q' : Nat), Itp wx N0 g v b dp q (op + 1) vx ms → Vtb N0 wx → ms.length + 3 * (b.length - q) ≤ 999990 → fs q = .ok q' → Calls Tryz.prog 20 #[.pointer (some ⟨g, 0, none⟩)] wx (TreP wx N0 g v b dp (op + 1) vx (f q ms)))
    (hG : ∀ q ms x q', fs q = .ok q' → f q ms = .ok x → x.2.2 = q' ∧ q < q' ∧ q' ≤ b.length ∧ x.2.1.length ≤ ms.length + 3 * (q' - q))
    (hS : ∃ pe, lins fs b h 1 J 0 p = .ok pe) : Calls Tryz.prog 29 #[.pointer (some ⟨g, 0, none⟩), h.val] w (ItsP w N0 g v b dp op vn (lits f b h J p [] ns)) := by
  obtain ⟨LS, hLS⟩ : ∃ LS, LS = lits f b h J p [] ns := ⟨_, rfl⟩
  rw [← hLS]
  have HRM : Hid (∀ w, _) := fun w => roomV9 w h hn
  obtain ⟨hm', hi, hn', hu', hs, he⟩ := h
  simp only [HR.val] at HRM
  have HLS := hide hLS
  have HSS := hide hS
  have HGG := hide hG
  obtain ⟨w1, hw1⟩ : ∃ w1, w1 = w.alloc (.cells #[.int .i64 (hm' : Nat), .int .i64 (hi : Nat), .int .u64 (hn' : Nat), .int .i64 (hu' : Nat), .bool hs] 66) := ⟨_, rfl⟩
  have hb1 : Below w.heap.size w w1 := hw1 ▸ below_alloc4 w _
  have hg1 := heap_alloc_new w (.cells #[.int .i64 (hm' : Nat), .int .i64 (hi : Nat), .int .u64 (hn' : Nat), .int .i64 (hu' : Nat), .bool hs] 66)
  rw [← hw1] at hg1
  have HH1 := hide hg1
  have HI1 := hide (hI.next hb1)
  have HT1 := hide (hT.itg hI HI1.out)
  have HS1 := hide hb1.size
  have HGW : Hid (g < w.heap.size) := blk_lt hI.r.blk
  have HN0 : Hid (N0 ≤ w.heap.size) := by have h1 := hI.g; have h2 := HGW.out; show _ ≤ _; omega
  have HOD : Hid (op < dp ∧ dp ≤ 1024) := ⟨hop, hI.r.ho.2⟩
  have HBL := hide hbl
  have HJJ := hide hJ
  have HNS := hide hns
  have HPB := hide hI.r.hp
  obtain ⟨o2, ho2⟩ : ∃ o2, o2 = op + 1 := ⟨_, rfl⟩
  have HFF := hide hF
  rw [← ho2] at HFF
  have k1 : (op : Int) + 1 = (o2 : Int) := by omega
  have k4 : wrap64 (o2 : Int) = (o2 : Int) := by have h1 := HOD.out; unfold wrap64; omega
  have k2 : (o2 : Int) - 1 = (op : Int) := by omega
  have k5 : wrap64 (op : Int) = (op : Int) := by have h1 := HOD.out; unfold wrap64; omega
  have HO2 := hide ho2
  have HI := hide infoHd
  have HAG : Hid (∀ w, (isAgg 66).run Tryz.prog w = .ok true w) := aggHd
  have HCA : Hid (∀ j x, (#[.int .i64 (hm' : Nat), .int .i64 (hi : Nat), .int .u64 (hn' : Nat), .int .i64 (hu' : Nat), .bool hs] : Array Value)[j]? = some x → w1.cell? ⟨w.heap.size, 0 + j, none⟩ = some x) := fun j x hj => by rw [Nat.zero_add]; exact blk_cell hg1 hj
  simp only [HR.val]
  clear hI hT hop hbl hn hJ hns hF hG hS hLS hb1 hg1 ho2
  go_enter Tryz.func29, Tryz.ntmps29
  go_upto_region 1 with fail
  rw [← hw1]
  clear hw1
  go_wp2_with (refine wpList_aggAt rfl rfl HI.out HAG.out w.heap.size 0 #[.int .i64 (hm' : Nat), .int .i64 (hi : Nat), .int .u64 (hn' : Nat), .int .i64 (hu' : Nat), .bool hs] rfl rfl HCA.out ?_)
  refine (HRM.out w1).mono ?_
  rintro e w2 ⟨vi, rfl, ho, hb2⟩
  have hI2 := HI1.out.trans (HI1.out.i.next hb2)
  have HI2 := hide hI2
  have HH2 := hide ((hb2.block _ (blk_lt HH1.out)).trans HH1.out)
  have HT2 := hide (HT1.out.kp (Kp.of_below (S := fun _ => False) hb2) (fun _ e => e.elim))
  have HL2 := hide (Lit.start (vx := vn) (own_rebase9 ho HS1.out))
  obtain ⟨a0, cap0, hvn, -⟩ := own_formG ho
  subst hvn
  have c3 : w2.cell? ⟨g, 3, none⟩ = some (.int .i64 (op : Nat)) := blk_cell hI2.i.r.blk (rcl_3 hI2.i.r.z)
  have f3 : w2.frozen? ⟨g, 3, none⟩ = false := blk_frozen 3 hI2.i.r.blk
  have hse := hI2.i.r.set3 o2 (by have := HOD.out; have := HO2.out; omega)
  have hIs := hI2.i.rdr hse.1 hse.2
  have HI3 := hide (hI2.trans hIs)
  have HH3 := hide (hI2.i.keptB HH2.out (by decide) hIs.k)
  have HT3 := hide (HT2.out.itg hI2.i hIs)
  have HL3 := hide (HL2.out.itg hI2.i HGW.out hIs)
  clear ho hb2 hI2 hse hIs HI2 HH2 HT2 HL2 HI1 HH1 HT1 HCA HRM
  go_wp2_with fail
  generalize w2.setCell ⟨g, 3, none⟩ (.int .i64 (o2 : Nat)) = w3 at *
  clear c3 f3
  have HX0 : Hid (∃ j q ts ms vx L E pe, Itg w w3 N0 g v b dp q o2 vn vx ms ∧ w3.heap[w.heap.size]? = some (.cells #[.int .i64 (hm' : Nat), .int .i64 (hi : Nat), .int .u64 (hn' : Nat), .int .i64 (hu' : Nat), .bool hs] 66 (0, 0)) ∧ Lit w.heap.size w3 vx (.slice a0 0 cap0) ts L E ∧ LS = lits f b ⟨hm', hi, hn', hu', hs, he⟩ j q ts ms ∧ lins fs b ⟨hm', hi, hn', hu', hs, he⟩ 1 j ts.length q = .ok pe ∧ 0 = ts.length ∧ ts.length ≤ q ∧ b.length + 1 ≤ q + j ∧ ms.length + 3 * (b.length - q) ≤ 999990 ∧ Vtb N0 w3) := ⟨J, p, [], ns, vn, [], _, HSS.out.choose, HI3.out, HH3.out, HL3.out, HLS.out, HSS.out.choose_spec, rfl, Nat.zero_le _, by have := HJJ.out; omega, HNS.out, HT3.out⟩
  clear HI3 HH3 HL3 HT3 HLS HSS
  rw [k4]
  go_loopw [5] (fun v5 wx => ∃ a1 n1 c1, v5 = .slice a1 n1 c1 ∧ Hid (∃ j q ts ms vx L E pe, Itg w wx N0 g v b dp q o2 vn vx ms ∧ wx.heap[w.heap.size]? = some (.cells #[.int .i64 (hm' : Nat), .int .i64 (hi : Nat), .int .u64 (hn' : Nat), .int .i64 (hu' : Nat), .bool hs] 66 (0, 0)) ∧ Lit w.heap.size wx vx (.slice a1 n1 c1) ts L E ∧ LS = lits f b ⟨hm', hi, hn', hu', hs, he⟩ j q ts ms ∧ lins fs b ⟨hm', hi, hn', hu', hs, he⟩ 1 j ts.length q = .ok pe ∧ n1 = ts.length ∧ ts.length ≤ q ∧ b.length + 1 ≤ q + j ∧ ms.length + 3 * (b.length - q) ≤ 999990 ∧ Vtb N0 wx)) (fun _ wx => b.length - rat g wx)
  case atStart => exact ⟨_, _, _, rfl, HX0⟩
  case round =>
    obtain ⟨a1, n1, c1, rfl, hrel⟩ := hrel
    obtain ⟨j, q, ts, ms, vx, L, E, pe, hI4, hH4, hL4, hls, hin, hnt, htq, hj, hms, hT4⟩ := hrel.out
    subst hnt
    have hql := hI4.i.r.hp
    obtain ⟨j', rfl⟩ : ∃ j', j = j' + 1 := ⟨j - 1, by omega⟩
    have HRt := hide (rat_eq hI4.i.r)
    have HI4 := hide hI4
    have HL4 := hide hL4
    have HT4 := hide hT4
    have HLE := hide hls
    have HIN := hide hin
    have HJ2 : Hid (b.length + 1 ≤ q + (j' + 1) ∧ ts.length ≤ q ∧ q ≤ b.length ∧ ms.length + 3 * (b.length - q) ≤ 999990) := ⟨hj, htq, hql, hms⟩
    have HH4 := hide hH4
    obtain ⟨nn, hnn⟩ : ∃ nn, nn = ts.length := ⟨_, rfl⟩
    have HNN := hide hnn
    have k6 : IntKind.u64.wrap (nn : Int) = (nn : Int) := by have h1 := HJ2.out; have h2 := HBL.out; rw [IntKind.wrap_u64]; omega
    rw [← hnn]
    rw [← hnn] at HL4 HIN
    clear hI4 hH4 hL4 hls hin htq hj hms hT4 hql hrel HX0 hnn
    go_upto_region 3 with fail
    have hbd : Below wr.heap.size wr wr.drew := by
      refine Below.drew ?_
      exact Below.refl _ _
    refine heldStart (S := fun wy => wy.heap[w.heap.size]? = some (.cells #[.int .i64 (hm' : Nat), .int .i64 (hi : Nat), .int .u64 (hn' : Nat), .int .i64 (hu' : Nat), .bool hs] 66 (0, 0))) (by kernel_rfl) ?_
    have hId := HI4.out.i.next hbd
    have hS := HI4.out.i.keptB HH4.out (by decide) hId.k
    have HI5 := hide (HI4.out.trans hId)
    have HL5 := hide (HL4.out.itg HI4.out.i HGW.out hId)
    have HT5 := hide (HT4.out.itg HI4.out.i hId)
    clear hbd hId HI4 HL4 HT4 HH4
    generalize wr.drew = w4 at *
    refine heldTake 0 _ rfl (by kernel_rfl) (by kernel_rfl) (by kernel_rfl) (fun _ _ _ h => h) rfl hS (fun wy hy => by first | (go_simp; done) | (go_simp; rfl) | rfl) ?_
    (try simp only [Act.put]); (try simp only [LsA, Ls0, LsS])
    refine heldTake 1 _ rfl (by kernel_rfl) (by kernel_rfl) (by kernel_rfl) (fun _ _ _ h => h) rfl hS (fun wy hy => by first | (go_simp; done) | (go_simp; rfl) | rfl) ?_
    (try simp only [Act.put]); (try simp only [LsA, Ls0, LsS])
    refine heldTake 2 _ rfl (by kernel_rfl) (by kernel_rfl) (by kernel_rfl) (fun _ _ _ h => h) rfl hS (fun wy hy => by first | (go_simp; done) | (go_simp; rfl) | rfl) ?_
    (try simp only [Act.put]); (try simp only [LsA, Ls0, LsS])
    refine heldTake 3 _ rfl (by kernel_rfl) (by kernel_rfl) (by kernel_rfl) (fun _ _ _ h => h) rfl hS (fun wy hy => exec_aggAt HI.out HAG.out rfl rfl rfl (fun j u hu => by rw [Nat.zero_add]; exact blk_cell hy hu)) ?_
    (try simp only [Act.put]); (try simp only [LsA, Ls0, LsS])
    refine heldTake 4 _ rfl (by kernel_rfl) (by kernel_rfl) (by kernel_rfl) (fun _ _ _ h => h) rfl hS (fun wy hy => by first | (go_simp; done) | (go_simp; rfl) | rfl) ?_
    (try simp only [Act.put]); (try simp only [LsA, Ls0, LsS])
    refine heldTake 5 _ rfl (by kernel_rfl) (by kernel_rfl) (by kernel_rfl) (fun _ _ _ h => h) rfl hS (fun wy hy => by first | (go_simp; done) | (go_simp; rfl) | rfl) ?_
    (try simp only [Act.put]); (try simp only [LsA, Ls0, LsS])
    refine heldTake 6 _ rfl (by kernel_rfl) (by kernel_rfl) (by kernel_rfl) (fun _ _ _ h => h) rfl hS (fun wy hy => by first | (go_simp; done) | (go_simp; rfl) | rfl) ?_
    (try simp only [Act.put]); (try simp only [LsA, Ls0, LsS])
    refine heldStep 7 rfl (by kernel_rfl) (fun K1 hK1 => ?_)
    go_simp
    refine (more9_any HI5.out.i.r ⟨hm', hi, hn', hu', hs, he⟩ nn).mono ?_
    rintro e w5 ⟨rfl, hr5, hk5⟩
    have h55 := HI5.out.i.rdr hr5 hk5
    have hS1 := HI5.out.i.keptB hS (by decide) h55.k
    have HI6 := hide (HI5.out.trans h55)
    have HL6 := hide (HL5.out.itg HI5.out.i HGW.out h55)
    have HT6 := hide (HT5.out.itg HI5.out.i h55)
    refine (Hid.out hK1) _ _ hS1 (fun hS2 => ?_)
    clear hK1 K1 hS
    have hS := hS2
    clear hS2
    (try simp only [Act.put]); (try simp only [LsA, Ls0, LsS])
    clear hS1 hr5 hk5 h55 HI5 HL5 HT5
    refine heldDone (by kernel_rfl) ?_
    have HH6 := hide hS
    clear hS
    have HLM : Hid (lmo b q ⟨hm', hi, hn', hu', hs, he⟩ nn = true → LS = lbind (f q ms) fun x => lits f b ⟨hm', hi, hn', hu', hs, he⟩ j' x.2.2 (ts ++ [x.1]) x.2.1) := fun hm => by rw [HLE.out]; exact lits_more (by rw [← HNN.out]; exact hm)
    have HLF : Hid (lmo b q ⟨hm', hi, hn', hu', hs, he⟩ nn = false → LS = .ok (ts, ms, lmp b q ⟨hm', hi, hn', hu', hs, he⟩)) := fun hm => by rw [HLE.out]; exact lits_end (by rw [← HNN.out]; exact hm)
    have HMP : Hid (lmo b q ⟨hm', hi, hn', hu', hs, he⟩ nn = true → lmp b q ⟨hm', hi, hn', hu', hs, he⟩ = q) := fun hm => (ins_more9 fs b _ 1 j' nn q hm).2
    have HIM : Hid (lmo b q ⟨hm', hi, hn', hu', hs, he⟩ nn = true → ∃ q', fs q = .ok q' ∧ lins fs b ⟨hm', hi, hn', hu', hs, he⟩ 1 j' (nn + 1) q' = .ok pe) := fun hm => lins_one hm HIN.out
    clear HLE HIN
    generalize lmo b q ⟨hm', hi, hn', hu', hs, he⟩ nn = mo at *
    cases mo with
    | false =>
      as_aux_lemma =>
      have HL7 := hide (HLF.out rfl)
      clear HLM HLF HMP HIM
      generalize lmp b q ⟨hm', hi, hn', hu', hs, he⟩ = q2 at *
      have c3 : w5.cell? ⟨g, 3, none⟩ = some (.int .i64 (o2 : Nat)) := blk_cell HI6.out.i.r.blk (rcl_3 HI6.out.i.r.z)
      have f3 : w5.frozen? ⟨g, 3, none⟩ = false := blk_frozen 3 HI6.out.i.r.blk
      have hse := HI6.out.i.r.set3 op (by have := HOD.out; omega)
      have hIs := HI6.out.i.rdr hse.1 hse.2
      have HI7 := hide (HI6.out.trans hIs)
      have HLL := hide (HL6.out.itg HI6.out.i HGW.out hIs)
      clear hse hIs
      go_wp2_with fail
      first
        | exact bodyPost_ret (v := .slice a1 nn c1) (results_tmp (t := 4) rfl _ _ _) rfl (.inl ⟨_, _, _, _, _, HL7.out, rfl, HI7.out, HLL.out⟩)
        | (go_end0; fail)
    | true =>
      have HLB := hide (HLM.out rfl)
      have hmq := HMP.out rfl
      rw [hmq] at HI6
      obtain ⟨q', hq', hin'⟩ := HIM.out rfl
      have HQ' := hide hq'
      have HIN := hide hin'
      have HCT := hide (HFF.out w5 q ms vx q' HI6.out.i HT6.out HJ2.out.2.2.2 hq')
      clear hmq hq' hin' HLM HLF HMP HIM
      go_wp2_with fail
      refine HCT.out.mono ?_
      rintro e w6 (⟨x, vx7, c, D, hx, rfl, hI7, hN7, hD7⟩ | ⟨c, q2, hx, he', hk⟩)
      case inr =>
        as_aux_lemma =>
        rw [hx] at HLB
        have HL7 : Hid (LS = .error (c, q2)) := HLB.out
        have HKE : Hid (Kp (fun q => q = g ∨ vn.ownBlock = some q) w w6) := HI6.out.kout hk
        unfold gup at he'
        subst he'
        clear hk hx HCT
        go_wp2_with fail
        exact ⟨rfl, .inr ⟨c, q2, HL7.out, rfl, HKE.out⟩⟩
      have HG7 := hide (HGG.out q ms x q' HQ'.out hx)
      rw [hx] at HLB
      obtain ⟨t, ms', qx⟩ := x
      have HL7 : Hid (LS = lits f b ⟨hm', hi, hn', hu', hs, he⟩ j' qx (ts ++ [t]) ms') := HLB.out
      have HG8 : Hid (qx = q' ∧ q < q' ∧ q' ≤ b.length ∧ ms'.length ≤ ms.length + 3 * (q' - q)) := HG7.out
      have HI8 := hide (HI6.out.trans hI7)
      have HL8 := hide (HL6.out.itg HI6.out.i HGW.out hI7)
      have HT8 := hide (HT6.out.itg HI6.out.i hI7)
      have HH8 := hide (HI6.out.i.keptB HH6.out (by decide) hI7.k)
      have HN8 := hide hN7
      have HO13 := hide hN7.one
      have HD8 := hide hD7
      have HLB6 : Hid ((∀ i, i < ts.length → ∀ q, E i q → q < w5.heap.size) ∧ (∀ q, (Value.slice a1 nn c1).ownBlock = some q → q < w5.heap.size) ∧ w.heap.size ≤ w5.heap.size) := ⟨fun i hi q e => (HL6.out.d i hi q e).2.1, fun q e => (HL6.out.o.lt q e).2, HI6.out.k.size⟩
      have hba := below_alloc4 w6 (.cells c 41)
      have HBA := hide hba
      have HWS : Hid (w.heap.size ≤ w6.heap.size) := HI8.out.k.size
      have hOA : (w6.alloc (.cells c 41)).ownsRow w.heap.size 41 13 (.slice a1 nn c1) nn (vfl L) := by
        have h1 := (Kp.of_below (S := fun _ => False) hba).owns HL8.out.o (fun _ _ e => e)
        rw [← HNN.out] at h1
        exact h1
      have HAP := hide (appV9 hOA HO13.out (heap_alloc_new w6 (.cells c 41)) (by have h1 := HJ2.out; have h2 := HBL.out; have h3 := HNN.out; omega) (by have h1 := HWS.out; have h2 := hba.size; omega))
      clear hx hI7 hN7 hD7 hba hOA HCT HLB HG7 HI6 HL6 HT6 HH6
      go_wp2_with (first
        | (refine wpList_val1 rfl rfl c HO13.out.1 rfl ?_)
        | (refine HAP.out _ _ _ _ _ _ _ rfl rfl rfl rfl ?_; intro a2 n2 c2 w8 hn2 h6 h7 h8; subst hn2))
      have hk68 : Kp (fun q => (Value.slice a1 nn c1).ownBlock = some q) w6 w8 := (Kp.of_below HBA.out).trans h7 (fun _ _ e => e)
      have hsz : w6.heap.size ≤ w8.heap.size := hk68.size
      have hp := HL8.out.put HN8.out HLB6.out.2.2 HD8.out HLB6.out.1 HLB6.out.2.1 (by rw [← HNN.out]; exact h6) hk68 (h8.imp id (fun h q e => Nat.le_trans HBA.out.size (h q e)))
      have hS8 : ∀ q, (Value.slice a1 nn c1).ownBlock = some q → w.heap.size ≤ q ∧ vx7.ownBlock ≠ some q := fun q e => ⟨(HL8.out.o.lt q e).1, own_apart HL8.out.o HI8.out.i.o (by decide) e⟩
      have hI9 := HI8.out.kpS hk68 hS8 HGW.out HN0.out
      have HRA := hide (rat_eq hI9.i.r)
      have HNX : Hid (∃ j q ts ms vx L E pe, Itg w w8 N0 g v b dp q o2 vn vx ms ∧ w8.heap[w.heap.size]? = some (.cells #[.int .i64 (hm' : Nat), .int .i64 (hi : Nat), .int .u64 (hn' : Nat), .int .i64 (hu' : Nat), .bool hs] 66 (0, 0)) ∧ Lit w.heap.size w8 vx (.slice a2 (nn + 1) c2) ts L E ∧ LS = lits f b ⟨hm', hi, hn', hu', hs, he⟩ j q ts ms ∧ lins fs b ⟨hm', hi, hn', hu', hs, he⟩ 1 j ts.length q = .ok pe ∧ (nn + 1) = ts.length ∧ ts.length ≤ q ∧ b.length + 1 ≤ q + j ∧ ms.length + 3 * (b.length - q) ≤ 999990 ∧ Vtb N0 w8) := ⟨j', qx, ts ++ [t], ms', vx7, _, _, pe, hI9, (hk68.block _ (blk_lt HH8.out) (fun e => own_not HL8.out.o HH8.out (by decide) e)).trans HH8.out, hp, HL7.out, by rw [List.length_append, List.length_singleton, ← HNN.out, HG8.out.1]; exact HIN.out, by rw [List.length_append, List.length_singleton, HNN.out], by rw [List.length_append, List.length_singleton]; have h1 := HJ2.out; have h2 := HG8.out; omega, by have h1 := HJ2.out; have h2 := HG8.out; omega, by have h1 := HJ2.out; have h2 := HG8.out; omega, HT8.out.kp hk68 (fun q e => by have h1 := (hS8 q e).1; have h2 := HN0.out; omega)⟩
      clear hk68 hsz hp hS8 hI9 h6 h7 h8 HAP
      go_roundw
      case rel => repeat (first | exact ⟨⟨_, _, _, rfl, HNX⟩, rfl⟩ | exact ⟨_, _, _, rfl, HNX⟩ | exact ⟨⟨_, _, _, rfl, HNX⟩, rfl, rfl⟩ | apply Exists.intro)
      case measure => have h1 := HRt.out; have h2 := HRA.out; have h3 := HG8.out; have h4 := HJ2.out; omega
end
section
open Go.RowKit Go
section
variable {α : Type} [Inhabited α] {lt : α → α → Bool} {d : Array α}
theorem order2_in {a b s p q t n : Nat} (hr : Sort.order2 lt d a b s = (p, q, t)) (ha : a < n) (hb : b < n) : p < n ∧ q < n ∧ t ≤ s + 1 := by
  unfold Sort.order2 at hr
  split at hr <;> cases hr <;> exact ⟨by assumption, by assumption, by omega⟩
theorem median_of {a b c s p1 q1 s1 p2 q2 s2 p3 q3 s3 : Nat} (h1 : Sort.order2 lt d a b s = (p1, q1, s1)) (h2 : Sort.order2 lt d q1 c s1 = (p2, q2, s2)) (h3 : Sort.order2 lt d p1 p2 s2 = (p3, q3, s3)) : Sort.median lt d a b c s = (q3, s3) := by
  unfold Sort.median
  simp only [h1, h2, h3]
theorem median_in {a b c s p t n : Nat} (hr : Sort.median lt d a b c s = (p, t)) (ha : a < n) (hb : b < n) (hc : c < n) : p < n ∧ t ≤ s + 3 := by
  obtain ⟨⟨p1, q1, s1⟩, h1⟩ : ∃ r, Sort.order2 lt d a b s = r := ⟨_, rfl⟩
  obtain ⟨⟨p2, q2, s2⟩, h2⟩ : ∃ r, Sort.order2 lt d q1 c s1 = r := ⟨_, rfl⟩
  obtain ⟨⟨p3, q3, s3⟩, h3⟩ : ∃ r, Sort.order2 lt d p1 p2 s2 = r := ⟨_, rfl⟩
  rw [median_of h1 h2 h3] at hr
  cases hr
  have e1 := order2_in h1 ha hb
  have e2 := order2_in h2 e1.2.1 hc
  have e3 := order2_in h3 e1.1 e2.1
  exact ⟨e3.2.1, by omega⟩
end
theorem median_any {α : Type} [Inhabited α] {T : TypeId} {rv : Value} {gl gs : FuncId} {lt : α → α → Bool} {M : Nat} {St : World → Array α → Prop} (hM : Srm T rv gl gs lt M St) {w : World} {d : Array α} (cb s a b c : Nat) (h : Hid (St w d ∧ Cnt w cb s ∧ M ≤ cb)) (p t : Nat) (hr : Sort.median lt d a b c s = (p, t)) (x y z : Int) (hx : x = (a : Int)) (hy : y = (b : Int)) (hz : z = (c : Int)) (ha : a < d.size) (hb : b < d.size) (hc : c < d.size) (hs : s < 900) : Calls Tryz.prog 123 #[.iface T rv, .int .i64 x, .int .i64 y, .int .i64 z, .pointer (some ⟨cb, 0, none⟩)] w fun e w' => e = .returned (.int .i64 (p : Nat)) ∧ Hid (St w' d ∧ Cnt w' cb t ∧ M ≤ cb) := by
  subst hx hy hz
  obtain ⟨⟨p1, q1, s1⟩, h1⟩ : ∃ r, Sort.order2 lt d a b s = r := ⟨_, rfl⟩
  obtain ⟨⟨p2, q2, s2⟩, h2⟩ : ∃ r, Sort.order2 lt d q1 c s1 = r := ⟨_, rfl⟩
  obtain ⟨⟨p3, q3, s3⟩, h3⟩ : ∃ r, Sort.order2 lt d p1 p2 s2 = r := ⟨_, rfl⟩
  rw [median_of h1 h2 h3] at hr
  injection hr with hr1 hr2
  subst hr1 hr2
  have e1 := order2_in h1 ha hb
  have e2 := order2_in h2 e1.2.1 hc
  have e3 := order2_in h3 e1.1 e2.1
  have HM := hide hM
  have H1 := hide h1
  have H2 := hide h2
  have H3 := hide h3
  clear hM h1 h2 h3
  go_enter Tryz.func123, Tryz.ntmps123
  go_wp2_with fail
  refine (order2_any HM.out cb s a b h _ H1.out _ _ rfl rfl ha hb (by omega)).mono ?_
  rintro _ w1 ⟨rfl, hw1⟩
  clear h
  go_wp2_with fail
  refine (order2_any HM.out cb s1 q1 c hw1 _ H2.out _ _ rfl rfl e1.2.1 hc (by omega)).mono ?_
  rintro _ w2 ⟨rfl, hw2⟩
  clear hw1
  go_wp2_with fail
  refine (order2_any HM.out cb s2 p1 p2 hw2 _ H3.out _ _ rfl rfl e1.1 e2.1 (by omega)).mono ?_
  rintro _ w3 ⟨rfl, hw3⟩
  clear hw2
  go_wp2_with fail
  go_ret
  exact ⟨rfl, hw3⟩
theorem medianAdjacent_any {α : Type} [Inhabited α] {T : TypeId} {rv : Value} {gl gs : FuncId} {lt : α → α → Bool} {M : Nat} {St : World → Array α → Prop} (hM : Srm T rv gl gs lt M St) {w : World} {d : Array α} (cb s a : Nat) (h : Hid (St w d ∧ Cnt w cb s ∧ M ≤ cb)) (p t : Nat) (hr : Sort.medianAdjacent lt d a s = (p, t)) (x : Int) (hx : x = (a : Int)) (ha : 1 ≤ a) (hb : a + 1 < d.size) (hsz : d.size < 4611686018427387904) (hs : s < 900) : Calls Tryz.prog 122 #[.iface T rv, .int .i64 x, .pointer (some ⟨cb, 0, none⟩)] w fun e w' => e = .returned (.int .i64 (p : Nat)) ∧ Hid (St w' d ∧ Cnt w' cb t ∧ M ≤ cb) := by
  subst hx
  have HM := hide hM
  have HR : Hid (Sort.median lt d (a - 1) a (a + 1) s = (p, t)) := hr
  clear hM hr
  go_enter Tryz.func122, Tryz.ntmps122
  go_wp2_with fail
  refine (median_any HM.out cb s (a - 1) a (a + 1) h _ _ HR.out _ _ _ (by omega) rfl (by omega) (by omega) (by omega) (by omega) (by omega)).mono ?_
  rintro _ w1 ⟨rfl, hw1⟩
  clear h
  go_wp2_with fail
  go_ret
  exact ⟨rfl, hw1⟩
section
variable {α : Type} [Inhabited α] {lt : α → α → Bool} {d : Array α}
def hnt (s : Nat) : Sort.Hint := if s = 0 then .increasing else if s = 12 then .decreasing else .unknown
def hcd : Sort.Hint → Int
  | .unknown => 0
  | .increasing => 1
  | .decreasing => 2
theorem pivot_big {a b i1 s1 j1 s2 k1 s3 p s4 : Nat} (h : 50 ≤ b - a) (hI : Sort.medianAdjacent lt d (a + (b - a) / 4) 0 = (i1, s1)) (hJ : Sort.medianAdjacent lt d (a + (b - a) / 4 * 2) s1 = (j1, s2)) (hK : Sort.medianAdjacent lt d (a + (b - a) / 4 * 3) s2 = (k1, s3)) (hm : Sort.median lt d i1 j1 k1 s3 = (p, s4)) : Sort.choosePivot lt d a b = (p, hnt s4) := by
  unfold Sort.choosePivot hnt
  simp only [Nat.mul_one, ge_iff_le, h, hI, hJ, hK, hm, if_true, show 8 ≤ b - a by omega]
theorem pivot_small {a b p s4 : Nat} (h8 : 8 ≤ b - a) (h : ¬ 50 ≤ b - a) (hm : Sort.median lt d (a + (b - a) / 4) (a + (b - a) / 4 * 2) (a + (b - a) / 4 * 3) 0 = (p, s4)) : Sort.choosePivot lt d a b = (p, hnt s4) := by
  unfold Sort.choosePivot hnt
  simp only [Nat.mul_one, ge_iff_le, h8, h, hm, if_true, if_false]
end
end
section
open Go.RowKit Go
section
variable {α : Type} [Inhabited α] {lt : α → α → Bool} {p : α → Bool} {d : Array α}
theorem scanUp_go {i j : Nat} (h : i ≤ j) (hp : p d[i]! = true) : Sort.scanUp p d j i = Sort.scanUp p d j (i + 1) := by
  conv => lhs; unfold Sort.scanUp
  rw [if_pos (by simp [hp, h])]
theorem scanUp_no {i j : Nat} (h : ¬ (i ≤ j ∧ p d[i]! = true)) : Sort.scanUp p d j i = i := by
  unfold Sort.scanUp
  rw [if_neg (by simpa using h)]
theorem scanDown_go {i j : Nat} (h0 : 1 ≤ j) (h : i ≤ j) (hp : p d[j]! = true) : Sort.scanDown p d i j = Sort.scanDown p d i (j - 1) := by
  cases j with
  | zero => omega
  | succ j =>
    conv => lhs; unfold Sort.scanDown
    rw [if_pos (by simp [hp, h]), Nat.add_sub_cancel]
theorem scanDown_no {i j : Nat} (h : ¬ (i ≤ j ∧ p d[j]! = true)) : Sort.scanDown p d i j = j := by
  cases j with
  | zero => rfl
  | succ j =>
    unfold Sort.scanDown
    rw [if_neg (by simpa using h)]
theorem part_brk {a i j I J : Nat} (hI : Sort.scanUp (fun x => lt x d[a]!) d j i = I) (hJ : Sort.scanDown (fun x => !lt x d[a]!) d I j = J) (h : I > J) : Sort.partLoop lt a i j d = (J, d) := by
  unfold Sort.partLoop
  simp only [hI, hJ]
  rw [if_pos h]
theorem part_on {a i j I J : Nat} (hI : Sort.scanUp (fun x => lt x d[a]!) d j i = I) (hJ : Sort.scanDown (fun x => !lt x d[a]!) d I j = J) (h : I < J) (h1 : i ≤ I) (h2 : J ≤ j) : Sort.partLoop lt a i j d = Sort.partLoop lt a (I + 1) (J - 1) (Sort.swp d I J) := by
  conv => lhs; unfold Sort.partLoop
  simp only [hI, hJ]
  rw [if_neg (by omega), dif_pos (by omega)]
theorem parte_brk {a i j I J : Nat} (hI : Sort.scanUp (fun x => !lt d[a]! x) d j i = I) (hJ : Sort.scanDown (fun x => lt d[a]! x) d I j = J) (h : I > J) : Sort.partEqLoop lt a i j d = (I, d) := by
  unfold Sort.partEqLoop
  simp only [hI, hJ]
  rw [if_pos h]
theorem parte_on {a i j I J : Nat} (hI : Sort.scanUp (fun x => !lt d[a]! x) d j i = I) (hJ : Sort.scanDown (fun x => lt d[a]! x) d I j = J) (h : I < J) (h1 : i ≤ I) (h2 : J ≤ j) : Sort.partEqLoop lt a i j d = Sort.partEqLoop lt a (I + 1) (J - 1) (Sort.swp d I J) := by
  conv => lhs; unfold Sort.partEqLoop
  simp only [hI, hJ]
  rw [if_neg (by omega), dif_pos (by omega)]
theorem part_yes {a b pv I J : Nat} (hI : Sort.scanUp (fun x => lt x (Sort.swp d a pv)[a]!) (Sort.swp d a pv) (b - 1) (a + 1) = I) (hJ : Sort.scanDown (fun x => !lt x (Sort.swp d a pv)[a]!) (Sort.swp d a pv) I (b - 1) = J) (h : I > J) : Sort.partition lt d a b pv = (J, true, Sort.swp (Sort.swp d a pv) J a) := by
  unfold Sort.partition
  simp only [hI, hJ]
  rw [if_pos h]
theorem part_no {a b pv I J : Nat} (hI : Sort.scanUp (fun x => lt x (Sort.swp d a pv)[a]!) (Sort.swp d a pv) (b - 1) (a + 1) = I) (hJ : Sort.scanDown (fun x => !lt x (Sort.swp d a pv)[a]!) (Sort.swp d a pv) I (b - 1) = J) (h : ¬ I > J) {R : Nat × Array α} (hR : Sort.partLoop lt a (I + 1) (J - 1) (Sort.swp (Sort.swp d a pv) I J) = R) : Sort.partition lt d a b pv = (R.1, false, Sort.swp R.2 R.1 a) := by
  unfold Sort.partition
  simp only [hI, hJ]
  rw [if_neg h, hR]
end
end
section
open Go.RowKit Go
theorem hnt_0 {s : Nat} (h : s = 0) : hcd (hnt s) = 1 := by subst h; rfl
theorem hnt_12 {s : Nat} (h0 : s ≠ 0) (h : s = 12) : hcd (hnt s) = 2 := by subst h; rfl
theorem hnt_no {s : Nat} (h0 : s ≠ 0) (h : s ≠ 12) : hcd (hnt s) = 0 := by
  unfold hnt
  rw [if_neg h0, if_neg h]
  rfl
theorem choosePivot_any {α : Type} [Inhabited α] {T : TypeId} {rv : Value} {gl gs : FuncId} {lt : α → α → Bool} {M : Nat} {St : World → Array α → Prop} (hM : Srm T rv gl gs lt M St) {w : World} {d : Array α} (h : St w d) (a b : Nat) (p : Nat) (hint : Sort.Hint) (hr : Sort.choosePivot lt d a b = (p, hint)) (hab : a + 12 < b) (hb : b ≤ d.size) (hsz : d.size < 4611686018427387904) : Calls Tryz.prog 97 #[.iface T rv, .int .i64 (a : Nat), .int .i64 (b : Nat)] w fun e w' => e = .returned (.tuple #[.int .i64 (p : Nat), .int .i64 (hcd hint)]) ∧ Hid (St w' d ∧ p < d.size) := by
  have HM := hide hM
  have HR := hide hr
  have hlow := hM.low h
  obtain ⟨cb, hcb⟩ : ∃ cb, cb = w.heap.size := ⟨_, rfl⟩
  obtain ⟨wA, hwA⟩ : ∃ wA, wA = w.alloc (.cells #[.int .i64 0] 3) := ⟨_, rfl⟩
  have HC : Hid (St wA d ∧ Cnt wA cb 0 ∧ M ≤ cb) := by
    refine ⟨?_, ?_, by omega⟩
    · rw [hwA]
      exact hM.keep h (((Kp.refl (fun _ => False) w).alloc _).below hlow (fun _ h => h.elim))
    · unfold Cnt
      rw [hwA, hcb]
      unfold World.alloc
      simp only [Array.getElem?_push_size]
      rfl
  obtain ⟨n, hn⟩ : ∃ n, n = d.size := ⟨_, rfl⟩
  rw [← hn] at hb hsz ⊢
  have HN := hide hn
  obtain ⟨l, hl⟩ : ∃ l, l = b - a := ⟨_, rfl⟩
  obtain ⟨q, hq⟩ : ∃ q, q = l / 4 := ⟨_, rfl⟩
  obtain ⟨I, hI⟩ : ∃ I, I = a + q := ⟨_, rfl⟩
  obtain ⟨J, hJ⟩ : ∃ J, J = a + q * 2 := ⟨_, rfl⟩
  obtain ⟨K, hK⟩ : ∃ K, K = a + q * 3 := ⟨_, rfl⟩
  have k1 : (b : Int) - (a : Int) = (l : Int) := by omega
  have k2 : (l : Int) / 4 = (q : Int) := by omega
  have k3 : (a : Int) + (q : Int) = (I : Int) := by omega
  have k4 : (a : Int) + (q : Int) * 2 = (J : Int) := by omega
  have k5 : (a : Int) + (q : Int) * 3 = (K : Int) := by omega
  have b1 : 1 ≤ I ∧ I + 1 < n := by omega
  have b2 : 1 ≤ J ∧ J + 1 < n := by omega
  have b3 : 1 ≤ K ∧ K + 1 < n := by omega
  have b4 : q * 3 ≤ n := by omega
  have g8 : (l : Int) ≥ 8 := by omega
  have HE : Hid (I = a + (b - a) / 4 ∧ J = a + (b - a) / 4 * 2 ∧ K = a + (b - a) / 4 * 3 ∧ 8 ≤ b - a ∧ (50 ≤ l ↔ 50 ≤ b - a)) := by
    show _ ∧ _
    subst hl hq
    exact ⟨hI, hJ, hK, by omega, Iff.rfl⟩
  have HCB := hide hcb
  have HWA := hide hwA
  by_cases h50 : 50 ≤ l
  · as_aux_lemma =>
    have g50 : (l : Int) ≥ 50 := by omega
    obtain ⟨⟨i1, s1⟩, h1⟩ : ∃ r, Sort.medianAdjacent lt d I 0 = r := ⟨_, rfl⟩
    obtain ⟨⟨j1, s2⟩, h2⟩ : ∃ r, Sort.medianAdjacent lt d J s1 = r := ⟨_, rfl⟩
    obtain ⟨⟨k1', s3⟩, h3⟩ : ∃ r, Sort.medianAdjacent lt d K s2 = r := ⟨_, rfl⟩
    obtain ⟨⟨p', s4⟩, h4⟩ : ∃ r, Sort.median lt d i1 j1 k1' s3 = r := ⟨_, rfl⟩
    have e1 := median_in (n := n) h1 (by omega) (by omega) (by omega)
    have e2 := median_in (n := n) h2 (by omega) (by omega) (by omega)
    have e3 := median_in (n := n) h3 (by omega) (by omega) (by omega)
    have e4 := median_in (n := n) h4 e1.1 e2.1 e3.1
    have HP : Hid (p = p' ∧ hint = hnt s4) := by
      obtain ⟨x1, x2, x3, x4, x5⟩ := HE.out
      have := pivot_big (x5.1 h50) (x1 ▸ h1) (x2 ▸ h2) (x3 ▸ h3) h4
      rw [HR.out] at this
      injection this with y1 y2
      exact ⟨y1, y2⟩
    have H1 := hide h1
    have H2 := hide h2
    have H3 := hide h3
    have H4 := hide h4
    have l3 : s1 < 900 ∧ s2 < 900 ∧ s3 < 900 := by omega
    have l4 : s4 < 900 := by omega
    clear hM hr h hl hq hI hJ hK HR HE h1 h2 h3 h4 hcb hwA hn h50 hlow
    go_enter Tryz.func97, Tryz.ntmps97
    go_wp2_with fail
    rw [← HWA.out, ← HCB.out]
    refine (medianAdjacent_any HM.out cb 0 I HC _ _ H1.out _ rfl b1.1 (by rw [← HN.out]; exact b1.2) (by rw [← HN.out]; exact hsz) (by omega)).mono ?_
    rintro _ w1 ⟨rfl, hw1⟩
    clear HC HWA
    go_wp2_with fail
    refine (medianAdjacent_any HM.out cb s1 J hw1 _ _ H2.out _ rfl b2.1 (by rw [← HN.out]; exact b2.2) (by rw [← HN.out]; exact hsz) (by omega)).mono ?_
    rintro _ w2 ⟨rfl, hw2⟩
    clear hw1
    go_wp2_with fail
    refine (medianAdjacent_any HM.out cb s2 K hw2 _ _ H3.out _ rfl b3.1 (by rw [← HN.out]; exact b3.2) (by rw [← HN.out]; exact hsz) (by omega)).mono ?_
    rintro _ w3 ⟨rfl, hw3⟩
    clear hw2
    go_wp2_with fail
    refine (median_any HM.out cb s3 i1 j1 k1' hw3 _ _ H4.out _ _ _ rfl rfl rfl (by rw [← HN.out]; exact e1.1) (by rw [← HN.out]; exact e2.1) (by rw [← HN.out]; exact e3.1) (by omega)).mono ?_
    rintro _ w4 ⟨rfl, hw4⟩
    clear hw3
    have c4 := blk_cell (j := 0) (v := .int .i64 (s4 : Nat)) hw4.out.2.1 rfl
    have HF : Hid (St w4 d ∧ p' < n) := ⟨hw4.out.1, e4.1⟩
    obtain ⟨hp1, hp2⟩ := HP.out
    subst hp1 hp2
    clear HP hw4
    by_cases z0 : s4 = 0
    · have g0 : ((s4 : Int) == 0) = true := by simp; omega
      go_wp2_with fail
      go_ret2
      exact ⟨by rw [hnt_0 z0]; rfl, HF⟩
    · have g0 : ((s4 : Int) == 0) = false := by simp; omega
      by_cases z12 : s4 = 12
      · have g1 : ((s4 : Int) == 12) = true := by simp; omega
        go_wp2_with fail
        go_ret2
        exact ⟨by rw [hnt_12 z0 z12]; rfl, HF⟩
      · have g1 : ((s4 : Int) == 12) = false := by simp; omega
        go_wp2_with fail
        go_ret2
        exact ⟨by rw [hnt_no z0 z12]; rfl, HF⟩
  · as_aux_lemma =>
    have g50 : ¬ ((l : Int) ≥ 50) := by omega
    obtain ⟨⟨p', s4⟩, h4⟩ : ∃ r, Sort.median lt d I J K 0 = r := ⟨_, rfl⟩
    have e4 := median_in (n := n) h4 (by omega) (by omega) (by omega)
    have HP : Hid (p = p' ∧ hint = hnt s4) := by
      obtain ⟨x1, x2, x3, x4, x5⟩ := HE.out
      have := pivot_small x4 (fun h => h50 (x5.2 h)) (x1 ▸ x2 ▸ x3 ▸ h4)
      rw [HR.out] at this
      injection this with y1 y2
      exact ⟨y1, y2⟩
    have H4 := hide h4
    have l4 : s4 < 900 := by omega
    clear hM hr h hl hq hI hJ hK HR HE h4 hcb hwA hn h50 hlow
    go_enter Tryz.func97, Tryz.ntmps97
    go_wp2_with fail
    rw [← HWA.out, ← HCB.out]
    refine (median_any HM.out cb 0 I J K HC _ _ H4.out _ _ _ rfl rfl rfl (by rw [← HN.out]; omega) (by rw [← HN.out]; omega) (by rw [← HN.out]; omega) (by omega)).mono ?_
    rintro _ w4 ⟨rfl, hw4⟩
    clear HC HWA
    have c4 := blk_cell (j := 0) (v := .int .i64 (s4 : Nat)) hw4.out.2.1 rfl
    have HF : Hid (St w4 d ∧ p' < n) := ⟨hw4.out.1, e4.1⟩
    obtain ⟨hp1, hp2⟩ := HP.out
    subst hp1 hp2
    clear HP hw4
    by_cases z0 : s4 = 0
    · have g0 : ((s4 : Int) == 0) = true := by simp; omega
      go_wp2_with fail
      go_ret2
      exact ⟨by rw [hnt_0 z0]; rfl, HF⟩
    · have g0 : ((s4 : Int) == 0) = false := by simp; omega
      by_cases z12 : s4 = 12
      · have g1 : ((s4 : Int) == 12) = true := by simp; omega
        go_wp2_with fail
        go_ret2
        exact ⟨by rw [hnt_12 z0 z12]; rfl, HF⟩
      · have g1 : ((s4 : Int) == 12) = false := by simp; omega
        go_wp2_with fail
        go_ret2
        exact ⟨by rw [hnt_no z0 z12]; rfl, HF⟩
end
end Go.Proofs.YtmcamdcgnegmmaaGreatDoor
