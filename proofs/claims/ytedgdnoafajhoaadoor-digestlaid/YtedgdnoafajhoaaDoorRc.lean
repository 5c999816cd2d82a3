import Derived.Test.YtedgdnoafajhoaaDoorRa
import Derived.Test.YtedgdnoafajhoaaDoorEq
import Derived.Test.YtedgdnoafajhoaaDoorStp
namespace Go.Proofs.YtedgdnoafajhoaaDoor
open Go.RowKit

theorem zer_spec (n k : Nat) (h : (n + 1 + k) % 64 = 56) (hk : k < 64) : zer n = k := by unfold zer; omega
theorem zer_lt (n : Nat) : zer n < 64 := by unfold zer; omega
theorem zer_mod (n : Nat) : (n + 1 + zer n) % 64 = 56 := by unfold zer; omega

theorem beb_get : ∀ k n j, j < k → (beb k n).getD j 0 = n / 256 ^ (k - 1 - j) % 256
  | 0, _, _, h => by omega
  | k + 1, n, 0, _ => by simp [beb]
  | k + 1, n, j + 1, h => by
    have e : k + 1 - 1 - (j + 1) = k - 1 - j := by omega
    rw [e, ← beb_get k n j (by omega)]
    simp [beb]
theorem pow_int8 (k : Nat) : (2 : Int) ^ (8 * k) = ((256 ^ k : Nat) : Int) := by
  rw [Int.pow_mul, Int.natCast_pow]; rfl
theorem take_snoc3 (l : List Nat) (j : Nat) (h : j < l.length) : l.take (j + 1) = l.take j ++ [l.getD j 0] := by
  rw [List.take_succ_eq_append_getElem h]
  simp [List.getD, h]
def lenOf : Value → Nat
  | .slice _ n _ => n
  | _ => 0
theorem own_lenOf {w : World} {base : Nat} {e : TypeId} {v : Value} {n : Nat} {xs : List Value} (h : w.ownsRow base e 1 v n xs) : lenOf v = n := by
  obtain ⟨a, c, rfl, _⟩ := own_form h
  rfl

set_option maxRecDepth 1000000 in
set_option maxHeartbeats 4000000 in
theorem lengthened_any (w : World) (v : Value) (xs : List Nat) (hsl : BSl w v xs) (hlen : xs.length ≤ 140737488351232) :
    Calls Tryd.prog 37 #[v] w fun e w' => ∃ v', e = .returned v' ∧ w'.ownsRow w.heap.size 5 1 v' (pad xs).length (bv (pad xs)) ∧ Below w.heap.size w w' := by
  have HSL := hide hsl
  obtain ⟨⟨a, cap, rfl, hn, hc⟩, hmax, hb⟩ := hsl
  have HBY := hide hb
  clear hn hc hb
  generalize hB : w.heap.size = B at *
  have HB := hide hB
  clear hB
  have HL := hide hlen
  clear hlen
  go_enter Tryd.func37, Tryd.ntmps37
  go_wp2_with (at_builtin; refine append_bsl rfl _ _ rfl B _ 0 [] rfl (World.ownsRow_nil _ _ _ _) _ xs rfl HSL.out ?b1 ?b2 ?_)
  case b1 => have := HL.out; omega
  case b2 => have := HB.out; omega
  intro v1 w1 ho1 hg1
  have hb1 : Below B w w1 := (Below.refl _ _).grown hg1 (by have := HB.out; omega) (fun q hq => by cases hq)
  have HO1 := hide ho1
  have HB1 := hide hb1
  have hs1 : B ≤ w1.heap.size := by have := hb1.size; have := HB.out; omega
  clear ho1 hb1 hg1
  have HS1 := hide (one_bsl w1 128 (by decide))
  have HA1 := hide (HO1.out.alloc (.cells #[.int .u8 128] 5))
  go_wp2_with (at_builtin; refine append_bsl rfl _ _ rfl B _ xs.length xs rfl HA1.out _ [128] rfl HS1.out ?b1 ?b2 ?_)
  case b1 => have := HL.out; simp; omega
  case b2 => simp; omega
  intro v2 w2 ho2 hg2
  have hlo := fun g (h : _ = some g) => (HA1.out.lt g h).1
  have HB2 : Hid (Below B w w2) := (HB1.out.alloc hs1 _).grown hg2 (by simp; omega) (fun g hg => hlo g hg)
  have HO2 := hide ho2
  clear ho2 hg2 hlo HA1 HS1 HO1 HB1 hs1
  go_wp2
  go_loopw [3] (fun u wx => ∃ z : Nat, z ≤ zer xs.length ∧ lenOf u = xs.length + 1 + z ∧ Hid (wx.ownsRow B 5 1 u (xs.length + 1 + z) (bv (xs ++ [128] ++ List.replicate z 0))) ∧ Hid (Below B w wx)) (fun u _ => xs.length + 1 + zer xs.length - lenOf u)
  case atStart => exact ⟨0, Nat.zero_le _, own_lenOf HO2.out, by show World.ownsRow _ _ _ _ _ _ _; simpa using HO2.out, HB2⟩
  case round =>
    obtain ⟨z, hz, hlz, HO, HBL⟩ := hrel
    clear HO2 HB2
    obtain ⟨au, cu, hv, hv1, hv2, hv3⟩ := own_form HO.out
    subst hv
    clear hv1 hv2 hv3
    have hzl := zer_lt xs.length
    have hzm := zer_mod xs.length
    have hs3 : B ≤ wr.heap.size := by have := HBL.out.size; have := HB.out; omega
    by_cases hlt : z < zer xs.length
    · have hne : (((xs.length : Int) + 1 + (z : Int)) % 64 != 56) = true := bne_iff_ne.2 (by omega)
      have HS1 := hide (one_bsl wr 0 (by decide))
      have HA1 := hide (HO.out.alloc (.cells #[.int .u8 0] 5))
      go_wp2_with (at_builtin; refine append_bsl rfl _ _ rfl B _ (xs.length + 1 + z) _ rfl HA1.out _ [0] rfl HS1.out ?b1 ?b2 ?_)
      case b1 => have := HL.out; simp; omega
      case b2 => simp; omega
      intro v3 w3 ho3 hg3
      have hlo := fun g (h : _ = some g) => (HA1.out.lt g h).1
      have HB3 : Hid (Below B w w3) := (HBL.out.alloc hs3 _).grown hg3 (by simp; omega) (fun g hg => hlo g hg)
      have HO3 : Hid (w3.ownsRow B 5 1 v3 (xs.length + 1 + (z + 1)) (bv (xs ++ [128] ++ List.replicate (z + 1) 0))) := by
        show World.ownsRow _ _ _ _ _ _ _
        have h := ho3
        rw [List.replicate_succ']
        simpa [Nat.add_assoc] using h
      clear ho3 hg3 hlo HA1 HS1
      obtain ⟨a3, c3, hv3, hv1, hv2, hv4⟩ := own_form HO3.out
      subst hv3
      clear hv1 hv2 hv4
      go_wp2
      go_roundw
      case rel => exact ⟨z + 1, by omega, rfl, HO3, HB3⟩
      case measure => simp [lenOf]; omega
    · have hzz : z = zer xs.length := by omega
      have hne : (((xs.length : Int) + 1 + (z : Int)) % 64 != 56) = false := bne_eq_false_iff_eq.2 (by omega)
      subst hzz
      have HPD : Hid (pad xs = xs ++ [128] ++ List.replicate (zer xs.length) 0 ++ beb 8 (8 * xs.length)) := rfl
      have hPL : (xs ++ [128] ++ List.replicate (zer xs.length) 0).length = xs.length + 1 + zer xs.length := by simp; omega
      have HPL := hide hPL
      clear hPL
      generalize xs ++ [128] ++ List.replicate (zer xs.length) 0 = D at *
      have hL9 : xs.length + 1 + zer xs.length ≤ 140737488352232 := by have := HL.out; omega
      have HL9 := hide hL9
      clear hL9
      generalize xs.length + 1 + zer xs.length = L at *
      have hl8 : xs.length ≤ 140737488351232 := HL.out
      have hneL : ((L : Int) % 64 != 56) = false := bne_eq_false_iff_eq.2 (by omega)
      go_wp2
      clear hne hl8
      have HN8 : Hid (8 * xs.length < 9223372036854775808) := by have := HL.out; show _ < _; omega
      have hNN : 8 * (xs.length : Int) = ((8 * xs.length : Nat) : Int) := by omega
      rw [hNN]
      clear hNN
      generalize 8 * xs.length = N at *
      go_loopw [3, 5] (fun u q wx => ∃ j : Nat, j ≤ 8 ∧ q = .int .i64 (7 - (j : Int)) ∧ Hid (wx.ownsRow B 5 1 u (L + j) (bv (D ++ (beb 8 N).take j))) ∧ Hid (Below B w wx)) (fun _ q _ => (intOf q + 1).toNat)
      case atStart => exact ⟨0, by omega, by simp, by show World.ownsRow _ _ _ _ _ _ _; simpa using HO.out, HBL⟩
      case round =>
        obtain ⟨j, hj, rfl, HO4, HBL4⟩ := hrel
        clear HO HBL
        rename World => wz
        have hs4 : B ≤ wz.heap.size := by have := HBL4.out.size; have := HB.out; omega
        by_cases hlt2 : j < 8
        · have hlt2' : (0 : Int) ≤ 7 - (j : Int) := by omega
          have hidx : (7 - (j : Int)) = ((7 - j : Nat) : Int) := by omega
          rw [hidx]
          have hq8 : 7 - j < 8 := by omega
          have HTK : Hid ((beb 8 N).take (j + 1) = (beb 8 N).take j ++ [N / 256 ^ (7 - j) % 256]) := by
            show _ = _
            rw [← beb_get 8 N j hlt2]
            exact take_snoc3 _ _ (by rw [beb_len]; exact hlt2)
          have HID : Hid (((7 - j : Nat) : Int) - 1 = 7 - ((j + 1 : Nat) : Int)) := by show _ = _; omega
          generalize 7 - j = q at *
          clear hidx hlt2'
          have hc : ((N / 256 ^ q % 256 : Nat) : Int) = (N : Int) / 2 ^ (8 * q) % 256 := by rw [pow_int8]; omega
          have HS1 := hide (one_bsl wz (N / 256 ^ q % 256) (Nat.mod_lt _ (by decide)))
          rw [hc] at HS1
          have HA1 := hide (HO4.out.alloc (.cells #[.int .u8 ((N : Int) / 2 ^ (8 * q) % 256)] 5))
          clear hc HO4
          have hn8 : N < 9223372036854775808 := HN8.out
          go_wp2_with (at_builtin; refine append_bsl rfl _ _ rfl B _ (L + j) _ rfl HA1.out _ [N / 256 ^ q % 256] rfl HS1.out ?b1 ?b2 ?_)
          case b1 => have := HL9.out; simp; omega
          case b2 => simp; omega
          intro v5 w5 ho5 hg5
          have hlo := fun g (h : _ = some g) => (HA1.out.lt g h).1
          have HB5 : Hid (Below B w w5) := (HBL4.out.alloc hs4 _).grown hg5 (by simp; omega) (fun g hg => hlo g hg)
          have HO5 : Hid (w5.ownsRow B 5 1 v5 (L + (j + 1)) (bv (D ++ (beb 8 N).take (j + 1)))) := by
            show World.ownsRow _ _ _ _ _ _ _
            rw [HTK.out]
            have h := ho5
            simpa [Nat.add_assoc] using h
          clear ho5 hg5 hlo HA1 HS1 HTK
          go_wp2
          go_roundw
          case rel => exact ⟨j + 1, by omega, by rw [← HID.out], HO5, HB5⟩
          case measure => simp [intOf]
        · have hj8 : j = 8 := by omega
          subst hj8
          have ho := HO4.out
          rw [List.take_of_length_le (by rw [beb_len]; exact Nat.le_refl _), ← HPD.out] at ho
          have HO6 := hide ho
          clear ho HO4
          go_wp2
          go_ret
          have e : (pad xs).length = L + 8 := by rw [HPD.out, List.length_append, beb_len, HPL.out]
          rw [e]
          exact ⟨_, rfl, HO6.out, HBL4.out⟩
end Go.Proofs.YtedgdnoafajhoaaDoor
