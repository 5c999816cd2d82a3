import Derived.Test.YtedgdnoafajhoaaDoorDn
import Derived.Test.YtedgdnoafajhoaaDoorRc
namespace Go.Proofs.YtedgdnoafajhoaaDoor
open Go.RowKit

/-- What is written behind all bytes. -/
def endg (n : Nat) : List Nat := [128] ++ List.replicate (zer n) 0 ++ beb 8 (8 * n)
theorem pad_endg (xs : List Nat) : pad xs = xs ++ endg xs.length := by simp [pad, endg]
theorem make128 (w : World) : (Instr.makeSlice 27 (.int .i64 0) (.int .i64 128)).run Tryd.prog w = .ok (.slice (some ⟨w.heap.size, 0, none⟩) 0 128) (w.alloc (.cells (bv (List.replicate 128 0)).toArray 5)) := by kernel_rfl
theorem own_make {w : World} {c : Nat} {cs : List Value} (hl : cs.length = c) (hc : c ≤ maxLen) : (w.alloc (.cells cs.toArray 5)).ownsRow w.heap.size 5 1 (.slice (some ⟨w.heap.size, 0, none⟩) 0 c) 0 (bv []) :=
  ⟨rfl, .inr ⟨w.heap.size, c, _, rfl, Nat.le_refl _, heap_alloc_new w _, Nat.zero_le _, hc, by simpa using hl, by simp [bv]⟩⟩

set_option maxRecDepth 1000000 in
set_option maxHeartbeats 1000000 in
theorem ending_any (w : World) (n : Nat) (hlen : n ≤ 140737488355328) :
    Calls Tryd.prog 43 #[.int .u64 (n : Nat)] w fun e w' => ∃ v', e = .returned v' ∧ w'.ownsRow w.heap.size 5 1 v' (endg n).length (bv (endg n)) ∧ Below w.heap.size w w' := by
  generalize hB : w.heap.size = B at *
  have HB := hide hB
  clear hB
  have HL := hide hlen
  clear hlen
  have hmk := make128 w
  have HO0 : Hid ((w.alloc (.cells (bv (List.replicate 128 0)).toArray 5)).ownsRow w.heap.size 5 1 (.slice (some ⟨w.heap.size, 0, none⟩) 0 128) 0 (bv [])) := own_make (by simp [bv_len]) (by unfold maxLen; decide)
  have HB0 : Hid (Below B w (w.alloc (.cells (bv (List.replicate 128 0)).toArray 5))) := (Below.refl _ _).alloc (by have := HB.out; omega) _
  have hB0 : w.heap.size = B := HB.out
  rw [hB0] at hmk HO0
  clear hB0
  generalize w.alloc (.cells (bv (List.replicate 128 0)).toArray 5) = w0 at *
  have hs0 : B ≤ w0.heap.size := by have := HB0.out.size; have := HB.out; omega
  have HS1 := hide (one_bsl w0 128 (by decide))
  have HA1 := hide (HO0.out.alloc (.cells #[.int .u8 128] 5))
  go_enter Tryd.func43, Tryd.ntmps43
  go_wp2_with (at_builtin; refine append_bsl rfl _ _ rfl B _ 0 [] rfl HA1.out _ [128] rfl HS1.out ?b1 ?b2 ?_)
  case b1 => simp
  case b2 => simp; omega
  intro v2 w2 ho2 hg2
  have hlo := fun g (h : _ = some g) => (HA1.out.lt g h).1
  have HB2 : Hid (Below B w w2) := (HB0.out.alloc hs0 _).grown hg2 (by simp; omega) (fun g hg => hlo g hg)
  have HO2 := hide ho2
  clear ho2 hg2 hlo HA1 HS1 HO0 HB0 hs0 hmk
  go_wp2
  go_loopw [3] (fun u wx => ∃ z : Nat, z ≤ zer n ∧ lenOf u = 1 + z ∧ Hid (wx.ownsRow B 5 1 u (1 + z) (bv ([128] ++ List.replicate z 0))) ∧ Hid (Below B w wx)) (fun u _ => 1 + zer n - lenOf u)
  case atStart => exact ⟨0, Nat.zero_le _, own_lenOf HO2.out, by show World.ownsRow _ _ _ _ _ _ _; simpa using HO2.out, HB2⟩
  case round =>
    obtain ⟨z, hz, hlz, HO, HBL⟩ := hrel
    clear HO2 HB2
    obtain ⟨au, cu, hv, hv1, hv2, hv3⟩ := own_form HO.out
    subst hv
    clear hv1 hv2 hv3
    have hzl := zer_lt n
    have hzm := zer_mod n
    have hs3 : B ≤ wr.heap.size := by have := HBL.out.size; have := HB.out; omega
    have hl8 : n ≤ 140737488355328 := HL.out
    by_cases hlt : z < zer n
    · have hne : (((n : Int) + (1 + (z : Int)) + 8) % 64 != 0) = true := bne_iff_ne.2 (by omega)
      have HS1 := hide (one_bsl wr 0 (by decide))
      have HA1 := hide (HO.out.alloc (.cells #[.int .u8 0] 5))
      go_wp2_with (at_builtin; refine append_bsl rfl _ _ rfl B _ (1 + z) _ rfl HA1.out _ [0] rfl HS1.out ?b1 ?b2 ?_)
      case b1 => simp; omega
      case b2 => simp; omega
      intro v3 w3 ho3 hg3
      have hlo := fun g (h : _ = some g) => (HA1.out.lt g h).1
      have HB3 : Hid (Below B w w3) := (HBL.out.alloc hs3 _).grown hg3 (by simp; omega) (fun g hg => hlo g hg)
      have HO3 : Hid (w3.ownsRow B 5 1 v3 (1 + (z + 1)) (bv ([128] ++ List.replicate (z + 1) 0))) := by
        show World.ownsRow _ _ _ _ _ _ _
        have h := ho3
        rw [List.replicate_succ']
        simpa [Nat.add_assoc] using h
      clear ho3 hg3 hlo HA1 HS1
      obtain ⟨a3, c3, hv3, hv1, hv2, hv4⟩ := own_form HO3.out
      subst hv3
      clear hv1 hv2 hv4
      go_wp2
      go_roundw
      case rel => exact ⟨z + 1, by omega, rfl, HO3, HB3⟩
      case measure => simp [lenOf]; omega
    · have hzz : z = zer n := by omega
      have hne : (((n : Int) + (1 + (z : Int)) + 8) % 64 != 0) = false := bne_eq_false_iff_eq.2 (by omega)
      have HPD : Hid (endg n = [128] ++ List.replicate z 0 ++ beb 8 (8 * n)) := by show _ = _; rw [hzz]; rfl
      have HPL : Hid (([128] ++ List.replicate z 0).length = 1 + z) := by show _ = _; simp; omega
      generalize [128] ++ List.replicate z 0 = D at *
      have hL9 : 1 + z ≤ 100 := by omega
      have HL9 := hide hL9
      clear hzm hzl hlt hz hzz hlz
      go_wp2
      clear hne
      have hNN : 8 * (n : Int) = ((8 * n : Nat) : Int) := by omega
      go_loopw [3, 4] (fun u q wx => ∃ j : Nat, j ≤ 8 ∧ q = .int .i64 (7 - (j : Int)) ∧ Hid (wx.ownsRow B 5 1 u (1 + z + j) (bv (D ++ (beb 8 (8 * n)).take j))) ∧ Hid (Below B w wx)) (fun _ q _ => (intOf q + 1).toNat)
      case atStart => exact ⟨0, by omega, by simp, by show World.ownsRow _ _ _ _ _ _ _; simpa using HO.out, HBL⟩
      case round =>
        obtain ⟨j, hj, rfl, HO4, HBL4⟩ := hrel
        clear HO HBL
        rename World => wz
        have hs4 : B ≤ wz.heap.size := by have := HBL4.out.size; have := HB.out; omega
        by_cases hlt2 : j < 8
        · have hlt2' : (0 : Int) ≤ 7 - (j : Int) := by omega
          have hidx : (7 - (j : Int)) = ((7 - j : Nat) : Int) := by omega
          rw [hidx]
          have hq8 : 7 - j < 8 := by omega
          have HTK : Hid ((beb 8 (8 * n)).take (j + 1) = (beb 8 (8 * n)).take j ++ [8 * n / 256 ^ (7 - j) % 256]) := by
            show _ = _
            rw [← beb_get 8 (8 * n) j hlt2]
            exact take_snoc3 _ _ (by rw [beb_len]; exact hlt2)
          have HID : Hid (((7 - j : Nat) : Int) - 1 = 7 - ((j + 1 : Nat) : Int)) := by show _ = _; omega
          generalize 7 - j = q at *
          clear hidx hlt2'
          have hc : ((8 * n / 256 ^ q % 256 : Nat) : Int) = 8 * (n : Int) / 2 ^ (8 * q) % 256 := by rw [pow_int8]; rw [Int.natCast_emod, Int.natCast_ediv, Int.natCast_mul]; rfl
          have HS1 := hide (one_bsl wz (8 * n / 256 ^ q % 256) (Nat.mod_lt _ (by decide)))
          rw [hc] at HS1
          have HA1 := hide (HO4.out.alloc (.cells #[.int .u8 (8 * (n : Int) / 2 ^ (8 * q) % 256)] 5))
          clear hc HO4 hNN
          go_wp2_with (at_builtin; refine append_bsl rfl _ _ rfl B _ (1 + z + j) _ rfl HA1.out _ [8 * n / 256 ^ q % 256] rfl HS1.out ?b1 ?b2 ?_)
          case b1 => have := HL9.out; simp; omega
          case b2 => simp; omega
          intro v5 w5 ho5 hg5
          have hlo := fun g (h : _ = some g) => (HA1.out.lt g h).1
          have HB5 : Hid (Below B w w5) := (HBL4.out.alloc hs4 _).grown hg5 (by simp; omega) (fun g hg => hlo g hg)
          have HO5 : Hid (w5.ownsRow B 5 1 v5 (1 + z + (j + 1)) (bv (D ++ (beb 8 (8 * n)).take (j + 1)))) := by
            show World.ownsRow _ _ _ _ _ _ _
            rw [HTK.out]
            have h := ho5
            simpa [Nat.add_assoc] using h
          clear ho5 hg5 hlo HA1 HS1 HTK
          go_wp2
          go_roundw
          case rel => exact ⟨j + 1, by omega, by rw [← HID.out], HO5, HB5⟩
          case measure => simp [intOf]
        · have hj8 : j = 8 := by omega
          subst hj8
          have ho := HO4.out
          rw [List.take_of_length_le (by rw [beb_len]; exact Nat.le_refl _), ← HPD.out] at ho
          have HO6 := hide ho
          clear ho HO4
          go_wp2
          go_ret
          have e : (endg n).length = 1 + z + 8 := by rw [HPD.out, List.length_append, beb_len, HPL.out]
          rw [e]
          exact ⟨_, rfl, HO6.out, HBL4.out⟩
end Go.Proofs.YtedgdnoafajhoaaDoor
