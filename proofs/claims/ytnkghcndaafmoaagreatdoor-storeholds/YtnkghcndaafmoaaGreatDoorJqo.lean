import Derived.Test.YtnkghcndaafmoaaGreatDoorJqn
import Derived.Test.YtnkghcndaafmoaaGreatDoorJql
import Derived.Test.YtnkghcndaafmoaaGreatDoorJqa
import Derived.Deep.QuietTactic
import Derived.StillTail
import Derived.Laws.CopyOwn
import Derived.Lib.SliceRun
namespace Go.Proofs.YtnkghcndaafmoaaGreatDoor
section
open Go.RowKit
def endg (n : Nat) : List Nat := [128] ++ List.replicate (zer n) 0 ++ beb 8 (8 * n)
theorem pad_endg (xs : List Nat) : pad xs = xs ++ endg xs.length := by simp [pad, endg]
theorem make128 (w : World) : (Instr.makeSlice 39 (.int .i64 0) (.int .i64 128)).run Tryz.prog w = .ok (.slice (some ⟨w.heap.size, 0, none⟩) 0 128) (w.alloc (.cells (bv (List.replicate 128 0)).toArray 5)) := by kernel_rfl
theorem own_make {w : World} {c : Nat} {cs : List Value} (hl : cs.length = c) (hc : c ≤ maxLen) : (w.alloc (.cells cs.toArray 5)).ownsRow w.heap.size 5 1 (.slice (some ⟨w.heap.size, 0, none⟩) 0 c) 0 (bv []) :=
  ⟨rfl, .inr ⟨w.heap.size, c, _, rfl, Nat.le_refl _, heap_alloc_new w _, Nat.zero_le _, hc, by simpa using hl, by simp [bv]⟩⟩

set_option maxRecDepth 1000000 in
set_option maxHeartbeats 1000000 in
theorem ending_any (w : World) (n : Nat) (hlen : n ≤ 140737488355328) :
    Calls Tryz.prog 207 #[.int .u64 (n : Nat)] w fun e w' => ∃ v', e = .returned v' ∧ w'.ownsRow w.heap.size 5 1 v' (endg n).length (bv (endg n)) ∧ Below w.heap.size w w' := by
  generalize hB : w.heap.size = B at *
  have HB := hide hB
  clear hB
  have HL := hide hlen
  clear hlen
  have hmk := make128 w
  have HO0 : Hid ((w.alloc (.cells (bv (List.replicate 128 0)).toArray 5)).ownsRow w.heap.size 5 1 (.slice (some ⟨w.heap.size, 0, none⟩) 0 128) 0 (bv [])) := own_make (by simp [bv_len]) (by unfold maxLen; decide)
  have HB0 : Hid (Below B w (w.alloc (.cells (bv (List.replicate 128 0)).toArray 5))) := (Below.refl _ _).alloc (by have := HB.out; omega) _
  have hB0 : w.heap.size = B := HB.out
  rw [hB0] at hmk HO0
  clear hB0
  generalize w.alloc (.cells (bv (List.replicate 128 0)).toArray 5) = w0 at *
  have hs0 : B ≤ w0.heap.size := by have := HB0.out.size; have := HB.out; omega
  have HS1 := hide (one_bsl w0 128 (by decide))
  have HA1 := hide (HO0.out.alloc (.cells #[.int .u8 128] 5))
  go_enter Tryz.func207, Tryz.ntmps207
  go_wp2_with (at_builtin; refine append_bsl rfl _ _ rfl B _ 0 [] rfl HA1.out _ [128] rfl HS1.out ?b1 ?b2 ?_)
  case b1 => simp
  case b2 => simp; omega
  intro v2 w2 ho2 hg2
  have hlo := fun g (h : _ = some g) => (HA1.out.lt g h).1
  have HB2 : Hid (Below B w w2) := (HB0.out.alloc hs0 _).grown hg2 (by simp; omega) (fun g hg => hlo g hg)
  have HO2 := hide ho2
  clear ho2 hg2 hlo HA1 HS1 HO0 HB0 hs0 hmk
  go_wp2
  go_loopw [3] (fun u wx => ∃ z : Nat, z ≤ zer n ∧ lenOf u = 1 + z ∧ Hid (wx.ownsRow B 5 1 u (1 + z) (bv ([128] ++ List.replicate z 0))) ∧ Hid (Below B w wx)) (fun u _ => 1 + zer n - lenOf u)
  case atStart => exact ⟨0, Nat.zero_le _, own_lenOf HO2.out, by show World.ownsRow _ _ _ _ _ _ _; simpa using HO2.out, HB2⟩
  case round =>
    obtain ⟨z, hz, hlz, HO, HBL⟩ := hrel
    clear HO2 HB2
    obtain ⟨au, cu, hv, hv1, hv2, hv3⟩ := own_form HO.out
    subst hv
    clear hv1 hv2 hv3
    have hzl := zer_lt n
    have hzm := zer_mod n
    have hs3 : B ≤ wr.heap.size := by have := HBL.out.size; have := HB.out; omega
    have hl8 : n ≤ 140737488355328 := HL.out
    by_cases hlt : z < zer n
    · have hne : (((n : Int) + (1 + (z : Int)) + 8) % 64 != 0) = true := bne_iff_ne.2 (by omega)
      have HS1 := hide (one_bsl wr 0 (by decide))
      have HA1 := hide (HO.out.alloc (.cells #[.int .u8 0] 5))
      go_wp2_with (at_builtin; refine append_bsl rfl _ _ rfl B _ (1 + z) _ rfl HA1.out _ [0] rfl HS1.out ?b1 ?b2 ?_)
      case b1 => simp; omega
      case b2 => simp; omega
      intro v3 w3 ho3 hg3
      have hlo := fun g (h : _ = some g) => (HA1.out.lt g h).1
      have HB3 : Hid (Below B w w3) := (HBL.out.alloc hs3 _).grown hg3 (by simp; omega) (fun g hg => hlo g hg)
      have HO3 : Hid (w3.ownsRow B 5 1 v3 (1 + (z + 1)) (bv ([128] ++ List.replicate (z + 1) 0))) := by
        show World.ownsRow _ _ _ _ _ _ _
        have h := ho3
        rw [List.replicate_succ']
        simpa [Nat.add_assoc] using h
      clear ho3 hg3 hlo HA1 HS1
      obtain ⟨a3, c3, hv3, hv1, hv2, hv4⟩ := own_form HO3.out
      subst hv3
      clear hv1 hv2 hv4
      go_wp2
      go_roundw
      case rel => exact ⟨z + 1, by omega, rfl, HO3, HB3⟩
      case measure => simp [lenOf]; omega
    · have hzz : z = zer n := by omega
      have hne : (((n : Int) + (1 + (z : Int)) + 8) % 64 != 0) = false := bne_eq_false_iff_eq.2 (by omega)
      have HPD : Hid (endg n = [128] ++ List.replicate z 0 ++ beb 8 (8 * n)) := by show _ = _; rw [hzz]; rfl
      have HPL : Hid (([128] ++ List.replicate z 0).length = 1 + z) := by show _ = _; simp; omega
      generalize [128] ++ List.replicate z 0 = D at *
      have hL9 : 1 + z ≤ 100 := by omega
      have HL9 := hide hL9
      clear hzm hzl hlt hz hzz hlz
      go_wp2
      clear hne
      have hNN : 8 * (n : Int) = ((8 * n : Nat) : Int) := by omega
      go_loopw [3, 4] (fun u q wx => ∃ j : Nat, j ≤ 8 ∧ q = .int .i64 (7 - (j : Int)) ∧ Hid (wx.ownsRow B 5 1 u (1 + z + j) (bv (D ++ (beb 8 (8 * n)).take j))) ∧ Hid (Below B w wx)) (fun _ q _ => (intOf q + 1).toNat)
      case atStart => exact ⟨0, by omega, by simp, by show World.ownsRow _ _ _ _ _ _ _; simpa using HO.out, HBL⟩
      case round =>
        obtain ⟨j, hj, rfl, HO4, HBL4⟩ := hrel
        clear HO HBL
        rename World => wz
        have hs4 : B ≤ wz.heap.size := by have := HBL4.out.size; have := HB.out; omega
        by_cases hlt2 : j < 8
        · have hlt2' : (0 : Int) ≤ 7 - (j : Int) := by omega
          have hidx : (7 - (j : Int)) = ((7 - j : Nat) : Int) := by omega
          rw [hidx]
          have hq8 : 7 - j < 8 := by omega
          have HTK : Hid ((beb 8 (8 * n)).take (j + 1) = (beb 8 (8 * n)).take j ++ [8 * n / 256 ^ (7 - j) % 256]) := by
            show _ = _
            rw [← beb_get 8 (8 * n) j hlt2]
            exact take_snoc3 _ _ (by rw [beb_len]; exact hlt2)
          have HID : Hid (((7 - j : Nat) : Int) - 1 = 7 - ((j + 1 : Nat) : Int)) := by show _ = _; omega
          generalize 7 - j = q at *
          clear hidx hlt2'
          have hc : ((8 * n / 256 ^ q % 256 : Nat) : Int) = 8 * (n : Int) / 2 ^ (8 * q) % 256 := by rw [pow_int8]; rw [Int.natCast_emod, Int.natCast_ediv, Int.natCast_mul]; rfl
          have HS1 := hide (one_bsl wz (8 * n / 256 ^ q % 256) (Nat.mod_lt _ (by decide)))
          rw [hc] at HS1
          have HA1 := hide (HO4.out.alloc (.cells #[.int .u8 (8 * (n : Int) / 2 ^ (8 * q) % 256)] 5))
          clear hc HO4 hNN
          go_wp2_with (at_builtin; refine append_bsl rfl _ _ rfl B _ (1 + z + j) _ rfl HA1.out _ [8 * n / 256 ^ q % 256] rfl HS1.out ?b1 ?b2 ?_)
          case b1 => have := HL9.out; simp; omega
          case b2 => simp; omega
          intro v5 w5 ho5 hg5
          have hlo := fun g (h : _ = some g) => (HA1.out.lt g h).1
          have HB5 : Hid (Below B w w5) := (HBL4.out.alloc hs4 _).grown hg5 (by simp; omega) (fun g hg => hlo g hg)
          have HO5 : Hid (w5.ownsRow B 5 1 v5 (1 + z + (j + 1)) (bv (D ++ (beb 8 (8 * n)).take (j + 1)))) := by
            show World.ownsRow _ _ _ _ _ _ _
            rw [HTK.out]
            have h := ho5
            simpa [Nat.add_assoc] using h
          clear ho5 hg5 hlo HA1 HS1 HTK
          go_wp2
          go_roundw
          case rel => exact ⟨j + 1, by omega, by rw [← HID.out], HO5, HB5⟩
          case measure => simp [intOf]
        · have hj8 : j = 8 := by omega
          subst hj8
          have ho := HO4.out
          rw [List.take_of_length_le (by rw [beb_len]; exact Nat.le_refl _), ← HPD.out] at ho
          have HO6 := hide ho
          clear ho HO4
          go_wp2
          go_ret
          have e : (endg n).length = 1 + z + 8 := by rw [HPD.out, List.length_append, beb_len, HPL.out]
          rw [e]
          exact ⟨_, rfl, HO6.out, HBL4.out⟩
end
section
open Go.RowKit
theorem sha_len (xs : List Nat) : (sha xs).length = 32 := outb_len _ (abs_len _ hh rfl _)
theorem sha_byte (xs : List Nat) : ∀ x ∈ sha xs, x < 256 := outb_byte _
theorem bsl_block {w : World} {g : Nat} {xs : List Nat} {t : TypeId} (h : w.heap[g]? = some (.cells (bv xs).toArray t (0, 0))) (hb : ∀ x ∈ xs, x < 256) (hl : xs.length ≤ 9223372036854775807) : BSl w (.slice (some ⟨g, 0, none⟩) xs.length xs.length) xs := by
  refine ⟨⟨_, xs.length, rfl, ⟨Nat.le_refl _, fun h => by cases h⟩, .inr ⟨g, 0, rfl, fun j hj => ?_⟩⟩, hl, hb⟩
  rw [Nat.zero_add]
  exact blk_cell h (by rw [List.getElem?_toArray]; exact bv_get hj)
def dholds (h : Nat) (d xs : List Nat) : Bool := if h = 18 then decide (d = sha xs) else decide (h = 0) && (decide (d.length ≤ 64) && decide (d = xs))

theorem info32d (xs : List Nat) : (Tryz.prog.info? 155).map (·.size) = some (bv (sha xs)).toArray.size := by
  have h := info32
  simpa [bv_len, sha_len] using h
theorem one32 (xs : List Nat) : (bv (sha xs)).toArray.all (·.oneCell') = true := by
  rw [Array.all_eq_true_iff_forall_mem]
  intro u hu
  exact bv_one _ u (by simpa using hu)
end
section
open Go.RowKit
theorem index8 (S : List Nat) (hs : S.length = 8) (i : Nat) (hi : i < 8) (w : World) : Sem.run Tryz.prog (Instr.index 182 (.agg (wv S).toArray) (.int .i64 (i : Nat))) w = .ok (.int .u32 ((S.getD i 0 : Nat) : Int)) w := by
  have h := Tryz.underlying182
  have hg := wv_get (l := S) (j := i) (by omega)
  simp only [List.getD_eq_getElem?_getD] at hg
  simp [Instr.index, run_underlying h, asIntOf, go_sem, hi, hg]

set_option maxRecDepth 1000000 in
set_option maxHeartbeats 1000000 in
theorem laid_any (w : World) (s : List Nat) (hs : s.length = 8) (hw : ∀ x ∈ s, x < 4294967296) :
    Calls Tryz.prog 208 #[.agg (wv s).toArray] w fun e w' => e = .returned (.agg (bv (outb s)).toArray) ∧ Below w.heap.size w w' := by
  obtain ⟨s0, s1, s2, s3, s4, s5, s6, s7, rfl⟩ := eight s hs
  have HW := hide hw
  clear hw hs
  have hlit : (wv [s0, s1, s2, s3, s4, s5, s6, s7]).toArray = #[.int .u32 (s0 : Nat), .int .u32 (s1 : Nat), .int .u32 (s2 : Nat), .int .u32 (s3 : Nat), .int .u32 (s4 : Nat), .int .u32 (s5 : Nat), .int .u32 (s6 : Nat), .int .u32 (s7 : Nat)] := rfl
  rw [hlit]
  go_enter Tryz.func208, Tryz.ntmps208
  go_wp2_with fail
  rw [← hlit, ← z32_lit]
  have HR0 : Hid ((((w.alloc (.cells (wv [s0, s1, s2, s3, s4, s5, s6, s7]).toArray 182)).alloc (.cells (bv (List.replicate 32 0)).toArray 155)).alloc (.cells (bv (List.replicate 32 0)).toArray 155)).heap[w.heap.size + 1]? = some (.cells (bv (List.replicate 32 0)).toArray 155 (0, 0))) := by
    have h := heap_alloc_new (w.alloc (.cells (wv [s0, s1, s2, s3, s4, s5, s6, s7]).toArray 182)) (.cells (bv (List.replicate 32 0)).toArray 155)
    have e : (w.alloc (.cells (wv [s0, s1, s2, s3, s4, s5, s6, s7]).toArray 182)).heap.size = w.heap.size + 1 := by simp
    rw [e] at h
    exact blk_alloc _ h
  have HO0 : Hid ((((w.alloc (.cells (wv [s0, s1, s2, s3, s4, s5, s6, s7]).toArray 182)).alloc (.cells (bv (List.replicate 32 0)).toArray 155)).alloc (.cells (bv (List.replicate 32 0)).toArray 155)).heap[w.heap.size + 1 + 1]? = some (.cells (bv (List.replicate 32 0)).toArray 155 (0, 0))) := by
    have h := heap_alloc_new ((w.alloc (.cells (wv [s0, s1, s2, s3, s4, s5, s6, s7]).toArray 182)).alloc (.cells (bv (List.replicate 32 0)).toArray 155)) (.cells (bv (List.replicate 32 0)).toArray 155)
    have e : ((w.alloc (.cells (wv [s0, s1, s2, s3, s4, s5, s6, s7]).toArray 182)).alloc (.cells (bv (List.replicate 32 0)).toArray 155)).heap.size = w.heap.size + 1 + 1 := by simp
    rw [e] at h
    exact h
  have HL0 : Hid (Below w.heap.size w (((w.alloc (.cells (wv [s0, s1, s2, s3, s4, s5, s6, s7]).toArray 182)).alloc (.cells (bv (List.replicate 32 0)).toArray 155)).alloc (.cells (bv (List.replicate 32 0)).toArray 155))) := (((Below.refl _ _).alloc (Nat.le_refl _) _).alloc (by simp) _).alloc (by simp; omega) _
  clear hlit
  generalize ((w.alloc (.cells (wv [s0, s1, s2, s3, s4, s5, s6, s7]).toArray 182)).alloc (.cells (bv (List.replicate 32 0)).toArray 155)).alloc (.cells (bv (List.replicate 32 0)).toArray 155) = w1 at *
  generalize hB : w.heap.size = B at *
  have HBB := hide hB
  clear hB
  have HSL : Hid ([s0, s1, s2, s3, s4, s5, s6, s7].length = 8) := rfl
  generalize hS : [s0, s1, s2, s3, s4, s5, s6, s7] = S at *
  have HS := hide hS
  clear hS
  have HOL := hide (outb_len S HSL.out)
  go_loopw [7] (fun ii wx => ∃ i : Nat, i ≤ 8 ∧ ii = .int .i64 (i : Nat) ∧ Hid (wx.heap[B + 1]? = some (.cells (bv (List.replicate 32 0)).toArray 155 (0, 0))) ∧ Hid (wx.heap[B + 1 + 1]? = some (.cells (bv ((outb S).take (4 * i) ++ List.replicate (32 - 4 * i) 0)).toArray 155 (0, 0))) ∧ Hid (Below B w wx)) (fun ii _ => 8 - (intOf ii).toNat)
  case atStart => exact ⟨0, by omega, rfl, HR0, HO0, HL0⟩
  case round =>
    obtain ⟨i, hi, rfl, HR1, HO1, HL1⟩ := hrel
    clear HR0 HO0 HL0
    by_cases hlt : i < 8
    · have hlt' : (i : Int) < 8 := by omega
      have hix := index8 S HSL.out i hlt wr
      have hxb := getD_w HW.out i
      have HG : Hid (∀ k, k < 4 → (outb S).getD (4 * i + k) 0 = S.getD i 0 / 256 ^ (3 - k) % 256) := by
        intro k hk
        rw [outb_get S HSL.out (4 * i + k) (by omega)]
        have e1 : (4 * i + k) / 4 = i := by omega
        have e2 : (4 * i + k) % 4 = k := by omega
        rw [e1, e2]
      have HCL : Hid (∀ k, k < 4 → wr.cell? ⟨B + 1 + 1, 4 * i + k, none⟩ = some (.int .u8 0)) := by
        intro k hk
        refine blk_cell HO1.out ?_
        rw [List.getElem?_toArray, bv_get (by simp [HOL.out]; omega)]
        have e : ((outb S).take (4 * i) ++ List.replicate (32 - 4 * i) 0).getD (4 * i + k) 0 = 0 := by
          rw [List.getD_eq_getElem?_getD, List.getElem?_append_right (by simp; omega)]
          simp only [List.getElem?_replicate]
          split <;> rfl
        rw [e]
        rfl
      have c0 : wr.cell? ⟨B + 1 + 1, 4 * i, none⟩ = some (.int .u8 0) := HCL.out 0 (by omega)
      have c1 := HCL.out 1 (by omega)
      have c2 := HCL.out 2 (by omega)
      have c3 := HCL.out 3 (by omega)
      have f0 := blk_frozen (4 * i) HO1.out
      have f1 := blk_frozen (4 * i + 1) HO1.out
      have f2 := blk_frozen (4 * i + 2) HO1.out
      have f3 := blk_frozen (4 * i + 3) HO1.out
      generalize S.getD i 0 = x at *
      go_wp2_with fail
      go_roundw
      case rel =>
        have e0 : (x : Int) / 16777216 = (((outb S).getD (4 * i) 0 : Nat) : Int) := by
          have h := HG.out 0 (by omega)
          rw [Nat.add_zero] at h
          rw [h]
          simp only [Nat.reduceSub, Nat.reducePow]
          omega
        have e1 : (x : Int) / 65536 % 256 = (((outb S).getD (4 * i + 1) 0 : Nat) : Int) := by
          rw [HG.out 1 (by omega)]
          simp only [Nat.reduceSub, Nat.reducePow]
          omega
        have e2 : (x : Int) / 256 % 256 = (((outb S).getD (4 * i + 2) 0 : Nat) : Int) := by
          rw [HG.out 2 (by omega)]
          simp only [Nat.reduceSub, Nat.reducePow]
          omega
        have e3 : (x : Int) % 256 = (((outb S).getD (4 * i + 3) 0 : Nat) : Int) := by
          rw [HG.out 3 (by omega)]
          simp only [Nat.reduceSub, Nat.reducePow]
          omega
        rw [e0, e1, e2, e3]
        refine ⟨i + 1, by omega, by go_num, ?_, ?_, below_set3 (below_set3 (below_set3 (below_set3 HL1.out _ _ (by omega) _) _ _ (by omega) _) _ _ (by omega) _) _ _ (by omega) _⟩
        · exact blk_other _ _ (blk_other _ _ (blk_other _ _ (blk_other _ _ HR1.out (by omega)) (by omega)) (by omega)) (by omega)
        · have k0 := blk_set (4 * i) (.int .u8 (((outb S).getD (4 * i) 0 : Nat) : Int)) HO1.out
          rw [out_set (outb S) HOL.out (4 * i) (by omega)] at k0
          have k1 := blk_set (4 * i + 1) (.int .u8 (((outb S).getD (4 * i + 1) 0 : Nat) : Int)) k0
          rw [out_set (outb S) HOL.out (4 * i + 1) (by omega)] at k1
          have k2 := blk_set (4 * i + 2) (.int .u8 (((outb S).getD (4 * i + 2) 0 : Nat) : Int)) k1
          rw [out_set (outb S) HOL.out (4 * i + 2) (by omega)] at k2
          have k3 := blk_set (4 * i + 3) (.int .u8 (((outb S).getD (4 * i + 3) 0 : Nat) : Int)) k2
          rw [out_set (outb S) HOL.out (4 * i + 3) (by omega)] at k3
          exact k3
      case measure => simp [intOf]; omega
    · have hi8 : i = 8 := by omega
      have hi6 : ¬ (i : Int) < 8 := by omega
      have HOF : Hid (wr.heap[B + 1 + 1]? = some (.cells (bv (outb S)).toArray 155 (0, 0))) := by
        have h := HO1.out
        rw [hi8, List.take_of_length_le (by rw [HOL.out]; omega)] at h
        show _ = _
        simpa using h
      clear hi8 hlt hi HO1
      have HI32 : Hid ((Tryz.prog.info? 155).map (·.size) = some (bv (outb S)).toArray.size) := by
        have h := info32
        show _ = _
        simpa [bv_len, HOL.out] using h
      have HSZ : Hid ((bv (List.replicate 32 0)).toArray.size = (bv (outb S)).toArray.size) := by show _ = _; simp [bv_len, HOL.out]
      have HON : Hid ((bv (outb S)).toArray.all (·.oneCell') = true) := by
        show _ = _
        rw [Array.all_eq_true_iff_forall_mem]
        intro u hu
        exact bv_one _ u (by simpa using hu)
      have hne : ¬ B + 1 = B + 1 + 1 := by omega
      generalize hD : outb S = D at *
      have HD := hide hD
      clear hD
      go_wp2_with (first
        | (refine wpList_loadRow rfl rfl (B + 1 + 1) 32 (bv D).toArray 155 rfl HOF.out Tryz.underlying155 HI32.out ?_)
        | (refine wpList_storeRow rfl rfl (B + 1) _ (bv D).toArray 155 rfl rfl HR1.out HI32.out HSZ.out HON.out ?_))
      refine bodyPost_ret (v := .agg (bv D).toArray) ((results_one (p := 2) (ty := 155) rfl _ _ _).trans (run_loadVar_row (P := Tryz.prog) _ (B + 1) 155 155 (bv D).toArray (0, 0) _ (row_same HR1.out) Tryz.underlying155 rfl HI32.out)) rfl ⟨by rw [HS.out, HD.out], ?_⟩
      rw [HBB.out]
      exact HL1.out.trans ((row_kp wr (B + 1) _).below (by have := HL1.out.size; have := HBB.out; omega) (fun q e => by omega))
end
section
open Go.RowKit
structure Ext (w : World) where
  w' : World
  h : Below w.heap.size w w'
instance (w : World) : Nonempty (Ext w) := ⟨⟨w, Below.refl _ _⟩⟩
theorem Ext.cell {w : World} {p : Addr} {v : Value} (h : w.cell? p = some v) (t : Ext w) : t.w'.cell? p = some v := keep_below t.h _ _ h
theorem Ext.bsl {w : World} {v : Value} {xs : List Nat} (h : BSl w v xs) (t : Ext w) : BSl t.w' v xs := h.move (keep_below t.h)
theorem region_ext {id : Nat} {Q : Exit → Act → World → Prop} {a : Act} {w : World} {l : List Oper} (hm : Tryz.prog.follows .mixedOrders = true) (hB : Region.lexB .any l.toArray = true)
    (h : wpQuiet Tryz.prog l.toArray (fun w' => ∃ t : Ext w, w' = t.w') (fun a' => ∀ w', (∃ t : Ext w, w' = t.w') → Q .normal a' w') l a) : (Code.region id l.toArray true).wp Tryz.prog Q a w :=
  wp_region_quiet (C := fun w' => ∃ t : Ext w, w' = t.w') hm hB ⟨⟨w.drew, (Below.refl _ _).drew⟩, rfl⟩ (by simpa using h)
theorem Calls.ext_same {f : FuncId} {args : Array Value} {w : World} {t : Ext w} {v : Value} (h : Calls Tryz.prog f args t.w' fun e w' => e = .returned v ∧ w' = t.w') : Calls Tryz.prog f args t.w' fun e w'' => e = .returned v ∧ ∃ t' : Ext w, w'' = t'.w' :=
  h.mono fun _ _ ⟨he, hm⟩ => ⟨he, t, hm⟩
theorem Calls.ext_below {f : FuncId} {args : Array Value} {w : World} {t : Ext w} {v : Value} (h : Calls Tryz.prog f args t.w' fun e w' => e = .returned v ∧ Below t.w'.heap.size t.w' w') : Calls Tryz.prog f args t.w' fun e w'' => e = .returned v ∧ ∃ t' : Ext w, w'' = t'.w' :=
  h.mono fun _ w' ⟨he, hb⟩ => ⟨he, ⟨w', t.h.trans (hb.mono t.h.size)⟩, rfl⟩
end
section
open Go.RowKit Go
section
variable {P : Program} {ops : Array Oper} {md : Region.Mode} {C : World → Prop}

def hdQ (P : Program) (md : Region.Mode) (ops : Array Oper) (C : World → Prop) (n : Nat) (L : Array Bool → Act → Prop) : Nat → Array Bool → Act → Prop
  | 0, s, a => L s a
  | f + 1, s, a => Region.ready md ops s ≠ [] ∧ ∀ i ∈ Region.ready md ops s, i < n ∧ qOp P ops C i (hdQ P md ops C n L f (s.setIfInBounds i true)) a

theorem hdQ_any {n g : Nat} {L : Array Bool → Act → Prop} {Q : Exit → Act → World → Prop} (hL : ∀ s a w, C w → L s a → wpAny P md ops Q g s a w) : ∀ (f : Nat) (s : Array Bool) (a : Act) (w : World), C w → hdQ P md ops C n L f s a → wpAny P md ops Q (f + g) s a w := by
  intro f
  induction f with
  | zero => intro s a w hw h; rw [Nat.zero_add]; exact hL s a w hw h
  | succ f ih =>
    intro s a w hw h
    have e : f + 1 + g = (f + g) + 1 := by omega
    rw [e]
    exact ⟨fun h0 => absurd h0 h.1, fun i hi => wpOp_of_qOp hw (fun a' w' hw' h' => ih _ a' w' hw' h') (h.2 i hi).2⟩

theorem hdQ_first {n i : Nat} {oi : Oper} {v : Value} {L : Array Bool → Act → Prop} (hi : ops[i]? = some oi) (hsel : ∀ (j : Nat) (o : Oper) cs b, ops[j]? = some o → o.op ≠ .select cs b)
    (hs : Region.sinkB md ops n = true) (hc : Region.chainB md ops n = true) (hn : n < ops.size) (hin : i < n) (hd : ∀ s a, L s a → ∀ j ∈ Region.ready md ops s, n ≤ j)
    (f : Nat) : ∀ (s : Array Bool) (a : Act), HeadInv md ops n s →
      (∀ j oj, ops[j]? = some oj → j ≠ i → s.getD j true = false → (∀ e ∈ oj.after, Region.binds md e = true → e.on ≠ i) → oi.apart ops oj = true) →
      i ∈ Region.ready md ops s → YieldsIn P ops C oi v a → hdQ P md ops C n L f (s.setIfInBounds i true) (a.put oi.dst v) → hdQ P md ops C n L (f + 1) s a := by
  have low : ∀ s, HeadInv md ops n s → i ∈ Region.ready md ops s → ∀ j ∈ Region.ready md ops s, j < n := fun s inv hr j hj => by
    by_cases h : j < n
    · exact h
    · exact absurd hj (tail_waits hs hc hn inv _ i rfl hin (mem_ready.1 hr).1 j (by omega))
  have some_ready : ∀ s : Array Bool, i ∈ Region.ready md ops s → Region.ready md ops s ≠ [] := fun s hr h => by rw [h] at hr; cases hr
  induction f with
  | zero =>
    intro s a inv _ hr hy H
    refine ⟨some_ready s hr, fun j hj => ⟨low s inv hr j hj, ?_⟩⟩
    by_cases e : j = i
    · subst e; exact hy.qOp hi H
    · have := hd _ _ H j (ready_mono hj e)
      have := low s inv hr j hj
      omega
  | succ f ih =>
    intro s a inv hf hr hy H
    refine ⟨some_ready s hr, fun j hj => ⟨low s inv hr j hj, ?_⟩⟩
    by_cases e : j = i
    · subst e; exact hy.qOp hi H
    · obtain ⟨hju, oj, hoj, hall⟩ := mem_ready.1 hj
      have hun := getD_both (mem_ready.1 hr).1
      have hfj := hf j oj hoj e hju (fun d hd' hb he => by
        have h := hall d hd' hb
        rw [he, hun] at h
        cases h)
      have h2 := qOp_put hoj hfj (fun cs b => hsel i oi cs b hi) (fun cs b => hsel j oj cs b hoj) hy (H.2 j (ready_mono hj e)).2
      refine qOp_mono (fun a' h3 => ih (s.setIfInBounds j true) a' (inv.set hj (low s inv hr j hj)) (fun k ok hk hki hku hno => hf k ok hk hki ?_ hno) (ready_mono hr (Ne.symm e)) h3.1 ?_) h2
      · by_cases ejk : j = k
        · subst ejk; exact hju
        · rw [getD_set_ne true ejk] at hku; exact hku
      · rw [Array.setIfInBounds_comm _ _ e]
        exact h3.2

theorem hdQ_lex {n g : Nat} {Lq : Act → Prop} (hsel : Region.noSelect ops = true) (hs : Region.sinkB md ops n = true) (hc : Region.chainB md ops n = true) (hn : n < ops.size) (l : List Oper) :
    ∀ (k : Nat) (s : Array Bool) (a : Act), (∀ j, j < l.length → l[j]? = ops[k + j]?) → k + l.length = n → HeadInv md ops n s → Region.lexHead md ops g l.length k s = true → wpQuiet P ops C Lq l a →
      hdQ P md ops C n (fun s' a' => Region.seqB md ops g n s' = true ∧ Lq a') l.length s a := by
  induction l with
  | nil =>
    intro k s a _ hk _ hB h
    obtain rfl : k = n := by simpa using hk
    exact ⟨by simpa [Region.lexHead] using hB, h⟩
  | cons o l ih =>
    intro k s a hl hk inv hB h
    have h0 : ops[k]? = some o := by simpa using (hl 0 (by simp)).symm
    simp only [List.length_cons] at hk
    simp only [List.length_cons, Region.lexHead, Bool.and_eq_true] at hB
    have hr : k ∈ Region.ready md ops s := by simpa using hB.1.1
    have hq : qOp P ops C k (wpQuiet P ops C Lq l) a := by unfold qOp; simp only [h0]; exact h
    obtain ⟨v, hy, hK⟩ := yieldsIn_of_qOp h0 hq
    refine hdQ_first h0 (Region.noSelect_spec hsel) hs hc hn (by omega) (fun s' a' hL => seqB_ready hL.1) l.length s a inv (Region.free_spec h0 hB.1.2) hr hy (ih (k + 1) _ _ (fun j hj => ?_) (by omega) (inv.set hr (by omega)) hB.2 hK)
    have := hl (j + 1) (by simp; omega)
    simpa [Nat.add_assoc, Nat.add_comm 1 j] using this

theorem wp_region_quiet_tail {id : Nat} {Q : Exit → Act → World → Prop} {a : Act} {w : World} {l : List Oper} (n : Nat) (hm : P.follows .mixedOrders = true) (hB : Region.lexTailB .any l.toArray n = true) (hC : C w.drew)
    (h : wpQuiet P l.toArray C (fun a' => ∀ w', C w' → wpList P l.toArray Q (l.drop n) a' w') (l.take n) a) : (Code.region id l.toArray true).wp P Q a w := by
  simp only [Region.lexTailB, Bool.and_eq_true, decide_eq_true_eq] at hB
  obtain ⟨⟨⟨⟨hsel, hn⟩, hs⟩, hc⟩, hlex⟩ := hB
  have hn' : n < l.length := by simpa using hn
  have ht : (l.take n).length = n := by simp; omega
  have hd : (l.drop n).length = l.toArray.size - n := by simp
  have inv : HeadInv .any l.toArray n (Array.replicate l.toArray.size false) :=
    ⟨by simp, fun j oj _ hl => absurd hl (by rw [getD_replicate_false]; decide), fun t _ ht => getD_in (by simpa using ht) (getD_replicate_false _ _)⟩
  have H := hdQ_lex (C := C) (md := .any) (g := l.toArray.size - n) hsel hs hc hn (l.take n) 0 _ a (fun j hj => by
    have : j < n := by omega
    simp [this]) (by simpa using ht) inv (by rw [ht]; exact hlex) h
  refine wp_region_any hm ?_
  have R := hdQ_any (Q := Q) (g := l.toArray.size - n) (fun s a' w' hw' hL => by
    have := wpAny_of_seq (md := .any) (Q' := Q) (l.drop n) n s a' w' (fun j => by simp [List.getElem?_drop]) (by rw [hd]; exact hL.1) (hL.2 w' hw')
    rwa [hd] at this) _ _ _ w.drew hC H
  have e : n + (l.toArray.size - n) = l.toArray.size := by simp; omega
  rw [ht, e] at R
  exact R
end

theorem region_ext_tail {id : Nat} {Q : Exit → Act → World → Prop} {a : Act} {w : World} {l : List Oper} (n : Nat) (hm : Tryz.prog.follows .mixedOrders = true) (hB : Region.lexTailB .any l.toArray n = true)
    (h : wpQuiet Tryz.prog l.toArray (fun w' => ∃ t : Ext w, w' = t.w') (fun a' => ∀ w', (∃ t : Ext w, w' = t.w') → wpList Tryz.prog l.toArray Q (l.drop n) a' w') (l.take n) a) : (Code.region id l.toArray true).wp Tryz.prog Q a w :=
  wp_region_quiet_tail (C := fun w' => ∃ t : Ext w, w' = t.w') n hm hB ⟨⟨w.drew, (Below.refl _ _).drew⟩, rfl⟩ h
end
section
open Go.RowKit Go
theorem addr_add (g o j : Nat) : (⟨g, o, none⟩ : Addr).add j = ⟨g, o + j, none⟩ := by unfold Addr.add; split <;> simp_all
theorem part_load {w : World} {T e : TypeId} {n : Nat} (g off : Nat) (cs : List Value) (hu : Tryz.prog.underlying T = some (.array n e)) (hi : (Tryz.prog.info? T).map (·.size) = some cs.length) (hc : ∀ j v, cs[j]? = some v → w.cell? ⟨g, off + j, none⟩ = some v) :
    (Instr.loadAt T (.pointer (some ⟨g, off, none⟩))).run Tryz.prog w = .ok (.agg cs.toArray) w := by
  have hl := run_loadCells_list (P := Tryz.prog) (w := w) ⟨g, off, none⟩ cs (fun j v hv => by rw [addr_add]; exact hc j v hv)
  simp only [Instr.loadAt, Instr.sureAddr, Sem.run_bind, Sem.run_pure, Result.andThen]
  cases hq : Tryz.prog.info? T with
  | none => simp [hq] at hi
  | some i =>
    have hs : i.size = cs.length := by simpa [hq] using hi
    have ha : (isAgg T).run Tryz.prog w = .ok true w := by
      unfold isAgg
      rw [Sem.run_bind, run_underlying hu w]
      simp
    simp [loadVar, ha, sizeOf, typeInfo, hq, hs, hl]
theorem part_store {w : World} {T t : TypeId} (g off : Nat) (cur cs : List Value) (hg : w.heap[g]? = some (.cells cur.toArray t (0, 0))) (hi : (Tryz.prog.info? T).map (·.size) = some cs.length) (hf : off + cs.length ≤ cur.length) (h1 : ∀ v ∈ cs, v.oneCell' = true) :
    (Instr.storeAt T (.pointer (some ⟨g, off, none⟩)) (.agg cs.toArray)).run Tryz.prog w = .ok () (w.setRow g (splice cur off cs).toArray) := by
  have hst := run_storeCells_at (P := Tryz.prog) g off t cs 0 cur.toArray w hg (by simpa using hf) h1
  simp only [Nat.add_zero, List.append_assoc] at hst
  simp only [Instr.storeAt, Instr.sureAddr, Sem.run_bind, Sem.run_pure, Result.andThen]
  cases hq : Tryz.prog.info? T with
  | none => simp [hq] at hi
  | some i =>
    have hs : cs.length = i.size := by simp [hq] at hi; omega
    simp [storeVar, sizeOf, typeInfo, hq, Value.cells, hs, hst, splice]
theorem qstep_load {C : World → Prop} {ops : Array Oper} {o : Oper} {a : Act} {K : Act → Prop} {T e : TypeId} {n : Nat} {p : Operand} (hgd : o.guard = none) (ho : o.op = .load T p) (g off : Nat) (cs : List Value)
    (hp : a.eval p = .pointer (some ⟨g, off, none⟩)) (hu : Tryz.prog.underlying T = some (.array n e)) (hi : (Tryz.prog.info? T).map (·.size) = some cs.length) (hc : ∀ w, C w → ∀ j v, cs[j]? = some v → w.cell? ⟨g, off + j, none⟩ = some v)
    (h : K (a.put o.dst (.agg cs.toArray))) : if Region.wanted o (yielded ops a.tmps) = true then o.quiet Tryz.prog a C K else K (a.put o.dst undef) := by
  have hw : Region.wanted o (yielded ops a.tmps) = true := by simp [Region.wanted, hgd]
  rw [if_pos hw]
  refine ⟨.agg cs.toArray, fun w hC => ?_, h⟩
  unfold Oper.quietAt execOp
  simp only [ho, Sem.run_bind, hp, part_load g off cs hu hi (hc w hC), Result.andThen_ok]
  exact ⟨rfl, rfl⟩
theorem wpList_storePart {ops : Array Oper} {rest : List Oper} {o : Oper} {a : Act} {Q : Exit → Act → World → Prop} {w : World} {T : TypeId} {p x : Operand} (hgd : o.guard = none) (ho : o.op = .store T p x) (g off : Nat) (cur cs : List Value) (t : TypeId)
    (hp : a.eval p = .pointer (some ⟨g, off, none⟩)) (hx : a.eval x = .agg cs.toArray) (hg : w.heap[g]? = some (.cells cur.toArray t (0, 0))) (hi : (Tryz.prog.info? T).map (·.size) = some cs.length) (hf : off + cs.length ≤ cur.length) (h1 : ∀ v ∈ cs, v.oneCell' = true)
    (h : ∀ w', Hid (w'.heap[g]? = some (.cells (splice cur off cs).toArray t (0, 0))) → Hid (Kp (fun q => q = g) w w') → wpList Tryz.prog ops Q rest (a.put o.dst undef) w') : wpList Tryz.prog ops Q (o :: rest) a w := by
  refine wpList_plain hgd fun K hK => ?_
  unfold Oper.wp execOp
  simp only [ho, Sem.run_bind, hp, hx, part_store g off cur cs hg hi hf h1, Result.andThen_ok]
  exact hK _ _ (h _ (row_same hg) (row_kp _ _ _))
theorem wpList_copyPart {ops : Array Oper} {rest : List Oper} {o : Oper} {a : Act} {Q : Exit → Act → World → Prop} {w : World} (hgd : o.guard = none) (d s : Operand)
    (ho : o.op = .call { callee := .builtin .copy, args := #[d, s], argTypes := #[39, 39] }) (g off dLen dCap : Nat) (hd : a.eval d = .slice (some ⟨g, off, none⟩) dLen dCap) (xs : List Nat) (v : Value) (hs : a.eval s = v) (hb : BSl w v xs)
    (cur : List Value) (t : TypeId) (hg : w.heap[g]? = some (.cells cur.toArray t (0, 0))) (ys : List Nat) (k : Nat) (hk : ys.length = k) (hy : ys = xs.take dLen) (hf : off + ys.length ≤ cur.length)
    (h : ∀ w', Hid (w'.heap[g]? = some (.cells (splice cur off (bv ys)).toArray t (0, 0))) → Hid (Kp (fun q => q = g) w w') → wpList Tryz.prog ops Q rest (a.put o.dst (.int .i64 (k : Nat))) w') : wpList Tryz.prog ops Q (o :: rest) a w := by
  subst hk
  obtain ⟨⟨a', cap, rfl, hn, hc⟩, hmax, hby⟩ := hb
  have hsz : (Tryz.prog.info? 5).map (·.size) = some 1 := by
    have h5 := Tryz.info5
    cases hq : Tryz.prog.info? 5 with
    | none => simp [hq] at h5
    | some i => simp [hq] at h5 ⊢; exact h5.2.1
  have hl : ys.length = Nat.min xs.length dLen := by subst hy; simp [Nat.min_comm]
  by_cases h0 : ys.length = 0
  · refine wpList_copy_nothing hgd d s _ _ ho 5 Tryz.underlying39 hsz _ _ _ _ _ _ hd hs (by omega) ?_
    have e0 : ys = [] := List.eq_nil_of_length_eq_zero h0
    have h2 := h w (by show _ = _; subst e0; simpa [splice, bv] using hg) (Kp.refl _ _)
    rw [h0] at h2
    exact h2
  · rcases hc with hc | ⟨b, o', rfl, hc⟩
    · subst hc; subst hy; simp at h0
    have hlb : (bv ys).length = ys.length := bv_len ys
    refine wpList_copy_own hgd d s _ _ ho 5 Tryz.underlying39 hsz g off dLen dCap ⟨b, o', none⟩ _ _ hd hs cur.toArray t hg (bv ys) (by rw [hlb]; exact hl) (fun j v hv => ?_) (by rw [hlb]; simpa using hf) (bv_one ys) ?_
    · have hj : j < ys.length := by
        rw [← hlb]
        exact (List.getElem?_eq_some_iff.1 hv).1
      rw [bv_get hj] at hv
      have e : ys.getD j 0 = xs.getD j 0 := by
        subst hy
        simp only [List.getD_eq_getElem?_getD, List.getElem?_take]
        rw [if_pos (by simp at hj; omega)]
      rw [addr_add, hc j (by have := Nat.min_le_left xs.length dLen; have : ys.length ≤ xs.length := by rw [hl]; exact this
                             omega), ← e]
      exact hv
    · have h2 := h (w.setRow g (splice cur off (bv ys)).toArray) (row_same hg) (row_kp _ _ _)
      simpa [splice, hlb, goInt] using h2
theorem wpList_clearPart {ops : Array Oper} {rest : List Oper} {o : Oper} {a : Act} {Q : Exit → Act → World → Prop} {w : World} (hgd : o.guard = none) (s : Operand)
    (ho : o.op = .call { callee := .builtin .clear, args := #[s], argTypes := #[39] }) (g off n c : Nat) (hs : a.eval s = .slice (some ⟨g, off, none⟩) n c) (hn : 0 < n)
    (cur : List Value) (t : TypeId) (hg : w.heap[g]? = some (.cells cur.toArray t (0, 0))) (hf : off + n ≤ cur.length)
    (h : ∀ w', Hid (w'.heap[g]? = some (.cells (splice cur off (bv (List.replicate n 0))).toArray t (0, 0))) → Hid (Kp (fun q => q = g) w w') → wpList Tryz.prog ops Q rest (a.put o.dst (.tuple #[])) w') : wpList Tryz.prog ops Q (o :: rest) a w := by
  refine wpList_plain hgd fun K hK => ?_
  have hz : (∀ w, (zeroValue 5).run Tryz.prog w = .ok (.int .u8 0) w) := by
    have h5 := Tryz.info5
    intro w
    cases hq : Tryz.prog.info? 5 with
    | none => simp [hq] at h5
    | some i => simp [hq] at h5; simp [zeroValue, typeInfo, hq, h5.1]
  have hst := run_storeCells_at (P := Tryz.prog) g off t (bv (List.replicate n 0)) 0 cur.toArray w hg (by simpa [bv_len] using hf) (bv_one _)
  simp only [Nat.add_zero, List.append_assoc] at hst
  have hzc : (Builtin.zeroCells (Value.int .u8 0).cells n).toList = bv (List.replicate n 0) := by
    simp [Builtin.zeroCells, Value.cells, bv]
    apply List.ext_getElem
    · simp
    · intro i h1 h2
      simp [Nat.mod_one]
  have hrun : (Builtin.clear_ #[39] o.type #[.slice (some ⟨g, off, none⟩) n c]).run Tryz.prog w = .ok (.tuple #[]) (w.setRow g (splice cur off (bv (List.replicate n 0))).toArray) := by
    obtain ⟨m, rfl⟩ : ∃ m, n = m + 1 := ⟨n - 1, by omega⟩
    simp [Builtin.clear_, run_underlying Tryz.underlying39, hz, hzc, hst, splice]
  unfold Oper.wp
  simp [execOp, ho, resolve, invoke, builtin, hs, hrun, Result.andThen]
  exact hK _ _ (h _ (row_same hg) (row_kp _ _ _))
end
section
open Go.RowKit Go
theorem wrd_take (l : List Nat) (p : Nat) (q : Nat) (h : q + 4 ≤ 64) : wrd ((l.drop p).take 64) q = wrd l (p + q) := by
  unfold wrd
  have g : ∀ j, j < 64 → ((l.drop p).take 64).getD j 0 = l.getD (p + j) 0 := by
    intro j hj
    simp [List.getD, hj]
  rw [g q (by omega), g (q + 1) (by omega), g (q + 2) (by omega), g (q + 3) (by omega)]
  rfl
theorem wl_take (l : List Nat) (p : Nat) : ∀ n, wl ((l.drop p).take 64) 0 n = wl l p n
  | 0 => rfl
  | n + 1 => by
    rw [wl, wl, wl_take l p n]
    by_cases h : n < 16
    · rw [if_pos h, if_pos h, Nat.zero_add, wrd_take l p (4 * n) (by omega)]
    · rw [if_neg h, if_neg h]
theorem rl_take (l : List Nat) (p : Nat) (s : List Nat) : ∀ n, rl ((l.drop p).take 64) 0 s n = rl l p s n
  | 0 => rfl
  | n + 1 => by rw [rl, rl, rl_take l p s n, wl_take]
theorem cmp_take (l : List Nat) (p : Nat) (s : List Nat) : cmp ((l.drop p).take 64) 0 s = cmp l p s := by
  unfold cmp
  rw [rl_take]
theorem abs_app (xs ys s : List Nat) : ∀ n, 64 * n ≤ xs.length → abs (xs ++ ys) s n = abs xs s n
  | 0, _ => rfl
  | n + 1, h => by
    rw [abs, abs, abs_app xs ys s n (by omega), ← cmp_take, ← cmp_take xs]
    congr 1
    rw [List.drop_append_of_le_length (by omega), List.take_append_of_le_length (by simp; omega)]
theorem hc_rest {s r : List Nat} {c off : Nat} {ys : List Nat} (hs : s.length = 8) (hr : off + ys.length ≤ r.length) : splice (hc s r c) (8 + off) (bv ys) = hc s (splice r off ys) c := by
  have e8 : (wv s).length = 8 := by rw [wv_len, hs]
  have eb : (bv r).length = r.length := bv_len r
  have ey : (bv ys).length = ys.length := bv_len ys
  unfold splice hc
  rw [List.take_append, List.drop_append, e8, ey]
  have a1 : (wv s).take (8 + off) = wv s := List.take_of_length_le (by omega)
  have a2 : (wv s).drop (8 + off + ys.length) = [] := List.drop_eq_nil_of_le (by omega)
  have a3 : 8 + off - 8 = off := by omega
  have a4 : 8 + off + ys.length - 8 = off + ys.length := by omega
  rw [a1, a2, a3, a4, List.take_append_of_le_length (by omega), List.drop_append_of_le_length (by omega)]
  simp [bv, List.map_take, List.map_drop]
theorem hc_state {s s' r : List Nat} {c : Nat} (hs : s.length = 8) (hs' : s'.length = 8) : splice (hc s r c) 0 (wv s') = hc s' r c := by
  have e8 : (wv s).length = 8 := by rw [wv_len, hs]
  have e9 : (wv s').length = 8 := by rw [wv_len, hs']
  unfold splice hc
  rw [e9, List.take_zero, List.nil_append, List.drop_append, e8]
  have a2 : (wv s).drop (0 + 8) = [] := List.drop_eq_nil_of_le (by omega)
  rw [a2]
  simp
theorem hc_count {s r : List Nat} {c c' : Nat} (hs : s.length = 8) (hr : r.length = 64) : (hc s r c).toArray.setIfInBounds 72 (.int .u64 ((c' : Nat) : Int)) = (hc s r c').toArray := by
  have e8 : (wv s).length = 8 := by rw [wv_len, hs]
  have e6 : (bv r).length = 64 := by rw [bv_len, hr]
  unfold hc
  rw [List.setIfInBounds_toArray, List.set_append_right _ _ (by omega), List.set_append_right _ _ (by omega), e8, e6]
  rfl
theorem hc_getc {s r : List Nat} {c : Nat} (hs : s.length = 8) (hr : r.length = 64) : (hc s r c).toArray[72]? = some (.int .u64 ((c : Nat) : Int)) := by
  have e8 : (wv s).length = 8 := by rw [wv_len, hs]
  have e6 : (bv r).length = 64 := by rw [bv_len, hr]
  unfold hc
  rw [List.getElem?_toArray, List.getElem?_append_right (by omega), List.getElem?_append_right (by omega), e8, e6]
  rfl
theorem hc_gets {s r : List Nat} {c j : Nat} {v : Value} (h : (wv s)[j]? = some v) : (hc s r c).toArray[j]? = some v := by
  have hj := (List.getElem?_eq_some_iff.1 h).1
  unfold hc
  rw [List.getElem?_toArray, List.getElem?_append_left hj]
  exact h
theorem hc_getr {s r : List Nat} {c j : Nat} (hs : s.length = 8) (hj : j < r.length) : (hc s r c).toArray[8 + j]? = some (.int .u8 ((r.getD j 0 : Nat) : Int)) := by
  have e8 : (wv s).length = 8 := by rw [wv_len, hs]
  unfold hc
  rw [List.getElem?_toArray, List.getElem?_append_right (by omega), e8, List.getElem?_append_left (by rw [bv_len]; omega)]
  have e : 8 + j - 8 = j := by omega
  rw [e]
  exact bv_get hj
theorem bsl_rest {w : World} {g : Nat} {s r : List Nat} {c : Nat} {t : TypeId} (h : w.heap[g]? = some (.cells (hc s r c).toArray t (0, 0))) (hs : s.length = 8) (hr : r.length = 64) (hb : ∀ x ∈ r, x < 256) : BSl w (.slice (some ⟨g, 8, none⟩) 64 64) r := by
  refine ⟨⟨_, 64, by rw [hr], ⟨by omega, fun h => by cases h⟩, .inr ⟨g, 8, rfl, fun j hj => ?_⟩⟩, by omega, hb⟩
  exact blk_cell h (hc_getr hs hj)
end
end Go.Proofs.YtnkghcndaafmoaaGreatDoor
