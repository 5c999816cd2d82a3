import Derived.Test.YtfjdpooaipehmaaLo
import Derived.Test.YtfjdpooaipehmaaHd
namespace Go.Proofs.Ytfjdpooaipehmaa
open Go.RowKit

theorem own_empty0 (w : World) : (w.alloc (.cells #[] 5)).ownsRow w.heap.size 5 1 (.slice (some ⟨w.heap.size, 0, none⟩) 0 0) 0 (bv []) :=
  World.ownsRow_made w #[] 0 (Nat.le_refl _) (by decide) rfl

set_option maxRecDepth 1000000 in
set_option maxHeartbeats 4000000 in
theorem there_any (b off len cap : Nat) (ms : Nat → Int) (ns : Nat → Nat) (vt : Value) (tl : List Nat) (w : World) (hmax : len ≤ 9223372036854775807)
    (hc : ∀ j, j < len → w.cell? ⟨b, off + j * 2, none⟩ = some (.int .i64 (ms j)) ∧ w.cell? ⟨b, off + j * 2 + 1, none⟩ = some (.int .u64 ((ns j : Nat) : Int)))
    (hr : ∀ j, j < len → -9223372036854775808 ≤ ms j ∧ ms j ≤ 9223372036854775807 ∧ ns j < 18446744073709551616) (ht : BSl w vt tl) :
    Calls Try.prog 4 #[.agg #[.slice (some ⟨b, off, none⟩) len cap, vt]] w fun e w' => e = .returned (.bool true) ∧ Below w.heap.size w w' := by
  have HC := hide hc
  have HRG := hide hr
  have HT := hide ht
  clear hc hr ht
  go_enter Try.func4, Try.ntmps4
  go_wp2
  go_loopw [3] (fun i wr => ∃ k : Nat, k ≤ len ∧ i = .int .i64 (k : Nat) ∧ Below (w.heap.size + 1) (w.alloc (.cells #[.slice (some ⟨b, off, none⟩) len cap, vt] 63)) wr) (fun i _ => len - (intOf i).toNat)
  case atStart => exact ⟨0, Nat.zero_le _, rfl, Below.refl _ _⟩
  case round =>
    obtain ⟨k, hk, rfl, hbel⟩ := hrel
    have HBL := hide hbel
    have hbx0 : wr.cell? ⟨w.heap.size, 0, none⟩ = some (.slice (some ⟨b, off, none⟩) len cap) := (hbel.cell (by simp)).trans (by simp)
    have hbx1 : wr.cell? ⟨w.heap.size, 1, none⟩ = some vt := (hbel.cell (by simp)).trans (by simp)
    have hsz : w.heap.size < wr.heap.size := by have := hbel.size; simp at this; omega
    clear hbel
    generalize hB : w.heap.size = B at *
    have HB := hide hB
    clear hB
    have HKP : Hid (∀ a u, w.cell? a = some u → wr.cell? a = some u) := by
      intro a u h
      have h2 := keep_alloc w (.cells #[.slice (some ⟨b, off, none⟩) len cap, vt] 63) _ _ h
      have h3 := World.block_lt_of_cell? w _ h
      exact (HBL.out.cell (by have := HB.out; omega)).trans h2
    by_cases hlt : k < len
    · have hc0 := HKP.out _ _ (HC.out k hlt).1
      have hc1 := HKP.out _ _ (HC.out k hlt).2
      obtain ⟨hm0, hm1, hn⟩ := HRG.out k hlt
      generalize ms k = M at *
      generalize ns k = n at *
      go_wp2_with fail
      refine (within_any M _ ⟨hm0, hm1⟩).mono ?_
      rintro e w1 ⟨m, hm, rfl, rfl⟩
      clear hm0 hm1
      go_wp2_with fail
      refine (lay_any (m : Int) n _ (by omega) hn).mono ?_
      rintro e w2 ⟨vl, rfl, hown2, hb2⟩
      have hle : hlay (m : Int) n = hl m n := by unfold hlay; rw [if_pos (by omega), Int.toNat_natCast]
      rw [hle, hl_len] at hown2
      clear hle
      have HSL2 := hide (BSl.own hown2 (hl_byte m n (by omega)))
      have hbx0' := keep_below hb2 _ _ hbx0
      have hbx1' := keep_below hb2 _ _ hbx1
      have hsz' : B < w2.heap.size := by have := hb2.size; omega
      have HT2 : Hid (BSl w2 vt tl) := (HT.out.move HKP.out).move (keep_below hb2)
      have HBL2 := hide (HBL.out.trans (hb2.mono (by omega)))
      obtain ⟨al, cl, hv, hv1, hv2, hv3⟩ := own_form hown2
      subst hv
      clear hbx0 hbx1 hsz hc0 hc1 hown2 hb2 hv2 hv3 HKP HBL
      go_wp2_with fail
      refine (head_any _ vt tl HT2.out).mono ?_
      rintro e w3 ⟨v4, rfl, hslv, rfl⟩
      have HSV := hide hslv
      clear hslv
      have hsz9 : hsize n ≤ 9 := by have := hwide_le (hinfo n); unfold hsize; omega
      have HRD := hide (hrd_laid m n (tl.take 1048576) (by omega) hn)
      have HBG := hide (fun q => hrd_begin m n q)
      have HLB := hide (hl_byte m n (by omega))
      have HLL := hide (hl_len m n)
      have HTLB : Hid (∀ y ∈ tl.take 1048576, y < 256) := fun y hy => HT.out.byte y (List.mem_of_mem_take hy)
      have HTLL : Hid ((tl.take 1048576).length ≤ 1048576) := List.length_take_le _ _
      have hi28 := hinfo_lt n
      have HSA : Hid (BSl (w3.alloc (.cells #[] 5)) (.slice al (hsize n) cl) (hl m n)) := HSL2.out.move (keep_alloc w3 _)
      generalize hl m n = D at *
      generalize tl.take 1048576 = T at *
      go_wp2_with (at_builtin; refine append_bsl rfl _ _ rfl w3.heap.size _ 0 [] rfl (own_empty0 w3) _ D rfl HSA.out ?b1 ?b2 ?_)
      case b1 => have := HLL.out; omega
      case b2 => simp
      intro v5 w5 hown5 hgr5
      have hb5 : Below w3.heap.size w3 w5 := ((Below.refl _ _).alloc (Nat.le_refl _) _).grown hgr5 (by simp) (fun q hq => by simp [Value.ownBlock] at hq; omega)
      have HSV5 := hide (HSV.out.move (keep_below hb5))
      have HO5 := hide hown5
      rw [HLL.out] at HO5
      have HB5 := hide hb5
      clear hown5 hgr5 hb5 HSA
      go_wp2_with (at_builtin; refine append_bsl rfl _ _ rfl w3.heap.size _ (hsize n) D rfl HO5.out _ T rfl HSV5.out ?b1 ?b2 ?_)
      case b1 => have := HTLL.out; omega
      case b2 => exact HB5.out.size
      intro v6 w6 hown6 hgr6
      have hlo := fun g (h : _ = some g) => (HO5.out.lt g h).1
      have hb6 : Below w3.heap.size w3 w6 := HB5.out.grown hgr6 HB5.out.size (fun g hg => hlo g hg)
      have HS6 := hide (BSl.own hown6 (fun y hy => (List.mem_append.1 hy).elim (HLB.out y) (HTLB.out y)))
      have HSL6 := hide (HSL2.out.move (keep_below hb6))
      have HSV6 := hide (HSV.out.move (keep_below hb6))
      have hbx0 := keep_below hb6 _ _ hbx0'
      have hsz : B < w6.heap.size := by have := hb6.size; omega
      have HBL6 := hide (HBL2.out.trans (hb6.mono (by omega)))
      clear hown6 hgr6 hlo hb6 HB5 HO5 HSV5 HSV HSL2 HBL2 hbx0' hbx1' hsz' HT2
      go_wp2_with fail
      refine (read_any _ _ _ HS6.out).mono ?_
      rintro e w7 ⟨rfl, hb7⟩
      rw [HRD.out]
      simp only [HR.val]
      have HSL7 := hide (HSL6.out.move (keep_below hb7))
      have HSV7 := hide (HSV6.out.move (keep_below hb7))
      have hbx07 := keep_below hb7 _ _ hbx0
      have hsz7 : B < w7.heap.size := by have := hb7.size; omega
      have HBL7 := hide (HBL6.out.trans (hb7.mono (by omega)))
      clear hb7 HS6 HSL6 HSV6 HBL6 hbx0 hsz HRD
      have hi27 : ¬ (27 : Int) < (hinfo n : Int) := by omega
      go_wp2_with fail
      refine (num_any _ _).mono ?_
      rintro e w8 ⟨rfl, rfl⟩
      go_wp2_with fail
      refine (size_any n _ hn).mono ?_
      rintro e w8 ⟨rfl, rfl⟩
      have HSL8 := hide (HSL7.out.move (keep_alloc w7 (.cells #[.int .i64 (m : Nat), .int .i64 (hinfo n : Nat), .int .u64 (n : Nat), .int .i64 (hsize n : Nat), .bool true] 66)))
      have HSV8 := hide (HSV7.out.move (keep_alloc w7 (.cells #[.int .i64 (m : Nat), .int .i64 (hinfo n : Nat), .int .u64 (n : Nat), .int .i64 (hsize n : Nat), .bool true] 66)))
      have hbx08 := keep_alloc w7 (.cells #[.int .i64 (m : Nat), .int .i64 (hinfo n : Nat), .int .u64 (n : Nat), .int .i64 (hsize n : Nat), .bool true] 66) _ _ hbx07
      have HBL8 := hide (HBL7.out.alloc (by omega) (.cells #[.int .i64 (m : Nat), .int .i64 (hinfo n : Nat), .int .u64 (n : Nat), .int .i64 (hsize n : Nat), .bool true] 66))
      go_wp2_with fail
      clear HSL7 HSV7 hbx07 HBL7 hsz7
      generalize w7.alloc (.cells #[.int .i64 (m : Nat), .int .i64 (hinfo n : Nat), .int .u64 (n : Nat), .int .i64 (hsize n : Nat), .bool true] 66) = w8 at *
      go_loopw [10] (fun j wx => ∃ q : Nat, q ≤ hsize n ∧ j = .int .i64 (q : Nat) ∧ Hid (BSl wx (.slice al (hsize n) cl) D) ∧ Hid (BSl wx v4 T) ∧ Hid (wx.cell? ⟨B, 0, none⟩ = some (.slice (some ⟨b, off, none⟩) len cap)) ∧ Hid (Below (B + 1) (w.alloc (.cells #[.slice (some ⟨b, off, none⟩) len cap, vt] 63)) wx)) (fun j _ => hsize n - (intOf j).toNat)
      case atStart => exact ⟨0, Nat.zero_le _, rfl, HSL8, HSV8, hbx08, HBL8⟩
      case round =>
        obtain ⟨q, hq, rfl, HSL9, HSV9, HBX9, HBL9⟩ := hrel
        clear HSL8 HSV8 hbx08 HBL8
        rename World => wz
        have hszz : B < wz.heap.size := World.block_lt_of_cell? wz _ HBX9.out
        by_cases hqU : q < hsize n
        · have hqU' : (q : Int) < (hsize n : Int) := by omega
          have HTK := hide (HSL9.out.take3 q (by rw [HLL.out]; omega))
          have hqc : (q : Int) ≤ (cl : Int) := by omega
          go_wp2_with fail
          refine (read_any _ _ _ HTK.out).mono ?_
          rintro e w9 ⟨rfl, hb9⟩
          rw [HBG.out q hqU]
          simp only [HR.bad, HR.val]
          have HSL10 := hide (HSL9.out.move (keep_below hb9))
          have HSV10 := hide (HSV9.out.move (keep_below hb9))
          have HBX10 := hide (keep_below hb9 _ _ HBX9.out)
          have HBL10 := hide (HBL9.out.trans (hb9.mono (by omega)))
          have hsz10 : B < w9.heap.size := by have := hb9.size; omega
          clear hb9 HTK
          go_wp2_with fail
          refine (num_any _ _).mono ?_
          rintro e w10 ⟨rfl, rfl⟩
          go_wp2
          go_roundw
          case rel => exact ⟨q + 1, by omega, by go_num, HSL10.out.move (keep_alloc w9 _), HSV10.out.move (keep_alloc w9 _), keep_alloc w9 _ _ _ HBX10.out, HBL10.out.alloc (by omega) _⟩
          case measure => simp [intOf]; omega
        · have hqU' : ¬ (q : Int) < (hsize n : Int) := by omega
          go_wp2_with fail
          refine (longer_any m n _ v4 T (by omega) hn HSV9.out HTLL.out).mono ?_
          rintro e w11 ⟨rfl, hb11⟩
          have HBL11 := hide (HBL9.out.trans (hb11.mono (by omega)))
          clear hb11
          go_wp2
          go_roundw
          case rel => exact ⟨k + 1, by omega, by go_num, HBL11.out⟩
          case measure => simp [intOf]; omega
    · have hlt' : ¬ (k : Int) < (len : Int) := by omega
      have hszB : B ≤ wr.heap.size := by omega
      go_wp2_with fail
      refine (lays_any _).mono ?_
      rintro e w3 ⟨rfl, hbel3⟩
      have HBL3 : Hid (Below B w w3) := by
        have h1 := HBL.out
        have h2 : Below B w wr := (((Below.refl B w).alloc (by have := HB.out; omega) _).trans (h1.mono (by omega)))
        exact h2.trans (hbel3.mono (by omega))
      clear hbel3
      go_wp2
      go_ret
      exact ⟨rfl, by have h := HBL3.out; rw [← HB.out] at h; exact h⟩
end Go.Proofs.Ytfjdpooaipehmaa
