import Derived.Test.YtadilnmkjcmnnaaGreatDoorJi
import Derived.Test.YtadilnmkjcmnnaaGreatDoorJh
import Derived.Test.YtadilnmkjcmnnaaGreatDoorJe
import Derived.Test.YtadilnmkjcmnnaaGreatDoorJb
import Derived.Deep.QuietTactic
import Derived.BigQuiet
import Derived.Deep.RegionWith
import Derived.Test.YtadilnmkjcmnnaaGreatDoorJc
import Derived.Laws.ResultCell
import Derived.Deep.LoopGhost
import Derived.Deep.DeepCutAuto
import Derived.Test.YtadilnmkjcmnnaaGreatDoorJf
namespace Go.Proofs.YtadilnmkjcmnnaaGreatDoor
section
open Go.RowKit Go
/-! A value's errors, plainly (cut out of Xd6, Xe6, Xf6: hangs on no sort). -/
/-- A value whose kind's own fields are made zero. -/
def Tv.zr (t : Tv) : Tv :=
  if t.k = 2 then .mk t.k false t.g t.n t.b t.s t.y t.l t.ks t.is
  else if t.k = 3 then .mk t.k t.f false 0 t.b t.s t.y t.l t.ks t.is
  else if t.k = 4 then .mk t.k t.f t.g t.n 0 t.s t.y t.l t.ks t.is
  else if t.k = 5 then .mk t.k t.f t.g t.n t.b ⟨#[]⟩ t.y t.l t.ks t.is
  else if t.k = 6 then .mk t.k t.f t.g t.n t.b t.s [] t.l t.ks t.is
  else if t.k = 7 then .mk t.k t.f t.g t.n t.b t.s t.y ⟨0, 0, 0, []⟩ t.ks t.is
  else if t.k = 8 then .mk t.k t.f t.g t.n t.b t.s t.y t.l t.ks []
  else if t.k = 9 then .mk t.k t.f t.g t.n t.b t.s t.y t.l [] []
  else t
/-- All fields but the kind are zero. -/
def Tv.cl (t : Tv) : Bool := !t.f && (!t.g && (decide (t.n = 0) && (decide (t.b = 0) && (decide (t.s = ⟨#[]⟩) && (decide (t.l = ⟨0, 0, 0, []⟩) && (decide (t.y = []) && (decide (t.ks = []) && t.is.isEmpty)))))))
def tidyf (t : Tv) : Bool := decide (1 ≤ t.k ∧ t.k ≤ 9) && t.zr.cl
/-- The error of a value by itself, so many lists and maps about it. -/
def onef (t : Tv) (a : Nat) : Nat :=
  if (t.k = 8 ∨ t.k = 9) ∧ 1024 ≤ a then 60
  else if tidyf t = false then 61
  else if finb t.b = false then 62
  else if (badb t.s || t.ks.any badb) = true then 63
  else if t.k = 7 ∧ ¬ lok t.l then 64
  else if t.k = 9 ∧ ¬ (t.ks.length = t.is.length ∧ t.ks.Nodup) then 65
  else 0
mutual
/-- The first error in a value that stands in so many lists and maps. -/
def chkf : Tv → Nat → Nat
  | .mk k f g n b s y l ks is, a => if onef (.mk k f g n b s y l ks is) a = 0 then chkL is (a + 1) else onef (.mk k f g n b s y l ks is) a
def chkL : List Tv → Nat → Nat
  | [], _ => 0
  | t :: r, a => if chkf t a = 0 then chkL r a else chkf t a
end
theorem chkf_eq (t : Tv) (a : Nat) : chkf t a = if onef t a = 0 then chkL t.is (a + 1) else onef t a := by
  obtain ⟨k, f, g, n, b, s, y, l, ks, is⟩ := t
  rw [chkf]
  rfl
theorem chkL_none : ∀ {l : List Tv} {a : Nat}, (∀ u ∈ l, chkf u a = 0) → chkL l a = 0
  | [], _, _ => by rw [chkL]
  | t :: r, a, h => by
    rw [chkL, if_pos (h t (List.mem_cons_self ..))]
    exact chkL_none (fun u hu => h u (List.mem_cons_of_mem _ hu))
theorem chkL_at : ∀ {l : List Tv} {a i : Nat} {u : Tv}, (∀ j v, j < i → l[j]? = some v → chkf v a = 0) → l[i]? = some u → chkf u a ≠ 0 → chkL l a = chkf u a
  | [], _, _, _, _, h, _ => by simp at h
  | t :: r, a, 0, u, _, h, hn => by
    simp at h
    subst h
    rw [chkL, if_neg hn]
  | t :: r, a, i + 1, u, h0, h, hn => by
    rw [chkL, if_pos (h0 0 t (by omega) rfl)]
    exact chkL_at (i := i) (fun j v hj hv => h0 (j + 1) v (by omega) (by simpa using hv)) (by simpa using h) hn
end
section
open Go.RowKit
set_option maxRecDepth 1000000 in
theorem shortest_any (n : Nat) (w : World) (hn : n < 18446744073709551616) :
    Calls Tryz.prog 184 #[.int .u64 (n : Nat)] w fun e w' => e = .returned (.int .i64 (hinfo n : Nat)) ∧ w' = w := by
  rcases hinfo_cases n with ⟨h, e⟩ | ⟨h1, h, e⟩ | ⟨h1, h, e⟩ | ⟨h1, h, e⟩ | ⟨h1, e⟩
  · rw [e]
    have g1 : (n : Int) < 24 := by omega
    go_enter Tryz.func184, Tryz.ntmps184
    go_wp2
    go_ret
    exact ⟨rfl, rfl⟩
  · rw [e]
    have g1 : ¬ (n : Int) < 24 := by omega
    have g2 : (n : Int) ≤ 255 := by omega
    go_enter Tryz.func184, Tryz.ntmps184
    go_wp2
    go_ret
    exact ⟨rfl, rfl⟩
  · rw [e]
    have g1 : ¬ (n : Int) < 24 := by omega
    have g2 : ¬ (n : Int) ≤ 255 := by omega
    have g3 : (n : Int) ≤ 65535 := by omega
    go_enter Tryz.func184, Tryz.ntmps184
    go_wp2
    go_ret
    exact ⟨rfl, rfl⟩
  · rw [e]
    have g1 : ¬ (n : Int) < 24 := by omega
    have g2 : ¬ (n : Int) ≤ 255 := by omega
    have g3 : ¬ (n : Int) ≤ 65535 := by omega
    have g4 : (n : Int) ≤ 4294967295 := by omega
    go_enter Tryz.func184, Tryz.ntmps184
    go_wp2
    go_ret
    exact ⟨rfl, rfl⟩
  · rw [e]
    have g1 : ¬ (n : Int) < 24 := by omega
    have g2 : ¬ (n : Int) ≤ 255 := by omega
    have g3 : ¬ (n : Int) ≤ 65535 := by omega
    have g4 : ¬ (n : Int) ≤ 4294967295 := by omega
    go_enter Tryz.func184, Tryz.ntmps184
    go_wp2
    go_ret
    exact ⟨rfl, rfl⟩

set_option maxRecDepth 1000000 in
theorem behind_any (i : Nat) (w : World) (hi : i < 32) :
    Calls Tryz.prog 172 #[.int .i64 (i : Nat)] w fun e w' => e = .returned (.int .i64 (hwide i : Nat)) ∧ w' = w := by
  by_cases h27 : i = 27
  · subst h27
    go_enter Tryz.func172, Tryz.ntmps172
    go_wp2
    go_ret
    exact ⟨rfl, rfl⟩
  · by_cases h26 : i = 26
    · subst h26
      go_enter Tryz.func172, Tryz.ntmps172
      go_wp2
      go_ret
      exact ⟨rfl, rfl⟩
    · by_cases h25 : i = 25
      · subst h25
        go_enter Tryz.func172, Tryz.ntmps172
        go_wp2
        go_ret
        exact ⟨rfl, rfl⟩
      · by_cases h24 : i = 24
        · subst h24
          go_enter Tryz.func172, Tryz.ntmps172
          go_wp2
          go_ret
          exact ⟨rfl, rfl⟩
        · have e : hwide i = 0 := by unfold hwide; rw [if_neg h24, if_neg h25, if_neg h26, if_neg h27]
          rw [e]
          have g27 : ((i : Int) == 27) = false := beq_eq_false_iff_ne.2 (by omega)
          have g26 : ((i : Int) == 26) = false := beq_eq_false_iff_ne.2 (by omega)
          have g25 : ((i : Int) == 25) = false := beq_eq_false_iff_ne.2 (by omega)
          have g24 : ((i : Int) == 24) = false := beq_eq_false_iff_ne.2 (by omega)
          go_enter Tryz.func172, Tryz.ntmps172
          go_wp2
          go_ret
          exact ⟨rfl, rfl⟩

/-- There are heads of this major and info. -/
def hmay (m i : Nat) : Prop := ¬ 27 < i ∨ (i = 31 ∧ m ≠ 0 ∧ m ≠ 1 ∧ m ≠ 6)
instance (m i : Nat) : Decidable (hmay m i) := by unfold hmay; infer_instance

set_option maxRecDepth 1000000 in
theorem mayBe_any (m i : Nat) (w : World) (hm : m ≤ 7) (hi : i ≤ 31) :
    Calls Tryz.prog 171 #[.int .i64 (m : Nat), .int .i64 (i : Nat)] w fun e w' => e = .returned (.bool (decide (hmay m i))) ∧ w' = w := by
  by_cases h27 : i ≤ 27
  · rw [decide_eq_true (show hmay m i from .inl (by omega))]
    have g1 : (i : Int) ≤ 27 := by omega
    go_enter Tryz.func171, Tryz.ntmps171
    go_wp2
    go_ret
    exact ⟨rfl, rfl⟩
  · have g1 : ¬ (i : Int) ≤ 27 := by omega
    by_cases h31 : i < 31
    · rw [decide_eq_false (show ¬ hmay m i by unfold hmay; omega)]
      have g2 : (i : Int) < 31 := by omega
      go_enter Tryz.func171, Tryz.ntmps171
      go_wp2
      go_ret
      exact ⟨rfl, rfl⟩
    · have g2 : ¬ (i : Int) < 31 := by omega
      by_cases h0 : m = 0
      · rw [decide_eq_false (show ¬ hmay m i by unfold hmay; omega)]
        subst h0
        go_enter Tryz.func171, Tryz.ntmps171
        go_wp2
        go_ret
        exact ⟨rfl, rfl⟩
      · have q0 : ((m : Int) != 0) = true := bne_iff_ne.2 (by omega)
        by_cases h1 : m = 1
        · rw [decide_eq_false (show ¬ hmay m i by unfold hmay; omega)]
          subst h1
          go_enter Tryz.func171, Tryz.ntmps171
          go_wp2
          go_ret
          exact ⟨rfl, rfl⟩
        · have q1 : ((m : Int) != 1) = true := bne_iff_ne.2 (by omega)
          by_cases h6 : m = 6
          · rw [decide_eq_false (show ¬ hmay m i by unfold hmay; omega)]
            subst h6
            go_enter Tryz.func171, Tryz.ntmps171
            go_wp2
            go_ret
            exact ⟨rfl, rfl⟩
          · have q6 : ((m : Int) != 6) = true := bne_iff_ne.2 (by omega)
            rw [decide_eq_true (show hmay m i by unfold hmay; omega)]
            go_enter Tryz.func171, Tryz.ntmps171
            go_wp2
            go_ret
            exact ⟨rfl, rfl⟩

set_option maxRecDepth 1000000 in
theorem size_any (n : Nat) (w : World) (hn : n < 18446744073709551616) :
    Calls Tryz.prog 174 #[.int .u64 (n : Nat)] w fun e w' => e = .returned (.int .i64 (hsize n : Nat)) ∧ w' = w := by
  have HN := hide hn
  clear hn
  go_enter Tryz.func174, Tryz.ntmps174
  go_wp2_with fail
  refine (shortest_any n _ HN.out).mono ?_
  rintro e w1 ⟨rfl, rfl⟩
  go_wp2_with fail
  refine (behind_any _ _ (by have := hinfo_lt n; omega)).mono ?_
  rintro e w1 ⟨rfl, rfl⟩
  have h8 := hwide_le (hinfo n)
  have HS : Hid (((hsize n : Nat) : Int) = 1 + (hwide (hinfo n) : Int)) := by show _ = _; unfold hsize; omega
  generalize hwide (hinfo n) = W at *
  go_wp2
  go_ret
  exact ⟨by rw [HS.out]; rfl, rfl⟩
end
section
open Go.RowKit

end
section
open Go.RowKit
theorem u64_shor (N y : Nat) (hN : N < 72057594037927936) (hy : y < 256) : bits .or .u64 ((N : Int) * 256) (y : Int) = ((256 * N + y : Nat) : Int) := by
  have e : (N : Int) * 256 = ((2 ^ 8 * N : Nat) : Int) := by omega
  rw [e, u64_or_nat _ _ (by omega) (by omega), ← Nat.two_pow_add_eq_or_of_lt (i := 8) hy]
theorem i64_or_nat (a b : Nat) (ha : a < 9223372036854775808) (hb : b < 9223372036854775808) : bits .or .i64 (a : Int) (b : Int) = ((a ||| b : Nat) : Int) := by
  have hx : a ||| b < 2 ^ 63 := Nat.or_lt_two_pow (by omega) (by omega)
  show IntKind.i64.wrap ((BitVec.ofInt 64 (a : Int) ||| BitVec.ofInt 64 (b : Int)).toNat : Int) = _
  rw [BitVec.toNat_or, ofInt_u64 a (by omega), ofInt_u64 b (by omega), IntKind.wrap_i64]
  omega
theorem first_byte (M i : Nat) (hM : M ≤ 7) (hi : i < 32) : bits .or .i64 ((M : Int) * 32) (i : Int) % 256 = ((32 * M + i : Nat) : Int) := by
  have e : (M : Int) * 32 = ((2 ^ 5 * M : Nat) : Int) := by omega
  rw [e, i64_or_nat _ _ (by omega) (by omega), ← Nat.two_pow_add_eq_or_of_lt (i := 5) (by omega)]
  omega
theorem own_nine (w : World) (x : Nat) (o : Obj) : ((w.alloc (.cells #[.int .u8 ((x : Nat) : Int), .int .u8 0, .int .u8 0, .int .u8 0, .int .u8 0, .int .u8 0, .int .u8 0, .int .u8 0, .int .u8 0] 5)).alloc o).ownsRow w.heap.size 5 1 (.slice (some ⟨w.heap.size, 0, none⟩) 1 9) 1 (bv [x]) :=
  ⟨rfl, .inr ⟨w.heap.size, 9, _, rfl, Nat.le_refl _, blk_alloc o (heap_alloc_new w _), by decide, by decide, rfl, rfl⟩⟩
theorem be_get : ∀ k n j, j < k → (be k n).getD j 0 = n / 256 ^ (k - 1 - j) % 256
  | 0, _, _, h => by omega
  | k + 1, n, 0, _ => by simp [be]
  | k + 1, n, j + 1, h => by
    have e : k + 1 - 1 - (j + 1) = k - 1 - j := by omega
    rw [e, ← be_get k n j (by omega)]
    simp [be]
set_option maxRecDepth 1000000 in
set_option maxHeartbeats 400000 in
theorem argument_any (i : Nat) (w : World) (v : Value) (xs : List Nat) (hi : i ≤ 31) (hsl : BSl w v xs) (h8 : xs.length ≤ 8) :
    Calls Tryz.prog 173 #[.int .i64 (i : Nat), v] w fun e w' => e = .returned (.int .u64 (if i < 24 then i else bnum 0 xs : Nat)) ∧ w' = w := by
  by_cases h24 : i < 24
  · rw [if_pos h24]
    have g : (i : Int) < 24 := by omega
    obtain ⟨⟨a, cap, rfl, hn, hc⟩, hmax, hb⟩ := hsl
    clear hn hc hb
    go_enter Tryz.func173, Tryz.ntmps173
    go_wp2
    go_ret
    exact ⟨rfl, rfl⟩
  · rw [if_neg h24]
    have g : ¬ (i : Int) < 24 := by omega
    have HS := hide hsl
    obtain ⟨⟨a, cap, rfl, hn, hc⟩, hmax, hb⟩ := hsl
    clear hn hc hb
    go_enter Tryz.func173, Tryz.ntmps173
    go_wp2
    go_loopw [5, 14] (fun nn k wr => ∃ j : Nat, j ≤ xs.length ∧ k = .int .i64 (j : Nat) ∧ nn = .int .u64 (bnum 0 (xs.take j) : Nat) ∧ wr = w) (fun _ k _ => (xs.length : Int).toNat - (intOf k).toNat)
    case atStart => exact ⟨0, Nat.zero_le _, rfl, rfl, rfl⟩
    case round =>
      obtain ⟨j, hj, rfl, rfl, rfl⟩ := hrel
      by_cases hlt : j < xs.length
      · have hlt' : (j : Int) < (xs.length : Int) := by omega
        obtain ⟨⟨a', cap', hv, hn, hc⟩, hm2, hb⟩ := HS.out
        injection hv with hv1 hv2 hv3
        subst hv1
        subst hv3
        rcases hc with hc | ⟨b, off, rfl, hc⟩
        · subst hc; simp at hlt
        have c := hc j hlt
        have hy : xs.getD j 0 < 256 := getD_lt hb j
        have hN : bnum 0 (xs.take j) < 72057594037927936 := by
          have h1 := bnum_lt (xs.take j) 0 (fun z hz => hb z (List.mem_of_mem_take hz))
          have h2 : (xs.take j).length ≤ 7 := by rw [List.length_take]; omega
          have h3 : 256 ^ (xs.take j).length ≤ 256 ^ 7 := Nat.pow_le_pow_right (by decide) h2
          simp at h1 h3; omega
        have HST : Hid (bnum 0 (xs.take (j + 1)) = 256 * bnum 0 (xs.take j) + xs.getD j 0) := by
          show _ = _
          rw [take_snoc xs j hlt, bnum_snoc]
        have HU := hide (u64_shor _ _ hN hy)
        clear hc hb hn hm2 HS
        generalize bnum 0 (xs.take j) = N at *
        generalize xs.getD j 0 = y at *
        go_wp2
        go_roundw
        case rel => exact ⟨j + 1, by omega, by go_num, by rw [HST.out, ← HU.out], trivial⟩
        case measure => simp [intOf]; omega
      · have hlt' : ¬ (j : Int) < (xs.length : Int) := by omega
        have e : xs.take j = xs := List.take_of_length_le (by omega)
        rw [e]
        go_wp2
        go_ret
        exact ⟨rfl, rfl⟩

set_option maxRecDepth 1000000 in
set_option maxHeartbeats 400000 in
theorem lay_any (m : Int) (n : Nat) (w : World) (hm : -9223372036854775808 ≤ m ∧ m ≤ 9223372036854775807) (hn : n < 18446744073709551616) :
    Calls Tryz.prog 216 #[.int .i64 m, .int .u64 (n : Nat)] w fun e w' => ∃ v, e = .returned v ∧ w'.ownsRow w.heap.size 5 1 v (hlay m n).length (bv (hlay m n)) ∧ Below w.heap.size w w' := by
  by_cases h0 : 0 ≤ m ∧ m ≤ 7
  · have e : hlay m n = hl m.toNat n := by unfold hlay; rw [if_pos h0]
    rw [e]
    obtain ⟨M, rfl⟩ := Int.eq_ofNat_of_zero_le h0.1
    rw [Int.toNat_natCast]
    have h1 := h0.1
    have h2 := h0.2
    have hM : M ≤ 7 := by omega
    clear e h0 hm
    have HN := hide hn
    clear hn
    have hmk := make9
    go_enter Tryz.func216, Tryz.ntmps216
    go_wp2_with fail
    refine (shortest_any n _ HN.out).mono ?_
    rintro e w1 ⟨rfl, rfl⟩
    have hi28 := hinfo_lt n
    have HL : Hid (hl M n = (32 * M + hinfo n) :: be (hwide (hinfo n)) n) := rfl
    generalize hinfo n = i at *
    go_wp2_with fail
    refine (behind_any _ _ (by omega)).mono ?_
    rintro e w2 ⟨rfl, rfl⟩
    rw [first_byte M i hM (by omega)]
    have HO := hide (own_nine w1 (32 * M + i) (.cells #[.int .u8 ((32 * M + i : Nat) : Int)] 5))
    have HBW : Hid (Below w1.heap.size w1 ((w1.alloc (.cells #[.int .u8 ((32 * M + i : Nat) : Int), .int .u8 0, .int .u8 0, .int .u8 0, .int .u8 0, .int .u8 0, .int .u8 0, .int .u8 0, .int .u8 0] 5)).alloc (.cells #[.int .u8 ((32 * M + i : Nat) : Int)] 5))) := ((Below.refl _ _).alloc (Nat.le_refl _) _).alloc (by simp) _
    generalize ((w1.alloc (.cells #[.int .u8 ((32 * M + i : Nat) : Int), .int .u8 0, .int .u8 0, .int .u8 0, .int .u8 0, .int .u8 0, .int .u8 0, .int .u8 0, .int .u8 0] 5)).alloc (.cells #[.int .u8 ((32 * M + i : Nat) : Int)] 5)) = w3 at *
    have hk8 := hwide_le i
    generalize hwide i = k at *
    generalize hB : w1.heap.size = B at *
    have HB := hide hB
    clear hB hmk
    go_wp2
    go_loopw [6, 7] (fun bb q wr => ∃ j : Nat, j ≤ k ∧ q = .int .i64 ((k : Int) - 1 - j) ∧ wr.ownsRow B 5 1 bb (1 + j) (bv ((32 * M + i) :: (be k n).take j)) ∧ Below B w1 wr) (fun _ q _ => (intOf q + 1).toNat)
    case atStart => exact ⟨0, Nat.zero_le _, by simp, by simpa using HO.out, HBW.out⟩
    case round =>
      obtain ⟨j, hj, rfl, hown, hbel⟩ := hrel
      clear HO HBW
      have HO := hide hown
      have HBL := hide hbel
      clear hown hbel
      by_cases hlt : j < k
      · have hlt' : (0 : Int) ≤ (k : Int) - 1 - j := by omega
        have hidx : ((k : Int) - 1 - j) = ((k - 1 - j : Nat) : Int) := by omega
        rw [hidx]
        have hq8 : k - 1 - j < 8 := by omega
        have HTK : Hid ((be k n).take (j + 1) = (be k n).take j ++ [n / 256 ^ (k - 1 - j) % 256]) := by
          show _ = _
          rw [← be_get k n j hlt]
          exact take_snoc _ _ (by rw [be_len]; exact hlt)
        have HID : Hid (((k - 1 - j : Nat) : Int) - 1 = (k : Int) - 1 - ((j + 1 : Nat) : Int)) := by show _ = _; omega
        generalize k - 1 - j = q at *
        clear hidx hlt'
        have hc : ((n / 256 ^ q % 256 : Nat) : Int) = (n : Int) / 2 ^ (8 * q) % 256 := by rw [pow_int8]; omega
        have HSL := hide (one_bsl wr (n / 256 ^ q % 256) (Nat.mod_lt _ (by decide)))
        rw [hc] at HSL
        have HOA := hide (HO.out.alloc (.cells #[.int .u8 ((n : Int) / 2 ^ (8 * q) % 256)] 5))
        clear hc HO
        go_wp2_with (at_builtin; refine append_bsl rfl _ _ rfl B _ (1 + j) _ rfl HOA.out _ [n / 256 ^ q % 256] rfl HSL.out ?b1 ?b2 ?_)
        case b1 => simp; omega
        case b2 => have := HBL.out.size; have := HB.out; simp; omega
        intro v2 w2 hown2 hgr2
        have hlo := fun g (h : _ = some g) => (HOA.out.lt g h).1
        have HB2 : Hid (Below B w1 w2) := (HBL.out.alloc (by have := HBL.out.size; have := HB.out; omega) _).grown hgr2 (by have := HBL.out.size; have := HB.out; simp; omega) (fun g hg => hlo g hg)
        have HO2 : Hid (w2.ownsRow B 5 1 v2 (1 + (j + 1)) (bv ((32 * M + i) :: (be k n).take (j + 1)))) := by
          show World.ownsRow _ _ _ _ _ _ _
          rw [HTK.out]
          have h := hown2
          simpa [Nat.add_assoc] using h
        clear hown2 hgr2 hlo HSL HOA HTK
        go_wp2
        go_roundw
        case rel => exact ⟨j + 1, by omega, by rw [← HID.out], HO2.out, HB2.out⟩
        case measure => simp [intOf]
      · have hjk : j = k := by omega
        subst hjk
        have hlt' : ¬ (0 : Int) ≤ (j : Int) - 1 - j := by omega
        have ho := HO.out
        rw [List.take_of_length_le (by rw [be_len]; exact Nat.le_refl _), ← HL.out] at ho
        have HO2 : Hid _ := hide ho
        clear ho HO
        go_wp2
        go_ret
        have e : (hl M n).length = 1 + j := by rw [HL.out]; simp [be_len]; omega
        rw [e, HB.out]
        exact ⟨_, rfl, HO2.out, HBL.out⟩
  · have e : hlay m n = [] := by unfold hlay; rw [if_neg h0]
    rw [e]
    by_cases hneg : m < 0
    · go_enter Tryz.func216, Tryz.ntmps216
      go_wp2
      go_ret
      exact ⟨_, rfl, World.ownsRow_nil _ _ _ _, Below.refl _ _⟩
    · have h7 : 7 < m := by omega
      have hneg' : ¬ m < 0 := hneg
      go_enter Tryz.func216, Tryz.ntmps216
      go_wp2
      go_ret
      exact ⟨_, rfl, World.ownsRow_nil _ _ _ _, Below.refl _ _⟩
end
section
open Go.RowKit
theorem below_set1 {A : Nat} {w wc : World} (h : Below A w wc) (b j : Nat) (hb : A ≤ b) (v : Value) : Below A w (wc.setCell ⟨b, j, none⟩ v) := h.setCell hb v

/-- The block of a head in memory. -/
def PH (w : World) (P : Nat) (m i n u : Nat) (s : Bool) : Prop := w.heap[P]? = some (.cells #[.int .i64 (m : Nat), .int .i64 (i : Nat), .int .u64 (n : Nat), .int .i64 (u : Nat), .bool s] 113 (0, 0))

theorem ph_used {w : World} {P m i n s : Nat} (h : PH w P m i n 0 false) : PH (w.setCell ⟨P, 3, none⟩ (.int .i64 (1 + (s : Int)))) P m i n (1 + s) false := by
  have h2 := blk_set 3 (.int .i64 (1 + (s : Int))) h
  have e : (1 + (s : Int)) = ((1 + s : Nat) : Int) := by omega
  rw [e] at h2 ⊢
  exact h2
theorem ph_arg {w : World} {b off L cap W P x : Nat} {r : List Nat} (h : BSl w (.slice (some ⟨b, off, none⟩) L cap) (x :: r)) (hl : ¬ r.length < W) (hb : ¬ b = P) (u : Value) : BSl (w.setCell ⟨P, 3, none⟩ u) (.slice (some ⟨b, off + 1, none⟩) W (cap - 1)) (r.take W) := by
  obtain ⟨⟨a, cap', hv, hn, hc⟩, hmax, hby⟩ := h
  injection hv with h1 h2 h3
  subst h1
  subst h3
  have hlen : (x :: r).length = r.length + 1 := rfl
  have ht : (r.take W).length = W := by rw [List.length_take]; omega
  refine ⟨⟨_, cap - 1, by rw [ht], ⟨by rw [ht]; omega, fun h => by cases h⟩, .inr ⟨b, off + 1, rfl, fun j hj => ?_⟩⟩, by rw [ht]; omega, fun z hz => hby z (List.mem_cons_of_mem _ (List.mem_of_mem_take hz))⟩
  rcases hc with hc | ⟨b', off', e, hc⟩
  · cases hc
  · injection e with e
    injection e with e1 e2 e3
    subst e1
    subst e2
    have hq := hc (j + 1) (by omega)
    have e : off + (j + 1) = off + 1 + j := by omega
    rw [e] at hq
    have hg : (x :: r).getD (j + 1) 0 = (r.take W).getD j 0 := by
      simp only [List.getD_eq_getElem?_getD, List.getElem?_cons_succ]
      rw [List.getElem?_take_of_lt (by omega)]
    rw [hg] at hq
    refine (World.cell?_of_block ?_).trans hq
    exact Below.heap_setCell w ⟨P, 3, none⟩ u b hb

def harg (i : Nat) (r : List Nat) : Nat := if i < 24 then i else bnum 0 (r.take (hwide i))
theorem harg_lt (i : Nat) (r : List Nat) (hi : i ≤ 31) (hb : ∀ z ∈ r, z < 256) : harg i r < 18446744073709551616 := by
  unfold harg
  split
  · omega
  · have h1 := bnum_lt (r.take (hwide i)) 0 (fun z hz => hb z (List.mem_of_mem_take hz))
    have h2 : (r.take (hwide i)).length ≤ 8 := by rw [List.length_take]; have := hwide_le i; omega
    have h3 : 256 ^ (r.take (hwide i)).length ≤ 256 ^ 8 := Nat.pow_le_pow_right (by decide) h2
    simp at h1 h3; omega
theorem hsize_small {n : Nat} (h : n < 24) : hsize n = 1 := by
  have := hinfo_cases n
  have e : hinfo n = n := by omega
  unfold hsize
  rw [e, hwide_small h]
theorem hwide31 : hwide 31 = 0 := rfl
theorem hrd_not {x : Nat} {r : List Nat} (h : ¬ hmay (x / 32) (x % 32)) : hrd (x :: r) = .bad 21 := by
  unfold hmay at h
  exact hrd_info (by omega) (by omega)
theorem hrd_few {x : Nat} {r : List Nat} (h : hmay (x / 32) (x % 32)) (hl : r.length < hwide (x % 32)) : hrd (x :: r) = .bad 20 := by
  unfold hmay at h
  have h24 : 24 ≤ x % 32 := by
    by_cases h' : x % 32 < 24
    · rw [hwide_small h'] at hl; omega
    · omega
  have h27 : x % 32 ≤ 27 := by
    by_cases h' : x % 32 = 31
    · rw [h', hwide31] at hl; omega
    · omega
  exact hrd_short h24 h27 hl
theorem hrd_two {x : Nat} {r : List Nat} (hl : ¬ r.length < hwide (x % 32)) (hm : x / 32 = 7) (hi : x % 32 = 24) (hn : harg (x % 32) r < 32) : hrd (x :: r) = .bad 21 := by
  unfold harg at hn
  rw [if_neg (by omega)] at hn
  exact hrd_low hi hl hm hn
theorem hrd_all {x : Nat} {r : List Nat} (h : hmay (x / 32) (x % 32)) (hl : ¬ r.length < hwide (x % 32)) (hn : ¬ (x / 32 = 7 ∧ x % 32 = 24 ∧ harg (x % 32) r < 32)) :
    hrd (x :: r) = ⟨x / 32, x % 32, harg (x % 32) r, 1 + hwide (x % 32), decide (x % 32 = 31) || (decide (x / 32 = 7) || decide (1 + hwide (x % 32) = hsize (harg (x % 32) r))), 0⟩ := by
  unfold hmay at h
  by_cases h24 : x % 32 < 24
  · rw [hrd_small h24]
    have e : harg (x % 32) r = x % 32 := by unfold harg; rw [if_pos h24]
    rw [e, hwide_small h24, hsize_small h24]
    simp
  · by_cases h31 : x % 32 = 31
    · rw [hrd_end h31 (by omega)]
      have e : harg (x % 32) r = 0 := by unfold harg; rw [if_neg h24, h31, hwide31]; rfl
      rw [e, h31, hwide31]
      simp
    · have e : harg (x % 32) r = bnum 0 (r.take (hwide (x % 32))) := by unfold harg; rw [if_neg h24]
      rw [e] at hn ⊢
      rw [hrd_long (by omega) (by omega) hl hn, decide_eq_false h31, Bool.false_or]
end
section
open Go.RowKit
theorem bnum_be : ∀ k n a, bnum a (be k n) = a * 256 ^ k + n % 256 ^ k
  | 0, n, a => by simp [be, bnum, Nat.mod_one]
  | k + 1, n, a => by
    simp only [be, bnum]
    rw [bnum_be k n, Nat.mod_pow_succ]
    have h1 : (256 * a + n / 256 ^ k % 256) * 256 ^ k = a * 256 ^ (k + 1) + 256 ^ k * (n / 256 ^ k % 256) := by
      rw [Nat.add_mul, Nat.pow_succ, Nat.mul_comm (n / 256 ^ k % 256)]
      congr 1
      rw [Nat.mul_comm 256 a, Nat.mul_assoc, Nat.mul_comm 256 (256 ^ k)]
    omega
theorem be_add : ∀ k a q, be k (a * 256 ^ k + q) = be k q
  | 0, _, _ => rfl
  | k + 1, a, q => by
    simp only [be]
    have e : a * 256 ^ (k + 1) + q = (a * 256) * 256 ^ k + q := by rw [Nat.pow_succ, Nat.mul_comm (256 ^ k) 256, Nat.mul_assoc]
    rw [e, be_add k (a * 256) q]
    have hp : 0 < 256 ^ k := Nat.pow_pos (by decide)
    rw [Nat.mul_comm (a * 256), Nat.mul_add_div hp]
    congr 1
    omega
theorem bnum_add : ∀ (l : List Nat) (a : Nat), bnum a l = a * 256 ^ l.length + bnum 0 l
  | [], a => by simp [bnum]
  | y :: l, a => by
    simp only [bnum, List.length_cons]
    rw [bnum_add l (256 * a + y), bnum_add l (256 * 0 + y), Nat.pow_succ, Nat.add_mul]
    have e : 256 * a * 256 ^ l.length = a * (256 ^ l.length * 256) := by rw [Nat.mul_comm 256 a, Nat.mul_assoc, Nat.mul_comm 256]
    rw [e]
    simp only [Nat.mul_zero, Nat.zero_add]
    omega
theorem be_bnum : ∀ (l : List Nat), (∀ x ∈ l, x < 256) → be l.length (bnum 0 l) = l
  | [], _ => rfl
  | y :: l, h => by
    simp only [bnum, List.length_cons, be]
    have e : bnum (256 * 0 + y) l = y * 256 ^ l.length + bnum 0 l := by rw [bnum_add l (256 * 0 + y)]; simp
    have hl : bnum 0 l < 256 ^ l.length := by have := bnum_lt l 0 (fun x hx => h x (List.mem_cons_of_mem _ hx)); simpa using this
    have hp : 0 < 256 ^ l.length := Nat.pow_pos (by decide)
    have hy := h y (by simp)
    rw [e, be_add, be_bnum l (fun x hx => h x (List.mem_cons_of_mem _ hx))]
    congr 1
    rw [Nat.mul_comm y, Nat.mul_add_div hp, Nat.div_eq_of_lt hl]
    omega

theorem wide_cases (i : Nat) (h0 : 24 ≤ i) (h1 : i ≤ 27) : (i = 24 ∧ hwide i = 1) ∨ (i = 25 ∧ hwide i = 2) ∨ (i = 26 ∧ hwide i = 4) ∨ (i = 27 ∧ hwide i = 8) := by
  rcases (by omega : i = 24 ∨ i = 25 ∨ i = 26 ∨ i = 27) with rfl | rfl | rfl | rfl
  · exact .inl ⟨rfl, rfl⟩
  · exact .inr (.inl ⟨rfl, rfl⟩)
  · exact .inr (.inr (.inl ⟨rfl, rfl⟩))
  · exact .inr (.inr (.inr ⟨rfl, rfl⟩))
theorem pow2 : 256 ^ 2 = 65536 := rfl
theorem pow4 : 256 ^ 4 = 4294967296 := rfl
theorem pow8 : 256 ^ 8 = 18446744073709551616 := rfl
/-- What so many bytes hold. -/
theorem fits {n i : Nat} (hn : n < 18446744073709551616) (h0 : 24 ≤ i) (h1 : i ≤ 27) (h : hinfo n ≤ i) : n < 256 ^ hwide i := by
  have hc := hinfo_cases n
  rcases wide_cases i h0 h1 with ⟨rfl, e⟩ | ⟨rfl, e⟩ | ⟨rfl, e⟩ | ⟨rfl, e⟩ <;> rw [e]
  · omega
  · rw [pow2]; omega
  · rw [pow4]; omega
  · rw [pow8]; omega
theorem wide_lt {n i : Nat} (h0 : 24 ≤ i) (h1 : i ≤ 27) : (1 + hwide i > hsize n ↔ hinfo n < i) ∧ (1 + hwide i = hsize n ↔ hinfo n = i) := by
  unfold hsize
  have hl := hinfo_lt n
  by_cases h : hinfo n < 24
  · rw [hwide_small h]
    rcases wide_cases i h0 h1 with ⟨rfl, e⟩ | ⟨rfl, e⟩ | ⟨rfl, e⟩ | ⟨rfl, e⟩ <;> omega
  · rcases wide_cases i h0 h1 with ⟨rfl, e⟩ | ⟨rfl, e⟩ | ⟨rfl, e⟩ | ⟨rfl, e⟩ <;> rcases wide_cases (hinfo n) (by omega) (by omega) with ⟨g, f⟩ | ⟨g, f⟩ | ⟨g, f⟩ | ⟨g, f⟩ <;> omega

/-- A head in so many bytes is read. -/
theorem hrd_be (m i n : Nat) (tl : List Nat) (hm : m ≤ 6) (h0 : 24 ≤ i) (h1 : i ≤ 27) (hn : n < 256 ^ hwide i) :
    hrd ((32 * m + i) :: (be (hwide i) n ++ tl)) = ⟨m, i, n, 1 + hwide i, decide (1 + hwide i = hsize n), 0⟩ := by
  have e1 : (32 * m + i) / 32 = m := by omega
  have e2 : (32 * m + i) % 32 = i := by omega
  have e3 : (be (hwide i) n ++ tl).take (hwide i) = be (hwide i) n := by
    have hl := be_len (hwide i) n
    rw [List.take_append_of_le_length (by omega), List.take_of_length_le (by omega)]
  have h := hrd_long (x := 32 * m + i) (r := be (hwide i) n ++ tl) (by omega) (by omega) (by rw [e2, List.length_append, be_len]; omega) (by omega)
  have e4 : bnum 0 (be (hwide i) n) = n := by rw [bnum_be]; simp [Nat.mod_eq_of_lt hn]
  rw [e1, e2, e3, e4] at h
  have e5 : decide (m = 7) = false := decide_eq_false (by omega)
  rw [e5, Bool.false_or] at h
  exact h
theorem hrd_laid (m n : Nat) (tl : List Nat) (hm : m ≤ 6) (hn : n < 18446744073709551616) : hrd (hl m n ++ tl) = ⟨m, hinfo n, n, hsize n, true, 0⟩ := by
  have hlt := hinfo_lt n
  unfold hl
  rw [List.cons_append]
  by_cases h : hinfo n < 24
  · have hc := hinfo_cases n
    have e : hinfo n = n := by omega
    rw [hrd_small (by omega), e, hsize_small (by omega)]
    have e1 : (32 * m + n) / 32 = m := by omega
    have e2 : (32 * m + n) % 32 = n := by omega
    rw [e1, e2]
  · rw [hrd_be m (hinfo n) n tl hm (by omega) (by omega) (fits hn (by omega) (by omega) (Nat.le_refl _))]
    simp [hsize]
end
section
open Go.RowKit Go
/-! ### The form, plainly -/
/-- A text's form. -/
def kfm (s : ByteArray) : List Nat := hl 3 (sl s).length ++ sl s
mutual
/-- A tree's form, its entries as they stand. -/
def tfm : Tv → List Nat
  | .mk k f g n b s y l ks is =>
    if k = 1 then [246] else if k = 2 then [if f = true then 245 else 244]
    else if k = 3 then hl (if g = true then 1 else 0) n
    else if k = 4 then 251 :: be 8 b
    else if k = 5 then kfm s
    else if k = 6 then hl 2 y.length ++ y
    else if k = 7 then hl 6 42 ++ (hl 2 (1 + (lbytes l).length) ++ 0 :: lbytes l)
    else if k = 8 then hl 4 is.length ++ tfmL is
    else if k = 9 then hl 5 is.length ++ tfmK ks is
    else []
def tfmL : List Tv → List Nat
  | [] => []
  | t :: r => tfm t ++ tfmL r
/-- Entries, one key more at most. -/
def tfmK : List ByteArray → List Tv → List Nat
  | [], _ => []
  | k :: ks, [] => kfm k ++ tfmK ks []
  | k :: ks, t :: r => kfm k ++ (tfm t ++ tfmK ks r)
end
theorem tfmL_app : ∀ (a : List Tv) (v : Tv), tfmL (a ++ [v]) = tfmL a ++ tfm v
  | [], v => by simp [tfmL]
  | t :: r, v => by rw [List.cons_append, tfmL, tfmL, tfmL_app r v, List.append_assoc]
theorem tfmK_key : ∀ {ks : List ByteArray} {is : List Tv} (k : ByteArray), ks.length = is.length → tfmK (ks ++ [k]) is = tfmK ks is ++ kfm k
  | [], [], k, _ => by rw [List.nil_append, tfmK, tfmK, tfmK, List.append_nil, List.nil_append]
  | x :: r, t :: q, k, h => by
    rw [List.cons_append, tfmK, tfmK, tfmK_key k (by simpa using h), List.append_assoc, List.append_assoc]
theorem tfmK_item : ∀ {ks : List ByteArray} {is : List Tv} (v : Tv), ks.length = is.length + 1 → tfmK ks (is ++ [v]) = tfmK ks is ++ tfm v
  | [], _, _, h => by simp at h
  | [x], [], v, _ => by rw [List.nil_append, tfmK, tfmK, tfmK, tfmK, List.append_nil, List.append_nil]
  | x :: y :: r, [], v, h => by simp at h
  | x :: r, t :: q, v, h => by
    rw [List.cons_append, tfmK, tfmK, tfmK_item v (by simpa using h), List.append_assoc, List.append_assoc]

/-! ### What an item's bytes are -/
theorem head_back {r : List Nat} (hb : ∀ x ∈ r, x < 256) {want : Nat} (h : rlook want r = 0) (hs : (hrd r).s = true) :
    r.take (hrd r).u = (if (hrd r).m = 7 then (if (hrd r).i = 27 then 251 :: be 8 (hrd r).n else [224 + (hrd r).i]) else hl (hrd r).m (hrd r).n) := by
  have he := rlook_e h
  have hmay : rmay (hrd r) (rbody r) = true ∧ (hrd r).i ≠ 31 := by
    unfold rlook at h
    by_cases h20 : (hrd r).e = 20
    · rw [if_pos h20] at h; cases h
    rw [if_neg h20] at h
    by_cases h2 : (hrd r).e ≠ 0 ∨ (hrd r).i = 31
    · rw [if_pos h2] at h; cases h
    rw [if_neg h2] at h
    by_cases h3 : ((hrd r).m = 2 ∨ (hrd r).m = 3) ∧ r.length - (hrd r).u < (hrd r).n
    · rw [if_pos h3] at h; cases h
    rw [if_neg h3] at h
    by_cases h4 : rmay (hrd r) (rbody r) = false ∨ rfit want (hrd r) (rbody r) = false
    · rw [if_pos h4] at h; cases h
    refine ⟨?_, fun e => h2 (.inr e)⟩
    rcases Bool.eq_false_or_eq_true (rmay (hrd r) (rbody r)) with e | e
    · exact e
    · exact absurd (.inl e) h4
  cases r with
  | nil => cases he
  | cons x q =>
    have hx := hb x (List.mem_cons_self ..)
    have hq : ∀ z ∈ q, z < 256 := fun z hz => hb z (List.mem_cons_of_mem _ hz)
    by_cases h1 : 27 < x % 32
    · by_cases h2 : x % 32 = 31 ∧ x / 32 ≠ 0 ∧ x / 32 ≠ 1 ∧ x / 32 ≠ 6
      · exact absurd (by rw [hrd_end h2.1 h2.2]) hmay.2
      · rw [hrd_info h1 h2] at he; cases he
    · by_cases h2 : x % 32 < 24
      · have hh := hrd_small (x := x) (r := q) h2
        rw [hh] at hmay ⊢
        have ex : [x] = [32 * (x / 32) + x % 32] := by congr 1; omega
        show (x :: q).take 1 = if x / 32 = 7 then (if x % 32 = 27 then _ else [224 + x % 32]) else hl (x / 32) (x % 32)
        rw [List.take_succ_cons, List.take_zero]
        by_cases h7 : x / 32 = 7
        · rw [if_pos h7, if_neg (by omega), ex, h7]
        · rw [if_neg h7]
          have e1 : hinfo (x % 32) = x % 32 := by unfold hinfo; rw [if_pos h2]
          unfold hl
          rw [e1, hwide_small h2, ex]
          rfl
      · by_cases h3 : q.length < hwide (x % 32)
        · rw [hrd_short (by omega) (by omega) h3] at he; cases he
        · by_cases h4 : x / 32 = 7 ∧ x % 32 = 24 ∧ bnum 0 (q.take (hwide (x % 32))) < 32
          · rw [hrd_low h4.2.1 h3 h4.1 h4.2.2] at he; cases he
          · have hh := hrd_long (x := x) (r := q) (by omega) (by omega) h3 h4
            rw [hh] at hmay hs ⊢
            simp only at hs
            have hbn : be (hwide (x % 32)) (bnum 0 (q.take (hwide (x % 32)))) = q.take (hwide (x % 32)) := by
              have e := be_bnum (q.take (hwide (x % 32))) (fun z hz => hq z (List.mem_of_mem_take hz))
              have el : (q.take (hwide (x % 32))).length = hwide (x % 32) := by rw [List.length_take]; omega
              rw [el] at e
              exact e
            show (x :: q).take (1 + hwide (x % 32)) = if x / 32 = 7 then (if x % 32 = 27 then 251 :: be 8 _ else [224 + x % 32]) else hl (x / 32) _
            rw [Nat.add_comm, List.take_succ_cons]
            by_cases h7 : x / 32 = 7
            · have hkn := hmay.1
              unfold rmay at hkn
              rw [if_neg (by show ¬ x / 32 = 3; omega), if_neg (by show ¬ x / 32 = 6; omega), if_pos h7] at hkn
              have h27 : x % 32 = 27 := by
                unfold rknown at hkn
                simp at hkn
                omega
              rw [if_pos h7, if_pos h27]
              have hw8 : hwide (x % 32) = 8 := by rw [h27]; rfl
              rw [hw8] at hbn ⊢
              rw [hbn]
              congr 1
              omega
            · rw [if_neg h7]
              have e2 : decide (x / 32 = 7) = false := decide_eq_false h7
              rw [e2, Bool.false_or, decide_eq_true_iff] at hs
              have e3 := (wide_lt (n := bnum 0 (q.take (hwide (x % 32)))) (i := x % 32) (by omega) (by omega)).2.1 hs
              unfold hl
              rw [e3, hbn]
              congr 1
              omega
theorem body_len {r : List Nat} {want : Nat} (h : rlook want r = 0) (hm : (hrd r).m = 2 ∨ (hrd r).m = 3) : (rbody r).length = (hrd r).n := by
  unfold rlook at h
  by_cases h20 : (hrd r).e = 20
  · rw [if_pos h20] at h; cases h
  rw [if_neg h20] at h
  by_cases h2 : (hrd r).e ≠ 0 ∨ (hrd r).i = 31
  · rw [if_pos h2] at h; cases h
  rw [if_neg h2] at h
  by_cases h3 : ((hrd r).m = 2 ∨ (hrd r).m = 3) ∧ r.length - (hrd r).u < (hrd r).n
  · rw [if_pos h3] at h; cases h
  have h4 : ¬ r.length - (hrd r).u < (hrd r).n := fun e => h3 ⟨hm, e⟩
  unfold rbody
  rw [if_pos hm, List.length_take, List.length_drop]
  omega
/-- The bytes of an item that is taken. -/
theorem item_back {r : List Nat} (hb : ∀ x ∈ r, x < 256) {want : Nat} {full : Bool} {ks : List ByteArray} (h : rtake want full ks r = 0) :
    r.take (rused r) = (if (hrd r).m = 7 then (if (hrd r).i = 27 then 251 :: be 8 (hrd r).n else [224 + (hrd r).i]) else hl (hrd r).m (hrd r).n) ++ rbody r := by
  obtain ⟨hl, -⟩ := rtake_look h
  have hs : (hrd r).s = true := by
    unfold rtake at h
    by_cases h1 : rnest r = true ∧ full = true
    · rw [if_pos h1] at h; cases h
    rw [if_neg h1, if_neg (fun e => e hl)] at h
    by_cases h2 : (hrd r).s = false ∨ (want = 1 ∧ rrise ks (nstr (rbody r)) = false)
    · rw [if_pos h2] at h; cases h
    rcases Bool.eq_false_or_eq_true (hrd r).s with e | e
    · exact e
    · exact absurd (.inl e) h2
  have hu : rused r = (hrd r).u + (rbody r).length := rfl
  rw [hu, List.take_add, head_back hb hl hs]
  congr 1
  by_cases hm : (hrd r).m = 2 ∨ (hrd r).m = 3
  · rw [body_len hl hm]
    unfold rbody
    rw [if_pos hm]
  · unfold rbody
    rw [if_neg hm]
    rfl
end
section
open Go.RowKit Go
/-! ### What is read is a tree, and its form is what was read -/
/-- The keys of each map rise. -/
inductive Rsn : Tv → Prop
  | mk (t : Tv) (hk : ∀ (i : Nat) (s s' : ByteArray), t.ks[i]? = some s → t.ks[i + 1]? = some s' → bfr (sl s) (sl s') = true) (hi : ∀ u ∈ t.is, Rsn u) : Rsn t
structure Gd (d a : Nat) (t : Tv) : Prop where
  c : chkf t a = 0
  d : tdepth t + a ≤ d
  r : Rsn t
structure Ngd (d a more : Nat) (x : Nst) : Prop where
  lt : a < d
  k : x.k = 8 ∨ x.k = 9
  l : x.k = 8 → x.ks = []
  m : x.k = 9 → x.ks.length = x.is.length + more
  i : ∀ u ∈ x.is, Gd d (a + 1) u
  r : ∀ (i : Nat) (s s' : ByteArray), x.ks[i]? = some s → x.ks[i + 1]? = some s' → bfr (sl s) (sl s') = true
  b : ∀ s ∈ x.ks, badb s = false
def Sgd (d : Nat) : List Nst → Nat → Prop
  | [], _ => True
  | x :: q, m => Ngd d q.length m x ∧ Sgd d q 1
def npre (x : Nst) : List Nat := hl (if x.k = 8 then 4 else 5) (x.is.length + x.n) ++ (if x.k = 8 then tfmL x.is else tfmK x.ks x.is)
def spre : List Nst → List Nat
  | [] => []
  | x :: q => spre q ++ npre x
def lpre : Lab → List Nat
  | .plain => []
  | .name => hl 6 42
  | .done v => tfm v
  | .inside => []
def lmore : Lab → Nat
  | .inside => 0
  | _ => 1
structure Bk8 (b : List Nat) (d : Nat) (s : Mst) : Prop where
  t : b.take s.p = spre s.st ++ lpre s.lab
  g : Sgd d s.st (lmore s.lab)
  v : ∀ v, s.lab = .done v → Gd d s.st.length v
theorem Bk8.start (b : List Nat) (d : Nat) : Bk8 b d m0 := ⟨rfl, trivial, fun v h => by cases h⟩
theorem tdepthL_le : ∀ {l : List Tv} {n : Nat}, (∀ u ∈ l, tdepth u ≤ n) → tdepthL l ≤ n
  | [], _, _ => by rw [tdepthL]; exact Nat.zero_le _
  | t :: r, n, h => by
    rw [tdepthL]
    have h1 := h t (List.mem_cons_self ..)
    have h2 := tdepthL_le (l := r) (n := n) (fun u hu => h u (List.mem_cons_of_mem _ hu))
    omega
theorem look_may {want : Nat} {r : List Nat} (h : rlook want r = 0) : rmay (hrd r) (rbody r) = true := by
  unfold rlook at h
  by_cases h20 : (hrd r).e = 20
  · rw [if_pos h20] at h; cases h
  rw [if_neg h20] at h
  by_cases h2 : (hrd r).e ≠ 0 ∨ (hrd r).i = 31
  · rw [if_pos h2] at h; cases h
  rw [if_neg h2] at h
  by_cases h3 : ((hrd r).m = 2 ∨ (hrd r).m = 3) ∧ r.length - (hrd r).u < (hrd r).n
  · rw [if_pos h3] at h; cases h
  rw [if_neg h3] at h
  by_cases h4 : rmay (hrd r) (rbody r) = false ∨ rfit want (hrd r) (rbody r) = false
  · rw [if_pos h4] at h; cases h
  rcases Bool.eq_false_or_eq_true (rmay (hrd r) (rbody r)) with e | e
  · exact e
  · exact absurd (.inl e) h4
theorem body_none {r : List Nat} (h : ¬ ((hrd r).m = 2 ∨ (hrd r).m = 3)) : rbody r = [] := by
  unfold rbody
  rw [if_neg h]
theorem body_byte {r : List Nat} (hb : ∀ x ∈ r, x < 256) : ∀ x ∈ rbody r, x < 256 := by
  intro x hx
  unfold rbody at hx
  split at hx
  · exact hb x (List.mem_of_mem_drop (List.mem_of_mem_take hx))
  · cases hx
theorem bad0 : badb ⟨#[]⟩ = false := by kernel_rfl
theorem fin0 : finb 0 = true := by kernel_rfl
theorem hrd_m7 {r : List Nat} (hb : ∀ x ∈ r, x < 256) : (hrd r).m ≤ 7 := by
  cases r with
  | nil => decide
  | cons x q =>
    have hx := hb x (List.mem_cons_self ..)
    by_cases h1 : 27 < x % 32
    · by_cases h2 : x % 32 = 31 ∧ x / 32 ≠ 0 ∧ x / 32 ≠ 1 ∧ x / 32 ≠ 6
      · rw [hrd_end h2.1 h2.2]; show x / 32 ≤ 7; omega
      · rw [hrd_info h1 h2]; exact Nat.zero_le _
    · by_cases h2 : x % 32 < 24
      · rw [hrd_small h2]; show x / 32 ≤ 7; omega
      · by_cases h3 : q.length < hwide (x % 32)
        · rw [hrd_short (by omega) (by omega) h3]; exact Nat.zero_le _
        · by_cases h4 : x / 32 = 7 ∧ x % 32 = 24 ∧ bnum 0 (q.take (hwide (x % 32))) < 32
          · rw [hrd_low h4.2.1 h3 h4.1 h4.2.2]; exact Nat.zero_le _
          · rw [hrd_long (by omega) (by omega) h3 h4]; show x / 32 ≤ 7; omega
/-- What a leaf is. -/
theorem leaf_kind {r : List Nat} (hb : ∀ x ∈ r, x < 256) (h : rlook 0 r = 0) (h4 : (hrd r).m ≠ 4) (h5 : (hrd r).m ≠ 5) (h6 : (hrd r).m ≠ 6) (a d : Nat) (ha : a ≤ d) :
    tfm (rleaf (hrd r) (rbody r)) = (if (hrd r).m = 7 then (if (hrd r).i = 27 then 251 :: be 8 (hrd r).n else [224 + (hrd r).i]) else hl (hrd r).m (hrd r).n) ++ rbody r ∧ Gd d a (rleaf (hrd r) (rbody r)) := by
  have hmay := look_may h
  have hy := body_byte hb
  have hlen := body_len h
  have hnone := body_none (r := r)
  have h7 := hrd_m7 hb
  generalize rbody r = y at *
  generalize hrd r = hh at *
  obtain ⟨m, i, n, u, s, e⟩ := hh
  simp only at *
  have gd : ∀ t : Tv, onef t a = 0 → t.is = [] → ¬ (t.k = 8 ∨ t.k = 9) → t.ks = [] → Gd d a t := fun t h1 h2 h3 h4 => by
    refine ⟨?_, ?_, Rsn.mk t (fun i s s' hs => by rw [h4] at hs; simp at hs) (fun u hu => by rw [h2] at hu; cases hu)⟩
    · rw [chkf_eq, if_pos h1, h2, chkL]
    · rw [tdepth_eq, if_neg h3]; omega
  unfold rmay at hmay
  unfold rleaf
  by_cases m01 : m = 0 ∨ m = 1
  · simp only [m01, if_true]
    refine ⟨?_, gd _ ?_ rfl (by show ¬ ((3 : Int) = 8 ∨ (3 : Int) = 9); decide) rfl⟩
    · rw [if_neg (by omega), hnone (by omega), List.append_nil]
      unfold tfm
      simp
      rcases m01 with e | e <;> simp [e]
    · unfold onef tidyf Tv.zr Tv.cl
      simp [Tv.k, Tv.f, Tv.g, Tv.n, Tv.b, Tv.s, Tv.y, Tv.l, Tv.ks, Tv.is, fin0, bad0]
  simp only [m01, if_false]
  by_cases m2 : m = 2
  · simp only [m2, if_true]
    refine ⟨?_, gd _ ?_ rfl (by show ¬ ((6 : Int) = 8 ∨ (6 : Int) = 9); decide) rfl⟩
    · rw [if_neg (by decide), ← hlen (.inl m2)]
      unfold tfm
      simp
    · unfold onef tidyf Tv.zr Tv.cl
      simp [Tv.k, Tv.f, Tv.g, Tv.n, Tv.b, Tv.s, Tv.y, Tv.l, Tv.ks, Tv.is, fin0, bad0]
  simp only [m2, if_false]
  by_cases m3 : m = 3
  · simp only [m3, if_true] at hmay ⊢
    have hbad : badb (nstr y) = false := by simpa using hmay
    refine ⟨?_, gd _ ?_ rfl (by show ¬ ((5 : Int) = 8 ∨ (5 : Int) = 9); decide) rfl⟩
    · rw [if_neg (by decide), ← hlen (.inr m3)]
      unfold tfm kfm
      rw [sl_nstr hy]
      simp
    · unfold onef tidyf Tv.zr Tv.cl
      simp [Tv.k, Tv.f, Tv.g, Tv.n, Tv.b, Tv.s, Tv.y, Tv.l, Tv.ks, Tv.is, fin0, hbad]
  simp only [m3, if_false] at hmay ⊢
  have m7 : m = 7 := by omega
  simp only [m7] at hmay ⊢
  rw [hnone (by omega), List.append_nil]
  simp only [if_true]
  simp [rknown] at hmay
  by_cases i27 : i = 27
  · simp only [i27, if_true]
    have hf : finb n = true := by
      rcases hmay with h1 | h1
      · omega
      · exact h1.2
    refine ⟨?_, gd _ ?_ rfl (by show ¬ ((4 : Int) = 8 ∨ (4 : Int) = 9); decide) rfl⟩
    · unfold tfm
      simp
    · unfold onef tidyf Tv.zr Tv.cl
      simp [Tv.k, Tv.f, Tv.g, Tv.n, Tv.b, Tv.s, Tv.y, Tv.l, Tv.ks, Tv.is, hf, bad0]
  simp only [i27, if_false]
  have hi : i = 20 ∨ i = 21 ∨ i = 22 := by
    rcases hmay with h1 | h1
    · exact h1
    · exact absurd h1.1 i27
  by_cases i22 : i = 22
  · simp only [i22, if_true]
    refine ⟨?_, gd _ ?_ rfl (by show ¬ ((1 : Int) = 8 ∨ (1 : Int) = 9); decide) rfl⟩
    · unfold tz8 tfm
      simp
    · unfold onef tidyf Tv.zr Tv.cl tz8
      simp [Tv.k, Tv.f, Tv.g, Tv.n, Tv.b, Tv.s, Tv.y, Tv.l, Tv.ks, Tv.is, fin0, bad0]
  simp only [i22, if_false]
  refine ⟨?_, gd _ ?_ rfl (by show ¬ ((2 : Int) = 8 ∨ (2 : Int) = 9); decide) rfl⟩
  · unfold tfm
    have h20 : i = 20 ∨ i = 21 := by omega
    rcases h20 with e | e <;> simp [e]
  · unfold onef tidyf Tv.zr Tv.cl
    simp [Tv.k, Tv.f, Tv.g, Tv.n, Tv.b, Tv.s, Tv.y, Tv.l, Tv.ks, Tv.is, fin0, bad0]
end
end Go.Proofs.YtadilnmkjcmnnaaGreatDoor
