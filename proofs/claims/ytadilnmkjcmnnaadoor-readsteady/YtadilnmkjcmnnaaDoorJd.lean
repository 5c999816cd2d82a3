import Derived.Test.YtadilnmkjcmnnaaDoorJc
import Derived.Deep.QuietTactic
import Derived.BigQuiet
import Derived.Deep.RegionWith
import Derived.Laws.ResultCell
import Derived.Deep.LoopGhost
import Derived.Deep.DeepCutAuto
namespace Go.Proofs.YtadilnmkjcmnnaaDoor
section
open Go.RowKit
set_option maxRecDepth 1000000 in
theorem shortest_any (n : Nat) (w : World) (hn : n < 18446744073709551616) :
    Calls Tryd.prog 36 #[.int .u64 (n : Nat)] w fun e w' => e = .returned (.int .i64 (hinfo n : Nat)) ∧ w' = w := by
  rcases hinfo_cases n with ⟨h, e⟩ | ⟨h1, h, e⟩ | ⟨h1, h, e⟩ | ⟨h1, h, e⟩ | ⟨h1, e⟩
  · rw [e]
    have g1 : (n : Int) < 24 := by omega
    go_enter Tryd.func36, Tryd.ntmps36
    go_wp2
    go_ret
    exact ⟨rfl, rfl⟩
  · rw [e]
    have g1 : ¬ (n : Int) < 24 := by omega
    have g2 : (n : Int) ≤ 255 := by omega
    go_enter Tryd.func36, Tryd.ntmps36
    go_wp2
    go_ret
    exact ⟨rfl, rfl⟩
  · rw [e]
    have g1 : ¬ (n : Int) < 24 := by omega
    have g2 : ¬ (n : Int) ≤ 255 := by omega
    have g3 : (n : Int) ≤ 65535 := by omega
    go_enter Tryd.func36, Tryd.ntmps36
    go_wp2
    go_ret
    exact ⟨rfl, rfl⟩
  · rw [e]
    have g1 : ¬ (n : Int) < 24 := by omega
    have g2 : ¬ (n : Int) ≤ 255 := by omega
    have g3 : ¬ (n : Int) ≤ 65535 := by omega
    have g4 : (n : Int) ≤ 4294967295 := by omega
    go_enter Tryd.func36, Tryd.ntmps36
    go_wp2
    go_ret
    exact ⟨rfl, rfl⟩
  · rw [e]
    have g1 : ¬ (n : Int) < 24 := by omega
    have g2 : ¬ (n : Int) ≤ 255 := by omega
    have g3 : ¬ (n : Int) ≤ 65535 := by omega
    have g4 : ¬ (n : Int) ≤ 4294967295 := by omega
    go_enter Tryd.func36, Tryd.ntmps36
    go_wp2
    go_ret
    exact ⟨rfl, rfl⟩

set_option maxRecDepth 1000000 in
theorem behind_any (i : Nat) (w : World) (hi : i < 32) :
    Calls Tryd.prog 29 #[.int .i64 (i : Nat)] w fun e w' => e = .returned (.int .i64 (hwide i : Nat)) ∧ w' = w := by
  by_cases h27 : i = 27
  · subst h27
    go_enter Tryd.func29, Tryd.ntmps29
    go_wp2
    go_ret
    exact ⟨rfl, rfl⟩
  · by_cases h26 : i = 26
    · subst h26
      go_enter Tryd.func29, Tryd.ntmps29
      go_wp2
      go_ret
      exact ⟨rfl, rfl⟩
    · by_cases h25 : i = 25
      · subst h25
        go_enter Tryd.func29, Tryd.ntmps29
        go_wp2
        go_ret
        exact ⟨rfl, rfl⟩
      · by_cases h24 : i = 24
        · subst h24
          go_enter Tryd.func29, Tryd.ntmps29
          go_wp2
          go_ret
          exact ⟨rfl, rfl⟩
        · have e : hwide i = 0 := by unfold hwide; rw [if_neg h24, if_neg h25, if_neg h26, if_neg h27]
          rw [e]
          have g27 : ((i : Int) == 27) = false := beq_eq_false_iff_ne.2 (by omega)
          have g26 : ((i : Int) == 26) = false := beq_eq_false_iff_ne.2 (by omega)
          have g25 : ((i : Int) == 25) = false := beq_eq_false_iff_ne.2 (by omega)
          have g24 : ((i : Int) == 24) = false := beq_eq_false_iff_ne.2 (by omega)
          go_enter Tryd.func29, Tryd.ntmps29
          go_wp2
          go_ret
          exact ⟨rfl, rfl⟩

/-- There are heads of this major and info. -/
def hmay (m i : Nat) : Prop := ¬ 27 < i ∨ (i = 31 ∧ m ≠ 0 ∧ m ≠ 1 ∧ m ≠ 6)
instance (m i : Nat) : Decidable (hmay m i) := by unfold hmay; infer_instance

set_option maxRecDepth 1000000 in
theorem mayBe_any (m i : Nat) (w : World) (hm : m ≤ 7) (hi : i ≤ 31) :
    Calls Tryd.prog 28 #[.int .i64 (m : Nat), .int .i64 (i : Nat)] w fun e w' => e = .returned (.bool (decide (hmay m i))) ∧ w' = w := by
  by_cases h27 : i ≤ 27
  · rw [decide_eq_true (show hmay m i from .inl (by omega))]
    have g1 : (i : Int) ≤ 27 := by omega
    go_enter Tryd.func28, Tryd.ntmps28
    go_wp2
    go_ret
    exact ⟨rfl, rfl⟩
  · have g1 : ¬ (i : Int) ≤ 27 := by omega
    by_cases h31 : i < 31
    · rw [decide_eq_false (show ¬ hmay m i by unfold hmay; omega)]
      have g2 : (i : Int) < 31 := by omega
      go_enter Tryd.func28, Tryd.ntmps28
      go_wp2
      go_ret
      exact ⟨rfl, rfl⟩
    · have g2 : ¬ (i : Int) < 31 := by omega
      by_cases h0 : m = 0
      · rw [decide_eq_false (show ¬ hmay m i by unfold hmay; omega)]
        subst h0
        go_enter Tryd.func28, Tryd.ntmps28
        go_wp2
        go_ret
        exact ⟨rfl, rfl⟩
      · have q0 : ((m : Int) != 0) = true := bne_iff_ne.2 (by omega)
        by_cases h1 : m = 1
        · rw [decide_eq_false (show ¬ hmay m i by unfold hmay; omega)]
          subst h1
          go_enter Tryd.func28, Tryd.ntmps28
          go_wp2
          go_ret
          exact ⟨rfl, rfl⟩
        · have q1 : ((m : Int) != 1) = true := bne_iff_ne.2 (by omega)
          by_cases h6 : m = 6
          · rw [decide_eq_false (show ¬ hmay m i by unfold hmay; omega)]
            subst h6
            go_enter Tryd.func28, Tryd.ntmps28
            go_wp2
            go_ret
            exact ⟨rfl, rfl⟩
          · have q6 : ((m : Int) != 6) = true := bne_iff_ne.2 (by omega)
            rw [decide_eq_true (show hmay m i by unfold hmay; omega)]
            go_enter Tryd.func28, Tryd.ntmps28
            go_wp2
            go_ret
            exact ⟨rfl, rfl⟩

set_option maxRecDepth 1000000 in
theorem size_any (n : Nat) (w : World) (hn : n < 18446744073709551616) :
    Calls Tryd.prog 31 #[.int .u64 (n : Nat)] w fun e w' => e = .returned (.int .i64 (hsize n : Nat)) ∧ w' = w := by
  have HN := hide hn
  clear hn
  go_enter Tryd.func31, Tryd.ntmps31
  go_wp2_with fail
  refine (shortest_any n _ HN.out).mono ?_
  rintro e w1 ⟨rfl, rfl⟩
  go_wp2_with fail
  refine (behind_any _ _ (by have := hinfo_lt n; omega)).mono ?_
  rintro e w1 ⟨rfl, rfl⟩
  have h8 := hwide_le (hinfo n)
  have HS : Hid (((hsize n : Nat) : Int) = 1 + (hwide (hinfo n) : Int)) := by show _ = _; unfold hsize; omega
  generalize hwide (hinfo n) = W at *
  go_wp2
  go_ret
  exact ⟨by rw [HS.out]; rfl, rfl⟩
end
section
open Go.RowKit
theorem made_zero (k : Nat) : (madeCells (Value.int .u8 0).cells (k * 1)).toList = bv (List.replicate k 0) := by
  have hc : (Value.int .u8 0).cells = #[.int .u8 0] := rfl
  rw [hc]
  apply List.ext_getElem?
  intro j
  by_cases hj : j < k
  · rw [bv_get (by simpa using hj)]
    have h1 : j % 1 = 0 := Nat.mod_one j
    simp [madeCells, hj, List.getD, h1]
  · simp [madeCells, bv, hj]
theorem be_set (k j n : Nat) (h : j < k) : (bv (List.replicate (k - j) 0 ++ be j n)).set (k - 1 - j) (.int .u8 ((n / 256 ^ j % 256 : Nat) : Int)) = bv (List.replicate (k - (j + 1)) 0 ++ be (j + 1) n) := by
  have e : k - j = (k - (j + 1)) + 1 := by omega
  have e2 : k - 1 - j = k - (j + 1) := by omega
  rw [e, e2, List.replicate_succ', List.append_assoc]
  simp only [bv, List.map_append, be]
  rw [List.set_append_right _ _ (by simp)]
  simp
theorem be_at (k j n : Nat) (h : j < k) : (bv (List.replicate (k - j) 0 ++ be j n))[k - 1 - j]? = some (.int .u8 ((0 : Nat) : Int)) := by
  rw [bv_get (by simp [be_len]; omega)]
  simp only [List.getD]
  rw [List.getElem?_append_left (by simp; omega)]
  rw [List.getElem?_replicate, if_pos (by omega)]
  rfl
end
section
open Go.RowKit
theorem u64_shor (N y : Nat) (hN : N < 72057594037927936) (hy : y < 256) : bits .or .u64 ((N : Int) * 256) (y : Int) = ((256 * N + y : Nat) : Int) := by
  have e : (N : Int) * 256 = ((2 ^ 8 * N : Nat) : Int) := by omega
  rw [e, u64_or_nat _ _ (by omega) (by omega), ← Nat.two_pow_add_eq_or_of_lt (i := 8) hy]
theorem i64_or_nat (a b : Nat) (ha : a < 9223372036854775808) (hb : b < 9223372036854775808) : bits .or .i64 (a : Int) (b : Int) = ((a ||| b : Nat) : Int) := by
  have hx : a ||| b < 2 ^ 63 := Nat.or_lt_two_pow (by omega) (by omega)
  show IntKind.i64.wrap ((BitVec.ofInt 64 (a : Int) ||| BitVec.ofInt 64 (b : Int)).toNat : Int) = _
  rw [BitVec.toNat_or, ofInt_u64 a (by omega), ofInt_u64 b (by omega), IntKind.wrap_i64]
  omega
theorem first_byte (M i : Nat) (hM : M ≤ 7) (hi : i < 32) : bits .or .i64 ((M : Int) * 32) (i : Int) % 256 = ((32 * M + i : Nat) : Int) := by
  have e : (M : Int) * 32 = ((2 ^ 5 * M : Nat) : Int) := by omega
  rw [e, i64_or_nat _ _ (by omega) (by omega), ← Nat.two_pow_add_eq_or_of_lt (i := 5) (by omega)]
  omega
theorem own_nine (w : World) (x : Nat) (o : Obj) : ((w.alloc (.cells #[.int .u8 ((x : Nat) : Int), .int .u8 0, .int .u8 0, .int .u8 0, .int .u8 0, .int .u8 0, .int .u8 0, .int .u8 0, .int .u8 0] 5)).alloc o).ownsRow w.heap.size 5 1 (.slice (some ⟨w.heap.size, 0, none⟩) 1 9) 1 (bv [x]) :=
  ⟨rfl, .inr ⟨w.heap.size, 9, _, rfl, Nat.le_refl _, blk_alloc o (heap_alloc_new w _), by decide, by decide, rfl, rfl⟩⟩
theorem be_get : ∀ k n j, j < k → (be k n).getD j 0 = n / 256 ^ (k - 1 - j) % 256
  | 0, _, _, h => by omega
  | k + 1, n, 0, _ => by simp [be]
  | k + 1, n, j + 1, h => by
    have e : k + 1 - 1 - (j + 1) = k - 1 - j := by omega
    rw [e, ← be_get k n j (by omega)]
    simp [be]
set_option maxRecDepth 1000000 in
set_option maxHeartbeats 400000 in
theorem argument_any (i : Nat) (w : World) (v : Value) (xs : List Nat) (hi : i ≤ 31) (hsl : BSl w v xs) (h8 : xs.length ≤ 8) :
    Calls Tryd.prog 30 #[.int .i64 (i : Nat), v] w fun e w' => e = .returned (.int .u64 (if i < 24 then i else bnum 0 xs : Nat)) ∧ w' = w := by
  by_cases h24 : i < 24
  · rw [if_pos h24]
    have g : (i : Int) < 24 := by omega
    obtain ⟨⟨a, cap, rfl, hn, hc⟩, hmax, hb⟩ := hsl
    clear hn hc hb
    go_enter Tryd.func30, Tryd.ntmps30
    go_wp2
    go_ret
    exact ⟨rfl, rfl⟩
  · rw [if_neg h24]
    have g : ¬ (i : Int) < 24 := by omega
    have HS := hide hsl
    obtain ⟨⟨a, cap, rfl, hn, hc⟩, hmax, hb⟩ := hsl
    clear hn hc hb
    go_enter Tryd.func30, Tryd.ntmps30
    go_wp2
    go_loopw [5, 14] (fun nn k wr => ∃ j : Nat, j ≤ xs.length ∧ k = .int .i64 (j : Nat) ∧ nn = .int .u64 (bnum 0 (xs.take j) : Nat) ∧ wr = w) (fun _ k _ => (xs.length : Int).toNat - (intOf k).toNat)
    case atStart => exact ⟨0, Nat.zero_le _, rfl, rfl, rfl⟩
    case round =>
      obtain ⟨j, hj, rfl, rfl, rfl⟩ := hrel
      by_cases hlt : j < xs.length
      · have hlt' : (j : Int) < (xs.length : Int) := by omega
        obtain ⟨⟨a', cap', hv, hn, hc⟩, hm2, hb⟩ := HS.out
        injection hv with hv1 hv2 hv3
        subst hv1
        subst hv3
        rcases hc with hc | ⟨b, off, rfl, hc⟩
        · subst hc; simp at hlt
        have c := hc j hlt
        have hy : xs.getD j 0 < 256 := getD_lt hb j
        have hN : bnum 0 (xs.take j) < 72057594037927936 := by
          have h1 := bnum_lt (xs.take j) 0 (fun z hz => hb z (List.mem_of_mem_take hz))
          have h2 : (xs.take j).length ≤ 7 := by rw [List.length_take]; omega
          have h3 : 256 ^ (xs.take j).length ≤ 256 ^ 7 := Nat.pow_le_pow_right (by decide) h2
          simp at h1 h3; omega
        have HST : Hid (bnum 0 (xs.take (j + 1)) = 256 * bnum 0 (xs.take j) + xs.getD j 0) := by
          show _ = _
          rw [take_snoc xs j hlt, bnum_snoc]
        have HU := hide (u64_shor _ _ hN hy)
        clear hc hb hn hm2 HS
        generalize bnum 0 (xs.take j) = N at *
        generalize xs.getD j 0 = y at *
        go_wp2
        go_roundw
        case rel => exact ⟨j + 1, by omega, by go_num, by rw [HST.out, ← HU.out], trivial⟩
        case measure => simp [intOf]; omega
      · have hlt' : ¬ (j : Int) < (xs.length : Int) := by omega
        have e : xs.take j = xs := List.take_of_length_le (by omega)
        rw [e]
        go_wp2
        go_ret
        exact ⟨rfl, rfl⟩
end
section
open Go.RowKit
theorem below_set1 {A : Nat} {w wc : World} (h : Below A w wc) (b j : Nat) (hb : A ≤ b) (v : Value) : Below A w (wc.setCell ⟨b, j, none⟩ v) := h.setCell hb v

/-- The block of a head in memory. -/
def PH (w : World) (P : Nat) (m i n u : Nat) (s : Bool) : Prop := w.heap[P]? = some (.cells #[.int .i64 (m : Nat), .int .i64 (i : Nat), .int .u64 (n : Nat), .int .i64 (u : Nat), .bool s] 52 (0, 0))

theorem ph_used {w : World} {P m i n s : Nat} (h : PH w P m i n 0 false) : PH (w.setCell ⟨P, 3, none⟩ (.int .i64 (1 + (s : Int)))) P m i n (1 + s) false := by
  have h2 := blk_set 3 (.int .i64 (1 + (s : Int))) h
  have e : (1 + (s : Int)) = ((1 + s : Nat) : Int) := by omega
  rw [e] at h2 ⊢
  exact h2
theorem ph_arg {w : World} {b off L cap W P x : Nat} {r : List Nat} (h : BSl w (.slice (some ⟨b, off, none⟩) L cap) (x :: r)) (hl : ¬ r.length < W) (hb : ¬ b = P) (u : Value) : BSl (w.setCell ⟨P, 3, none⟩ u) (.slice (some ⟨b, off + 1, none⟩) W (cap - 1)) (r.take W) := by
  obtain ⟨⟨a, cap', hv, hn, hc⟩, hmax, hby⟩ := h
  injection hv with h1 h2 h3
  subst h1
  subst h3
  have hlen : (x :: r).length = r.length + 1 := rfl
  have ht : (r.take W).length = W := by rw [List.length_take]; omega
  refine ⟨⟨_, cap - 1, by rw [ht], ⟨by rw [ht]; omega, fun h => by cases h⟩, .inr ⟨b, off + 1, rfl, fun j hj => ?_⟩⟩, by rw [ht]; omega, fun z hz => hby z (List.mem_cons_of_mem _ (List.mem_of_mem_take hz))⟩
  rcases hc with hc | ⟨b', off', e, hc⟩
  · cases hc
  · injection e with e
    injection e with e1 e2 e3
    subst e1
    subst e2
    have hq := hc (j + 1) (by omega)
    have e : off + (j + 1) = off + 1 + j := by omega
    rw [e] at hq
    have hg : (x :: r).getD (j + 1) 0 = (r.take W).getD j 0 := by
      simp only [List.getD_eq_getElem?_getD, List.getElem?_cons_succ]
      rw [List.getElem?_take_of_lt (by omega)]
    rw [hg] at hq
    refine (World.cell?_of_block ?_).trans hq
    exact Below.heap_setCell w ⟨P, 3, none⟩ u b hb

def harg (i : Nat) (r : List Nat) : Nat := if i < 24 then i else bnum 0 (r.take (hwide i))
theorem harg_lt (i : Nat) (r : List Nat) (hi : i ≤ 31) (hb : ∀ z ∈ r, z < 256) : harg i r < 18446744073709551616 := by
  unfold harg
  split
  · omega
  · have h1 := bnum_lt (r.take (hwide i)) 0 (fun z hz => hb z (List.mem_of_mem_take hz))
    have h2 : (r.take (hwide i)).length ≤ 8 := by rw [List.length_take]; have := hwide_le i; omega
    have h3 : 256 ^ (r.take (hwide i)).length ≤ 256 ^ 8 := Nat.pow_le_pow_right (by decide) h2
    simp at h1 h3; omega
theorem hsize_small {n : Nat} (h : n < 24) : hsize n = 1 := by
  have := hinfo_cases n
  have e : hinfo n = n := by omega
  unfold hsize
  rw [e, hwide_small h]
theorem hwide31 : hwide 31 = 0 := rfl
theorem hrd_not {x : Nat} {r : List Nat} (h : ¬ hmay (x / 32) (x % 32)) : hrd (x :: r) = .bad 21 := by
  unfold hmay at h
  exact hrd_info (by omega) (by omega)
theorem hrd_few {x : Nat} {r : List Nat} (h : hmay (x / 32) (x % 32)) (hl : r.length < hwide (x % 32)) : hrd (x :: r) = .bad 20 := by
  unfold hmay at h
  have h24 : 24 ≤ x % 32 := by
    by_cases h' : x % 32 < 24
    · rw [hwide_small h'] at hl; omega
    · omega
  have h27 : x % 32 ≤ 27 := by
    by_cases h' : x % 32 = 31
    · rw [h', hwide31] at hl; omega
    · omega
  exact hrd_short h24 h27 hl
theorem hrd_two {x : Nat} {r : List Nat} (hl : ¬ r.length < hwide (x % 32)) (hm : x / 32 = 7) (hi : x % 32 = 24) (hn : harg (x % 32) r < 32) : hrd (x :: r) = .bad 21 := by
  unfold harg at hn
  rw [if_neg (by omega)] at hn
  exact hrd_low hi hl hm hn
theorem hrd_all {x : Nat} {r : List Nat} (h : hmay (x / 32) (x % 32)) (hl : ¬ r.length < hwide (x % 32)) (hn : ¬ (x / 32 = 7 ∧ x % 32 = 24 ∧ harg (x % 32) r < 32)) :
    hrd (x :: r) = ⟨x / 32, x % 32, harg (x % 32) r, 1 + hwide (x % 32), decide (x % 32 = 31) || (decide (x / 32 = 7) || decide (1 + hwide (x % 32) = hsize (harg (x % 32) r))), 0⟩ := by
  unfold hmay at h
  by_cases h24 : x % 32 < 24
  · rw [hrd_small h24]
    have e : harg (x % 32) r = x % 32 := by unfold harg; rw [if_pos h24]
    rw [e, hwide_small h24, hsize_small h24]
    simp
  · by_cases h31 : x % 32 = 31
    · rw [hrd_end h31 (by omega)]
      have e : harg (x % 32) r = 0 := by unfold harg; rw [if_neg h24, h31, hwide31]; rfl
      rw [e, h31, hwide31]
      simp
    · have e : harg (x % 32) r = bnum 0 (r.take (hwide (x % 32))) := by unfold harg; rw [if_neg h24]
      rw [e] at hn ⊢
      rw [hrd_long (by omega) (by omega) hl hn, decide_eq_false h31, Bool.false_or]
end
end Go.Proofs.YtadilnmkjcmnnaaDoor
