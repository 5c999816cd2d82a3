import Derived.Test.YtnkghcndaafmoaaGreatDoorJqk
import Derived.Test.YtnkghcndaafmoaaGreatDoorJqa
import Derived.Test.YtnkghcndaafmoaaGreatDoorJql
namespace Go.Proofs.YtnkghcndaafmoaaGreatDoor
section
open Go.RowKit
theorem rot_or (x n : Nat) (hx : x < 4294967296) (hn : n ≤ 32) (A B : Int) (hA : A = ((x * 2 ^ (32 - n) % 4294967296 : Nat) : Int)) (hB : B = ((x / 2 ^ n : Nat) : Int)) : bits .or .u32 A B = (rt x n : Nat) := by
  subst hA
  subst hB
  have he : 2 ^ n * 2 ^ (32 - n) = 4294967296 := by rw [← Nat.pow_add]; have : n + (32 - n) = 32 := by omega
                                                    rw [this]
  have hp : 0 < 2 ^ n := Nat.pow_pos (by decide)
  have h1 : x / 2 ^ n < 2 ^ (32 - n) := by rw [Nat.div_lt_iff_lt_mul hp, Nat.mul_comm, he]; exact hx
  have h2 : x * 2 ^ (32 - n) % 4294967296 = 2 ^ (32 - n) * (x % 2 ^ n) := by
    rw [← he, Nat.mul_mod_mul_right, Nat.mul_comm]
  have h3 : x * 2 ^ (32 - n) % 4294967296 < 4294967296 := Nat.mod_lt _ (by decide)
  have h4 : x / 2 ^ n < 4294967296 := Nat.lt_of_le_of_lt (Nat.div_le_self _ _) hx
  rw [u32_or_nat _ _ h3 h4, h2, ← Nat.two_pow_add_eq_or_of_lt h1]
  unfold rt
  rw [Nat.add_comm, Nat.mul_comm]

set_option maxRecDepth 1000000 in
theorem rot_any (x n : Nat) (w : World) (hx : x < 4294967296) (hn : n = 2 ∨ n = 6 ∨ n = 7 ∨ n = 11 ∨ n = 13 ∨ n = 17 ∨ n = 18 ∨ n = 19 ∨ n = 22 ∨ n = 25) :
    Calls Tryz.prog 234 #[.int .u32 (x : Nat), .int .i64 (-(n : Int))] w fun e w' => e = .returned (.int .u32 (rt x n : Nat)) ∧ w' = w := by
  rcases hn with rfl | rfl | rfl | rfl | rfl | rfl | rfl | rfl | rfl | rfl
  · have hf : bits .and .u64 (IntKind.u64.wrap (-2)) 31 = 30 := by decide
    have ho : bits .or .u32 ((x : Int) * 1073741824 % 4294967296) ((x : Int) / 4) = (rt x 2 : Nat) := rot_or x 2 hx (by decide) _ _ (by omega) (by omega)
    go_enter Tryz.func234, Tryz.ntmps234
    go_wp2_with fail
    go_ret
    exact ⟨rfl, rfl⟩
  · have hf : bits .and .u64 (IntKind.u64.wrap (-6)) 31 = 26 := by decide
    have ho : bits .or .u32 ((x : Int) * 67108864 % 4294967296) ((x : Int) / 64) = (rt x 6 : Nat) := rot_or x 6 hx (by decide) _ _ (by omega) (by omega)
    go_enter Tryz.func234, Tryz.ntmps234
    go_wp2_with fail
    go_ret
    exact ⟨rfl, rfl⟩
  · have hf : bits .and .u64 (IntKind.u64.wrap (-7)) 31 = 25 := by decide
    have ho : bits .or .u32 ((x : Int) * 33554432 % 4294967296) ((x : Int) / 128) = (rt x 7 : Nat) := rot_or x 7 hx (by decide) _ _ (by omega) (by omega)
    go_enter Tryz.func234, Tryz.ntmps234
    go_wp2_with fail
    go_ret
    exact ⟨rfl, rfl⟩
  · have hf : bits .and .u64 (IntKind.u64.wrap (-11)) 31 = 21 := by decide
    have ho : bits .or .u32 ((x : Int) * 2097152 % 4294967296) ((x : Int) / 2048) = (rt x 11 : Nat) := rot_or x 11 hx (by decide) _ _ (by omega) (by omega)
    go_enter Tryz.func234, Tryz.ntmps234
    go_wp2_with fail
    go_ret
    exact ⟨rfl, rfl⟩
  · have hf : bits .and .u64 (IntKind.u64.wrap (-13)) 31 = 19 := by decide
    have ho : bits .or .u32 ((x : Int) * 524288 % 4294967296) ((x : Int) / 8192) = (rt x 13 : Nat) := rot_or x 13 hx (by decide) _ _ (by omega) (by omega)
    go_enter Tryz.func234, Tryz.ntmps234
    go_wp2_with fail
    go_ret
    exact ⟨rfl, rfl⟩
  · have hf : bits .and .u64 (IntKind.u64.wrap (-17)) 31 = 15 := by decide
    have ho : bits .or .u32 ((x : Int) * 32768 % 4294967296) ((x : Int) / 131072) = (rt x 17 : Nat) := rot_or x 17 hx (by decide) _ _ (by omega) (by omega)
    go_enter Tryz.func234, Tryz.ntmps234
    go_wp2_with fail
    go_ret
    exact ⟨rfl, rfl⟩
  · have hf : bits .and .u64 (IntKind.u64.wrap (-18)) 31 = 14 := by decide
    have ho : bits .or .u32 ((x : Int) * 16384 % 4294967296) ((x : Int) / 262144) = (rt x 18 : Nat) := rot_or x 18 hx (by decide) _ _ (by omega) (by omega)
    go_enter Tryz.func234, Tryz.ntmps234
    go_wp2_with fail
    go_ret
    exact ⟨rfl, rfl⟩
  · have hf : bits .and .u64 (IntKind.u64.wrap (-19)) 31 = 13 := by decide
    have ho : bits .or .u32 ((x : Int) * 8192 % 4294967296) ((x : Int) / 524288) = (rt x 19 : Nat) := rot_or x 19 hx (by decide) _ _ (by omega) (by omega)
    go_enter Tryz.func234, Tryz.ntmps234
    go_wp2_with fail
    go_ret
    exact ⟨rfl, rfl⟩
  · have hf : bits .and .u64 (IntKind.u64.wrap (-22)) 31 = 10 := by decide
    have ho : bits .or .u32 ((x : Int) * 1024 % 4294967296) ((x : Int) / 4194304) = (rt x 22 : Nat) := rot_or x 22 hx (by decide) _ _ (by omega) (by omega)
    go_enter Tryz.func234, Tryz.ntmps234
    go_wp2_with fail
    go_ret
    exact ⟨rfl, rfl⟩
  · have hf : bits .and .u64 (IntKind.u64.wrap (-25)) 31 = 7 := by decide
    have ho : bits .or .u32 ((x : Int) * 128 % 4294967296) ((x : Int) / 33554432) = (rt x 25 : Nat) := rot_or x 25 hx (by decide) _ _ (by omega) (by omega)
    go_enter Tryz.func234, Tryz.ntmps234
    go_wp2_with fail
    go_ret
    exact ⟨rfl, rfl⟩

set_option maxRecDepth 1000000 in
theorem turn_any (x n : Nat) (w : World) (hx : x < 4294967296) (hn : n = 2 ∨ n = 6 ∨ n = 7 ∨ n = 11 ∨ n = 13 ∨ n = 17 ∨ n = 18 ∨ n = 19 ∨ n = 22 ∨ n = 25) :
    Calls Tryz.prog 233 #[.int .u32 (x : Nat), .int .i64 (n : Nat)] w fun e w' => e = .returned (.int .u32 (rt x n : Nat)) ∧ w' = w := by
  have hn' : n < 32 := by omega
  go_enter Tryz.func233, Tryz.ntmps233
  go_wp2_with fail
  refine (rot_any x n w hx hn).mono ?_
  rintro e w' ⟨rfl, rfl⟩
  go_wp2_with fail
  go_ret
  exact ⟨rfl, rfl⟩

set_option maxRecDepth 1000000 in
theorem smallS0_any (x : Nat) (w : World) (hx : x < 4294967296) :
    Calls Tryz.prog 232 #[.int .u32 (x : Nat)] w fun e w' => e = .returned (.int .u32 (ls0 x : Nat)) ∧ w' = w := by
  obtain ⟨A3, A4, e1, e2, _, e4⟩ := ls0_bits x hx
  rw [e4]
  go_enter Tryz.func232, Tryz.ntmps232
  go_wp2_with fail
  refine (turn_any x 7 w hx (by decide)).mono ?_
  rintro e w' ⟨rfl, rfl⟩
  go_wp2_with fail
  refine (turn_any x 18 w' hx (by decide)).mono ?_
  rintro e w' ⟨rfl, rfl⟩
  go_wp2_with fail
  go_ret
  exact ⟨rfl, rfl⟩

set_option maxRecDepth 1000000 in
theorem smallS1_any (x : Nat) (w : World) (hx : x < 4294967296) :
    Calls Tryz.prog 231 #[.int .u32 (x : Nat)] w fun e w' => e = .returned (.int .u32 (ls1 x : Nat)) ∧ w' = w := by
  obtain ⟨A3, A4, e1, e2, _, e4⟩ := ls1_bits x hx
  rw [e4]
  go_enter Tryz.func231, Tryz.ntmps231
  go_wp2_with fail
  refine (turn_any x 17 w hx (by decide)).mono ?_
  rintro e w' ⟨rfl, rfl⟩
  go_wp2_with fail
  refine (turn_any x 19 w' hx (by decide)).mono ?_
  rintro e w' ⟨rfl, rfl⟩
  go_wp2_with fail
  go_ret
  exact ⟨rfl, rfl⟩

set_option maxRecDepth 1000000 in
theorem bigS0_any (x : Nat) (w : World) (hx : x < 4294967296) :
    Calls Tryz.prog 227 #[.int .u32 (x : Nat)] w fun e w' => e = .returned (.int .u32 (us0 x : Nat)) ∧ w' = w := by
  obtain ⟨A3, A4, e1, e2, _, e4⟩ := us0_bits x hx
  rw [e4]
  go_enter Tryz.func227, Tryz.ntmps227
  go_wp2_with fail
  refine (turn_any x 2 w hx (by decide)).mono ?_
  rintro e w' ⟨rfl, rfl⟩
  go_wp2_with fail
  refine (turn_any x 13 w' hx (by decide)).mono ?_
  rintro e w' ⟨rfl, rfl⟩
  go_wp2_with fail
  refine (turn_any x 22 w' hx (by decide)).mono ?_
  rintro e w' ⟨rfl, rfl⟩
  go_wp2_with fail
  go_ret
  exact ⟨rfl, rfl⟩

set_option maxRecDepth 1000000 in
theorem bigS1_any (x : Nat) (w : World) (hx : x < 4294967296) :
    Calls Tryz.prog 226 #[.int .u32 (x : Nat)] w fun e w' => e = .returned (.int .u32 (us1 x : Nat)) ∧ w' = w := by
  obtain ⟨A3, A4, e1, e2, _, e4⟩ := us1_bits x hx
  rw [e4]
  go_enter Tryz.func226, Tryz.ntmps226
  go_wp2_with fail
  refine (turn_any x 6 w hx (by decide)).mono ?_
  rintro e w' ⟨rfl, rfl⟩
  go_wp2_with fail
  refine (turn_any x 11 w' hx (by decide)).mono ?_
  rintro e w' ⟨rfl, rfl⟩
  go_wp2_with fail
  refine (turn_any x 25 w' hx (by decide)).mono ?_
  rintro e w' ⟨rfl, rfl⟩
  go_wp2_with fail
  go_ret
  exact ⟨rfl, rfl⟩
end
section
open Go.RowKit
def digs : Nat → Nat → List Nat
  | 0, _ => []
  | f + 1, n => if n < 128 then [n] else (n % 128 + 128) :: digs f (n / 128)

theorem digs_small {f n : Nat} (h : n < 128) : digs (f + 1) n = [n] := by simp [digs, h]
theorem digs_big {f n : Nat} (h : 128 ≤ n) : digs (f + 1) n = (n % 128 + 128) :: digs f (n / 128) := by
  have : ¬ n < 128 := by omega
  simp [digs, this]
theorem fuel_down {f n : Nat} (h : 128 ≤ n) (hf : n < 128 ^ (f + 1)) : ∃ g, f = g + 1 ∧ n / 128 < 128 ^ (g + 1) := by
  match f, hf with
  | 0, hf => simp at hf; omega
  | g + 1, hf => exact ⟨g, rfl, by rw [Nat.pow_succ] at hf; exact Nat.div_lt_of_lt_mul (by omega)⟩
theorem digs_len : ∀ f n, (digs f n).length ≤ f
  | 0, _ => by simp [digs]
  | f + 1, n => by
    unfold digs; split
    · simp
    · have := digs_len f (n / 128); simp; omega
end
section
open Go.RowKit
def rd : Nat → Nat → List Nat → Nat × Nat × Nat
  | k, _, [] => if k = 9 then (0, 0, 11) else (0, 0, 10)
  | k, m, x :: r => if k = 9 then (0, 0, 11) else if 128 ≤ x then rd (k + 1) (m + x % 128 * 128 ^ k) r else if x = 0 ∧ 0 < k then (0, 0, 12) else (m + x % 128 * 128 ^ k, k + 1, 0)
end
section
open Go.RowKit
def dnum (xs : List Nat) : Nat × Nat × Nat := if (rd 0 0 xs).2.2 = 0 then rd 0 0 xs else (0, 0, if (rd 0 0 xs).2.2 = 10 then 32 else 33)
end
section
open Go.RowKit
def dread (xs : List Nat) : Nat × List Nat × Nat × Nat :=
  if (dnum xs).2.2 ≠ 0 then (0, [], 0, (dnum xs).2.2)
  else if (dnum (xs.drop (dnum xs).2.1)).2.2 ≠ 0 then (0, [], 0, (dnum (xs.drop (dnum xs).2.1)).2.2)
  else if (dnum xs).1 ≠ 18 ∧ (dnum xs).1 ≠ 0 then (0, [], 0, 30)
  else if ((dnum xs).1 = 18 ∧ (dnum (xs.drop (dnum xs).2.1)).1 ≠ 32) ∨ ((dnum xs).1 = 0 ∧ 64 < (dnum (xs.drop (dnum xs).2.1)).1) then (0, [], 0, 31)
  else if xs.length - ((dnum xs).2.1 + (dnum (xs.drop (dnum xs).2.1)).2.1) < (dnum (xs.drop (dnum xs).2.1)).1 then (0, [], 0, 32)
  else ((dnum xs).1, (xs.drop ((dnum xs).2.1 + (dnum (xs.drop (dnum xs).2.1)).2.1)).take (dnum (xs.drop (dnum xs).2.1)).1, (dnum xs).2.1 + (dnum (xs.drop (dnum xs).2.1)).2.1 + (dnum (xs.drop (dnum xs).2.1)).1, 0)

theorem dread_rest {xs : List Nat} {hn u : Nat} (h : dnum xs = (hn, u, 0)) : 
    ((dnum (xs.drop u)).2.2 ≠ 0 → dread xs = (0, [], 0, (dnum (xs.drop u)).2.2)) ∧
    ∀ n m, dnum (xs.drop u) = (n, m, 0) →
      (hn ≠ 18 ∧ hn ≠ 0 → dread xs = (0, [], 0, 30)) ∧ (¬ (hn ≠ 18 ∧ hn ≠ 0) →
      ((hn = 18 ∧ n ≠ 32) ∨ (hn = 0 ∧ 64 < n) → dread xs = (0, [], 0, 31)) ∧ (¬ ((hn = 18 ∧ n ≠ 32) ∨ (hn = 0 ∧ 64 < n)) →
      (xs.length - (u + m) < n → dread xs = (0, [], 0, 32)) ∧ (¬ xs.length - (u + m) < n → dread xs = (hn, (xs.drop (u + m)).take n, u + m + n, 0)))) := by
  have e1 : (dnum xs).1 = hn := by rw [h]
  have e2 : (dnum xs).2.1 = u := by rw [h]
  have e3 : ¬ (dnum xs).2.2 ≠ 0 := by rw [h]; simp
  unfold dread
  rw [if_neg e3, e1, e2]
  refine ⟨fun hb => by rw [if_pos hb], fun n m hq => ?_⟩
  have q1 : (dnum (xs.drop u)).1 = n := by rw [hq]
  have q2 : (dnum (xs.drop u)).2.1 = m := by rw [hq]
  have q3 : ¬ (dnum (xs.drop u)).2.2 ≠ 0 := by rw [hq]; simp
  rw [if_neg q3, q1, q2]
  refine ⟨fun h1 => by rw [if_pos h1], fun h1 => ?_⟩
  rw [if_neg h1]
  refine ⟨fun h2 => by rw [if_pos h2], fun h2 => ?_⟩
  rw [if_neg h2]
  exact ⟨fun h3 => by rw [if_pos h3], fun h3 => by rw [if_neg h3]⟩
theorem BSl.drop {w : World} {b off n cap : Nat} {xs : List Nat} (h : BSl w (.slice (some ⟨b, off, none⟩) n cap) xs) (k : Nat) (hk : k ≤ xs.length) : BSl w (.slice (some ⟨b, off + k, none⟩) (n - k) (cap - k)) (xs.drop k) := by
  obtain ⟨⟨a, cap', hv, hn, hc⟩, hmax, hby⟩ := h
  injection hv with h1 h2 h3
  subst h1
  subst h3
  subst h2
  refine ⟨⟨_, cap - k, by rw [List.length_drop], ⟨by rw [List.length_drop]; omega, fun h => by cases h⟩, ?_⟩, by rw [List.length_drop]; omega, fun z hz => hby z (List.mem_of_mem_drop hz)⟩
  rcases hc with hc | ⟨b', off', e, hc⟩
  · exact .inl (by subst hc; simp)
  · injection e with e
    injection e with e1 e2 e3
    subst e1
    subst e2
    refine .inr ⟨b, off + k, rfl, fun j hj => ?_⟩
    rw [List.length_drop] at hj
    have hq := hc (k + j) (by omega)
    have e : off + (k + j) = off + k + j := by omega
    rw [e] at hq
    rw [hq]
    simp [List.getD]
end
section
open Go.RowKit
theorem wrd_cut (l : List Nat) (p : Nat) : wrd ((l.drop p).take 4) 0 = wrd l p := by
  unfold wrd
  have h : ∀ j, j < 4 → ((l.drop p).take 4).getD j 0 = l.getD (p + j) 0 := by
    intro j hj
    simp [List.getD, hj]
  rw [h 0 (by omega), h (0 + 1) (by omega), h (0 + 2) (by omega), h (0 + 3) (by omega)]
  simp
theorem info64w (l : List Nat) (h : l.length = 64) : (Tryz.prog.info? 269).map (·.size) = some (wv l).toArray.size := by
  have h2 := info64
  simp only [List.size_toArray, wv_len] at h2 ⊢
  rw [h2, h]
  rfl
theorem info8w (l : List Nat) (h : l.length = 8) : (Tryz.prog.info? 182).map (·.size) = some (wv l).toArray.size := by
  have h2 := info8
  simp only [List.size_toArray, wv_len] at h2 ⊢
  rw [h2, h]
  rfl
theorem one_w (l : List Nat) : (wv l).toArray.all (·.oneCell') = true := by
  rw [Array.all_eq_true_iff_forall_mem]
  intro u hu
  exact wv_one _ u (by simpa using hu)
structure WBk (wx : World) (B : Nat) (ws : List Nat) : Prop where
  r : wx.heap[B]? = some (.cells (wv (List.replicate 64 0)).toArray 269 (0, 0))
  w : wx.heap[B + 1]? = some (.cells (wv ws).toArray 269 (0, 0))
theorem WBk.below {w w' : World} {B : Nat} {ws : List Nat} (h : WBk w B ws) (hb : Below w.heap.size w w') : WBk w' B ws :=
  ⟨(hb.block B (blk_lt h.r)).trans h.r, (hb.block _ (blk_lt h.w)).trans h.w⟩
theorem WBk.set {w : World} {B : Nat} {ws : List Nat} (h : WBk w B ws) (j x : Nat) : WBk (w.setCell ⟨B + 1, j, none⟩ (.int .u32 ((x : Nat) : Int))) B (ws.set j x) :=
  ⟨blk_other j _ h.r (by omega), by rw [← wvt_set]; exact blk_set j _ h.w⟩
theorem WBk.drew {w : World} {B : Nat} {ws : List Nat} (h : WBk w B ws) : WBk w.drew B ws := ⟨h.r, h.w⟩

set_option maxRecDepth 1000000 in
set_option maxHeartbeats 4000000 in
theorem words_any (w : World) (v : Value) (l : List Nat) (hsl : BSl w v l) (hp : l.length = 64) :
    Calls Tryz.prog 225 #[v] w fun e w' => e = .returned (.agg (wv (wl l 0 64)).toArray) ∧ Below w.heap.size w w' := by
  have HSL := hide hsl
  obtain ⟨⟨a, cap, rfl, hn, hc⟩, hmax, hb⟩ := hsl
  rcases hc with hc | ⟨b, off, rfl, hc⟩
  · subst hc; simp at hp
  have hcp : (64 : Int) ≤ (cap : Int) := by have := hn.1; omega
  have HLB := hide hb
  rw [hp] at HSL ⊢
  have HP := hide hp
  clear hn hc hb hp hmax
  go_enter Tryz.func225, Tryz.ntmps225
  go_wp2_with fail
  rw [← zero64]
  have HB0 : Hid (WBk ((w.alloc (.cells (wv (List.replicate 64 0)).toArray 269)).alloc (.cells (wv (List.replicate 64 0)).toArray 269)) w.heap.size (List.replicate 64 0)) := by
    refine ⟨blk_alloc _ (heap_alloc_new w _), ?_⟩
    have h := heap_alloc_new (w.alloc (.cells (wv (List.replicate 64 0)).toArray 269)) (.cells (wv (List.replicate 64 0)).toArray 269)
    have e : (w.alloc (.cells (wv (List.replicate 64 0)).toArray 269)).heap.size = w.heap.size + 1 := by simp
    rw [e] at h
    exact h
  have HL0 : Hid (Below w.heap.size w ((w.alloc (.cells (wv (List.replicate 64 0)).toArray 269)).alloc (.cells (wv (List.replicate 64 0)).toArray 269))) := ((Below.refl _ _).alloc (Nat.le_refl _) _).alloc (by simp) _
  generalize (w.alloc (.cells (wv (List.replicate 64 0)).toArray 269)).alloc (.cells (wv (List.replicate 64 0)).toArray 269) = w1 at *
  generalize hB : w.heap.size = B at *
  have HBB := hide hB
  clear hB
  go_loopw [6] (fun ii wx => ∃ i : Nat, i ≤ 16 ∧ ii = .int .i64 (i : Nat) ∧ Hid (WBk wx B (wl l 0 i ++ List.replicate (64 - i) 0)) ∧ Hid (Below B w wx)) (fun ii _ => 16 - (intOf ii).toNat)
  case atStart => exact ⟨0, by omega, rfl, HB0, HL0⟩
  case round =>
    obtain ⟨i, hi, rfl, HR1, HL1⟩ := hrel
    clear HB0 HL0
    by_cases hlt : i < 16
    · have hlt' : (i : Int) < 16 := by omega
      have HV : Hid (BSl wr (.slice (some ⟨b, off, none⟩) 64 cap) l) := HSL.out.move (keep_below (by rw [HBB.out]; exact HL1.out))
      have HST := hide (wl_set l 0 i (by omega))
      rw [if_pos hlt] at HST
      have HLN := hide (wl_wlen l 0 i (by omega))
      go_wp2_with fail
      refine (word_any _ _ ((l.drop (4 * i)).take 4) ((HV.out.drop (4 * i) (by rw [HP.out]; omega)).take3 4 (by rw [List.length_drop, HP.out]; omega)) (by rw [List.length_take, List.length_drop, HP.out]; omega)).mono ?_
      rintro e w5 ⟨rfl, hb5⟩
      rw [wrd_cut]
      have HR2 := hide (HR1.out.below hb5)
      have HL2 : Hid (Below B w w5) := HL1.out.trans (hb5.mono (by have := HL1.out.size; have := HBB.out; omega))
      clear HR1 HL1 hb5
      have f0 := blk_frozen i HR2.out.w
      have c0 : w5.cell? ⟨B + 1, i, none⟩ = some (.int .u32 (((wl l 0 i ++ List.replicate (64 - i) 0).getD i 0 : Nat) : Int)) := blk_cell HR2.out.w (wvt_get (by rw [HLN.out]; omega))
      generalize (wl l 0 i ++ List.replicate (64 - i) 0).getD i 0 = o at *
      go_wp2_with fail
      go_roundw
      case rel => exact ⟨i + 1, by omega, by go_num, by rw [← HST.out, Nat.zero_add]; exact HR2.out.set i _, below_set3 HL2.out _ _ (by omega) _⟩
      case measure => simp [intOf]; omega
    · have hi16 : i = 16 := by omega
      have HI := hide hi16
      have hi6 : ¬ (i : Int) < 16 := by omega
      clear hi16 hlt hi
      go_wp2_with fail
      rename World => wq
      go_loopw [5] (fun ii wx => ∃ i : Nat, i ≤ 64 ∧ 16 ≤ i ∧ ii = .int .i64 (i : Nat) ∧ Hid (WBk wx B (wl l 0 i ++ List.replicate (64 - i) 0)) ∧ Hid (Below B w wx)) (fun ii _ => 64 - (intOf ii).toNat)
      case atStart => exact ⟨16, by omega, by omega, rfl, by rw [← HI.out]; exact HR1, HL1⟩
      case round =>
        rename World => wz
        obtain ⟨k, hk, hk16, rfl, HR2, HL2⟩ := hrel
        clear HR1 HL1
        by_cases hlt : k < 64
        · have hlt' : (k : Int) < 64 := by omega
          have HST := hide (wl_set l 0 k hlt)
          rw [if_neg (by omega)] at HST
          have HLN := hide (wl_wlen l 0 k (by omega))
          have HG : Hid (∀ j, j < k → wz.cell? ⟨B + 1, j, none⟩ = some (.int .u32 (((wl l 0 k).getD j 0 : Nat) : Int))) := fun j hj => blk_cell HR2.out.w (by rw [wvt_get (by rw [HLN.out]; omega), wl_at l 0 k j hj])
          have f0 := blk_frozen k HR2.out.w
          have c15 := HG.out (k - 15) (by omega)
          have c2 := HG.out (k - 2) (by omega)
          have c7 := HG.out (k - 7) (by omega)
          have c16 := HG.out (k - 16) (by omega)
          have c0 : wz.cell? ⟨B + 1, k, none⟩ = some (.int .u32 (((wl l 0 k ++ List.replicate (64 - k) 0).getD k 0 : Nat) : Int)) := blk_cell HR2.out.w (wvt_get (by rw [HLN.out]; exact hlt))
          have hx := getD_w (wl_lt l 0 HLB.out k) (k - 15)
          have hy := getD_w (wl_lt l 0 HLB.out k) (k - 2)
          have h7 := getD_w (wl_lt l 0 HLB.out k) (k - 7)
          have h6 := getD_w (wl_lt l 0 HLB.out k) (k - 16)
          have HNX : Hid (nextW (wl l 0 k) k = (ls1 ((wl l 0 k).getD (k - 2) 0) + (wl l 0 k).getD (k - 7) 0 + ls0 ((wl l 0 k).getD (k - 15) 0) + (wl l 0 k).getD (k - 16) 0) % 4294967296) := rfl
          generalize (wl l 0 k ++ List.replicate (64 - k) 0).getD k 0 = o at *
          generalize (wl l 0 k).getD (k - 15) 0 = x at *
          generalize (wl l 0 k).getD (k - 2) 0 = y at *
          generalize (wl l 0 k).getD (k - 7) 0 = x7 at *
          generalize (wl l 0 k).getD (k - 16) 0 = x6 at *
          have hA := ls1_lt hy
          have hC := ls0_lt hx
          have HXX := hide hx
          have HYY := hide hy
          go_wp2_with fail
          have n7 : (7 : Int) ≤ (k : Int) := by omega
          have m7 : (k : Int) - 7 < 64 := by omega
          have t7 : ((k : Int) - 7).toNat = k - 7 := by omega
          have n6 : (16 : Int) ≤ (k : Int) := by omega
          have m6 : (k : Int) - 16 < 64 := by omega
          have t6 : ((k : Int) - 16).toNat = k - 16 := by omega
          have n2 : (2 : Int) ≤ (k : Int) := by omega
          have m2 : (k : Int) - 2 < 64 := by omega
          have t2 : ((k : Int) - 2).toNat = k - 2 := by omega
          have n5 : (15 : Int) ≤ (k : Int) := by omega
          have m5 : (k : Int) - 15 < 64 := by omega
          have t5 : ((k : Int) - 15).toNat = k - 15 := by omega
          have y7 : IntKind.i64.wrap ((k : Int) - 7) = (k : Int) - 7 := by rw [IntKind.wrap_i64]; omega
          have y6 : IntKind.i64.wrap ((k : Int) - 16) = (k : Int) - 16 := by rw [IntKind.wrap_i64]; omega
          have y2 : IntKind.i64.wrap ((k : Int) - 2) = (k : Int) - 2 := by rw [IntKind.wrap_i64]; omega
          have y5 : IntKind.i64.wrap ((k : Int) - 15) = (k : Int) - 15 := by rw [IntKind.wrap_i64]; omega
          refine wp_region_still_tail 22 (by kernel_rfl) (by kernel_rfl) ?_
          simp only [List.take_succ_cons, List.take_zero, List.drop_succ_cons, List.drop_zero]
          repeat (
            refine wpStill_step (fun K hK => ?_)
            go_simp
            first
              | (refine hK _ ?_; clear hK K)
              | (refine ⟨_, smallS0_any _ _ (by assumption), hK _ ?_⟩; clear hK K)
              | (refine ⟨_, smallS1_any _ _ (by assumption), hK _ ?_⟩; clear hK K))
          refine wpStill_nil ?_
          go_wp2_with fail
          go_roundw
          case rel =>
            have ev : (((ls1 y : Nat) : Int) + (x7 : Int) + ((ls0 x : Nat) : Int) + (x6 : Int)) % 4294967296 = ((nextW (wl l 0 k) k : Nat) : Int) := by rw [HNX.out]; omega
            rw [ev]
            exact ⟨k + 1, by omega, by omega, by go_num, by rw [← HST.out]; exact (HR2.out.set k _).drew, Below.drew (below_set3 HL2.out _ _ (by omega) _)⟩
          case measure => simp [intOf]; omega
        · have hk64 : k = 64 := by omega
          have HK := hide hk64
          have hk6 : ¬ (k : Int) < 64 := by omega
          clear hk64 hlt hk hk16
          have HW : Hid (wz.heap[B + 1]? = some (.cells (wv (wl l 0 64)).toArray 269 (0, 0))) := by
            have h := HR2.out.w
            rw [HK.out] at h
            show _ = _
            simpa using h
          have HI64 := hide (info64w (wl l 0 64) (wl_len l 0 64))
          have HSZ : Hid ((wv (List.replicate 64 0)).toArray.size = (wv (wl l 0 64)).toArray.size) := by show _ = _; simp [wv_len, wl_len]
          have HON := hide (one_w (wl l 0 64))
          have HR := hide HR2.out.r
          have hne : ¬ B = B + 1 := by omega
          clear HR2
          generalize hD : wl l 0 64 = D at *
          have HD := hide hD
          clear hD
          go_wp2_with (first
            | (refine wpList_loadRow rfl rfl (B + 1) 64 (wv D).toArray 269 rfl HW.out Tryz.underlying269 HI64.out ?_)
            | (refine wpList_storeRow rfl rfl B _ (wv D).toArray 269 rfl rfl HR.out HI64.out HSZ.out HON.out ?_))
          refine bodyPost_ret (v := .agg (wv D).toArray) ((results_one (p := 2) (ty := 269) rfl _ _ _).trans (run_loadVar_row (P := Tryz.prog) _ B 269 269 (wv D).toArray (0, 0) _ (row_same HR.out) Tryz.underlying269 rfl HI64.out)) rfl ⟨by rw [HD.out], ?_⟩
          rw [HBB.out]
          exact HL2.out.trans ((row_kp wz B _).below (by have := HL2.out.size; have := HBB.out; omega) (fun q e => by omega))
end
end Go.Proofs.YtnkghcndaafmoaaGreatDoor
