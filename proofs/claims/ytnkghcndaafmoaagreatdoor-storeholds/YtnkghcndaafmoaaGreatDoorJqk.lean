import Derived.Test.YtnkghcndaafmoaaGreatDoorJqj
import Derived.StillTailTactics
import Derived.Deep.LoopGhost
import Derived.Deep.DeepCutAuto
namespace Go.Proofs.YtnkghcndaafmoaaGreatDoor
section
open Go.RowKit
theorem zero64 : (wv (List.replicate 64 0)).toArray = #[.int .u32 0, .int .u32 0, .int .u32 0, .int .u32 0, .int .u32 0, .int .u32 0, .int .u32 0, .int .u32 0, .int .u32 0, .int .u32 0, .int .u32 0, .int .u32 0, .int .u32 0, .int .u32 0, .int .u32 0, .int .u32 0, .int .u32 0, .int .u32 0, .int .u32 0, .int .u32 0, .int .u32 0, .int .u32 0, .int .u32 0, .int .u32 0, .int .u32 0, .int .u32 0, .int .u32 0, .int .u32 0, .int .u32 0, .int .u32 0, .int .u32 0, .int .u32 0, .int .u32 0, .int .u32 0, .int .u32 0, .int .u32 0, .int .u32 0, .int .u32 0, .int .u32 0, .int .u32 0, .int .u32 0, .int .u32 0, .int .u32 0, .int .u32 0, .int .u32 0, .int .u32 0, .int .u32 0, .int .u32 0, .int .u32 0, .int .u32 0, .int .u32 0, .int .u32 0, .int .u32 0, .int .u32 0, .int .u32 0, .int .u32 0, .int .u32 0, .int .u32 0, .int .u32 0, .int .u32 0, .int .u32 0, .int .u32 0, .int .u32 0, .int .u32 0] := by kernel_rfl

structure RBk (wx : World) (B K : Nat) (s ws v : List Nat) : Prop where
  s : wx.heap[B]? = some (.cells (wv s).toArray 182 (0, 0))
  r : wx.heap[B + 1]? = some (.cells #[.int .u32 0, .int .u32 0, .int .u32 0, .int .u32 0, .int .u32 0, .int .u32 0, .int .u32 0, .int .u32 0] 182 (0, 0))
  w : wx.heap[B + 1 + 1]? = some (.cells (wv ws).toArray 269 (0, 0))
  k : wx.heap[K]? = some (.cells (wv kk).toArray 269 (0, 0))
  v : wx.heap[K + 1]? = some (.cells (wv v).toArray 182 (0, 0))
theorem wvt_get {l : List Nat} {j : Nat} (h : j < l.length) : (wv l).toArray[j]? = some (.int .u32 ((l.getD j 0 : Nat) : Int)) := by
  rw [List.getElem?_toArray]; exact wv_get h
theorem wvt_set (l : List Nat) (j x : Nat) : (wv l).toArray.setIfInBounds j (.int .u32 ((x : Nat) : Int)) = (wv (l.set j x)).toArray := by
  rw [List.setIfInBounds_toArray, wv_set]
theorem RBk.drew {wx : World} {B K : Nat} {s ws v : List Nat} (h : RBk wx B K s ws v) : RBk wx.drew B K s ws v := ⟨h.s, h.r, h.w, h.k, h.v⟩
theorem RBk.drewN {wx : World} {B K : Nat} {s ws v : List Nat} (h : RBk wx B K s ws v) (n : Nat) : RBk (wx.drewN n) B K s ws v := ⟨h.s, h.r, h.w, h.k, h.v⟩
theorem RBk.setw {wx : World} {B K : Nat} {s ws v : List Nat} (h : RBk wx B K s ws v) (hK : B + 1 + 1 < K) (j x : Nat) : RBk (wx.setCell ⟨B + 1 + 1, j, none⟩ (.int .u32 ((x : Nat) : Int))) B K s (ws.set j x) v :=
  ⟨blk_other j _ h.s (by omega), blk_other j _ h.r (by omega), by rw [← wvt_set]; exact blk_set j _ h.w, blk_other j _ h.k (by omega), blk_other j _ h.v (by omega)⟩
theorem RBk.setv {wx : World} {B K : Nat} {s ws v : List Nat} (h : RBk wx B K s ws v) (hK : B + 1 + 1 < K) (j x : Nat) : RBk (wx.setCell ⟨K + 1, j, none⟩ (.int .u32 ((x : Nat) : Int))) B K s ws (v.set j x) :=
  ⟨blk_other j _ h.s (by omega), blk_other j _ h.r (by omega), blk_other j _ h.w (by omega), blk_other j _ h.k (by omega), by rw [← wvt_set]; exact blk_set j _ h.v⟩
theorem RBk.sets {wx : World} {B K : Nat} {s ws v : List Nat} (h : RBk wx B K s ws v) (hK : B + 1 + 1 < K) (j x : Nat) : RBk (wx.setCell ⟨B, j, none⟩ (.int .u32 ((x : Nat) : Int))) B K (s.set j x) ws v :=
  ⟨by rw [← wvt_set]; exact blk_set j _ h.s, blk_other j _ h.r (by omega), blk_other j _ h.w (by omega), blk_other j _ h.k (by omega), blk_other j _ h.v (by omega)⟩
theorem below_set3 {A : Nat} {w wc : World} (h : Below A w wc) (b j : Nat) (hb : A ≤ b) (v : Value) : Below A w (wc.setCell ⟨b, j, none⟩ v) := h.setCell hb v
theorem wl_set (l : List Nat) (p i : Nat) (h : i < 64) : (wl l p i ++ List.replicate (64 - i) 0).set i (if i < 16 then wrd l (p + 4 * i) else nextW (wl l p i) i) = wl l p (i + 1) ++ List.replicate (64 - (i + 1)) 0 := by
  have e : 64 - i = (64 - (i + 1)) + 1 := by omega
  rw [e, List.replicate_succ, List.set_append_right _ _ (by rw [wl_len]; omega), wl_len, Nat.sub_self, List.set_cons_zero, wl]
  simp
theorem wl_at (l : List Nat) (p i j : Nat) (h : j < i) : (wl l p i ++ List.replicate (64 - i) 0).getD j 0 = (wl l p i).getD j 0 := by
  simp only [List.getD]
  rw [List.getElem?_append_left (by rw [wl_len]; exact h)]
theorem wl_wlen (l : List Nat) (p i : Nat) (h : i ≤ 64) : (wl l p i ++ List.replicate (64 - i) 0).length = 64 := by
  rw [List.length_append, wl_len, List.length_replicate]; omega
theorem wl_lt (l : List Nat) (p : Nat) (hb : ∀ x ∈ l, x < 256) : ∀ n, ∀ x ∈ wl l p n, x < 4294967296
  | 0, x, h => by cases h
  | n + 1, x, h => by
    rw [wl] at h
    rcases List.mem_append.1 h with h | h
    · exact wl_lt l p hb n x h
    · simp only [List.mem_singleton] at h
      subst h
      split
      · exact wrd_lt hb _
      · exact Nat.mod_lt _ (by decide)
theorem getD_w {l : List Nat} (h : ∀ x ∈ l, x < 4294967296) (j : Nat) : l.getD j 0 < 4294967296 := by
  by_cases hj : j < l.length
  · rw [List.getD_eq_getElem?_getD, List.getElem?_eq_getElem hj]; exact h _ (List.getElem_mem hj)
  · rw [List.getD_eq_getElem?_getD, List.getElem?_eq_none (by omega)]; decide
theorem rl_lt (l : List Nat) (p : Nat) (s : List Nat) (hs : ∀ x ∈ s, x < 4294967296) : ∀ n, ∀ x ∈ rl l p s n, x < 4294967296
  | 0, x, h => hs x h
  | n + 1, x, h => by
    have ih := getD_w (rl_lt l p s hs n)
    rw [rl, rnd] at h
    simp only [List.mem_cons, List.not_mem_nil, or_false] at h
    rcases h with h | h | h | h | h | h | h | h <;> subst h <;> first | exact ih _ | exact Nat.mod_lt _ (by decide)

theorem ls1_bits (y : Nat) (hy : y < 4294967296) : ∃ A3 A4 : Nat, bits .xor .u32 ((rt y 17 : Nat) : Int) ((rt y 19 : Nat) : Int) = (A3 : Int) ∧ bits .xor .u32 (A3 : Int) ((y : Int) / 1024) = (A4 : Int) ∧ A4 < 4294967296 ∧ ls1 y = A4 := by
  have h1 := rt_lt (n := 17) hy (by decide)
  have h2 := rt_lt (n := 19) hy (by decide)
  refine ⟨rt y 17 ^^^ rt y 19, ls1 y, u32_xor_nat _ _ h1 h2, ?_, ls1_lt hy, rfl⟩
  have e : (y : Int) / 1024 = ((y / 1024 : Nat) : Int) := by omega
  rw [e, u32_xor_nat _ _ (xor_lt h1 h2) (by omega)]
  rfl
theorem ls0_bits (y : Nat) (hy : y < 4294967296) : ∃ A3 A4 : Nat, bits .xor .u32 ((rt y 7 : Nat) : Int) ((rt y 18 : Nat) : Int) = (A3 : Int) ∧ bits .xor .u32 (A3 : Int) ((y : Int) / 8) = (A4 : Int) ∧ A4 < 4294967296 ∧ ls0 y = A4 := by
  have h1 := rt_lt (n := 7) hy (by decide)
  have h2 := rt_lt (n := 18) hy (by decide)
  refine ⟨rt y 7 ^^^ rt y 18, ls0 y, u32_xor_nat _ _ h1 h2, ?_, ls0_lt hy, rfl⟩
  have e : (y : Int) / 8 = ((y / 8 : Nat) : Int) := by omega
  rw [e, u32_xor_nat _ _ (xor_lt h1 h2) (by omega)]
  rfl

theorem us1_bits (y : Nat) (hy : y < 4294967296) : ∃ A3 A4 : Nat, bits .xor .u32 ((rt y 6 : Nat) : Int) ((rt y 11 : Nat) : Int) = (A3 : Int) ∧ bits .xor .u32 (A3 : Int) ((rt y 25 : Nat) : Int) = (A4 : Int) ∧ A4 < 4294967296 ∧ us1 y = A4 := by
  have h1 := rt_lt (n := 6) hy (by decide)
  have h2 := rt_lt (n := 11) hy (by decide)
  have h3 := rt_lt (n := 25) hy (by decide)
  exact ⟨rt y 6 ^^^ rt y 11, us1 y, u32_xor_nat _ _ h1 h2, u32_xor_nat _ _ (xor_lt h1 h2) h3, us1_lt hy, rfl⟩
theorem us0_bits (y : Nat) (hy : y < 4294967296) : ∃ A3 A4 : Nat, bits .xor .u32 ((rt y 2 : Nat) : Int) ((rt y 13 : Nat) : Int) = (A3 : Int) ∧ bits .xor .u32 (A3 : Int) ((rt y 22 : Nat) : Int) = (A4 : Int) ∧ A4 < 4294967296 ∧ us0 y = A4 := by
  have h1 := rt_lt (n := 2) hy (by decide)
  have h2 := rt_lt (n := 13) hy (by decide)
  have h3 := rt_lt (n := 22) hy (by decide)
  exact ⟨rt y 2 ^^^ rt y 13, us0 y, u32_xor_nat _ _ h1 h2, u32_xor_nat _ _ (xor_lt h1 h2) h3, us0_lt hy, rfl⟩
theorem maj_bits (a b c : Nat) (ha : a < 4294967296) (hb : b < 4294967296) (hc : c < 4294967296) : ∃ P Q R S T : Nat, bits .and .u32 (a : Int) (b : Int) = (P : Int) ∧ bits .and .u32 (a : Int) (c : Int) = (Q : Int) ∧ bits .xor .u32 (P : Int) (Q : Int) = (R : Int) ∧ bits .and .u32 (b : Int) (c : Int) = (S : Int) ∧ bits .xor .u32 (R : Int) (S : Int) = (T : Int) ∧ T < 4294967296 ∧ maj a b c = T :=
  ⟨a &&& b, a &&& c, (a &&& b) ^^^ (a &&& c), b &&& c, maj a b c, u32_and_nat _ _ ha hb, u32_and_nat _ _ ha hc, u32_xor_nat _ _ (and_lt ha) (and_lt ha), u32_and_nat _ _ hb hc, u32_xor_nat _ _ (xor_lt (and_lt ha) (and_lt ha)) (and_lt hb), maj_lt ha hb, rfl⟩
theorem not_xor (e : Nat) (he : e < 4294967296) : 4294967295 ^^^ e = 4294967295 - e := by
  have h := BitVec.toNat_not (x := BitVec.ofNat 32 e)
  have h2 : ~~~(BitVec.ofNat 32 e) = BitVec.allOnes 32 ^^^ BitVec.ofNat 32 e := BitVec.not_def
  rw [h2, BitVec.toNat_xor, BitVec.toNat_allOnes, BitVec.toNat_ofNat, Nat.mod_eq_of_lt (by simpa using he)] at h
  simpa using h
theorem cho_bits (e f g : Nat) (he : e < 4294967296) (hf : f < 4294967296) (hg : g < 4294967296) : ∃ N P Q R : Nat, bits .xor .u32 (if IntKind.u32.signed = true then -1 else IntKind.u32.max) (e : Int) = (N : Int) ∧ bits .and .u32 (e : Int) (f : Int) = (P : Int) ∧ bits .and .u32 (N : Int) (g : Int) = (Q : Int) ∧ bits .xor .u32 (P : Int) (Q : Int) = (R : Int) ∧ R < 4294967296 ∧ cho e f g = R := by
  have hn : (if IntKind.u32.signed = true then -1 else IntKind.u32.max) = ((4294967295 : Nat) : Int) := rfl
  rw [hn]
  exact ⟨4294967295 - e, e &&& f, (4294967295 - e) &&& g, cho e f g, by rw [u32_xor_nat _ _ (by decide) he, not_xor e he], u32_and_nat _ _ he hf, u32_and_nat _ _ (by omega) hg, u32_xor_nat _ _ (and_lt he) (and_lt (by omega)), cho_lt he, rfl⟩
def shf (V : List Nat) (n : Nat) : List Nat := (List.range 8).map fun j => if n < j then V.getD (j - 1) 0 else V.getD j 0
theorem shf_len (V : List Nat) (n : Nat) : (shf V n).length = 8 := by simp [shf]
theorem shf_set (V : List Nat) (n : Nat) (h0 : 0 < n) (h7 : n ≤ 7) : (shf V n).set n ((shf V n).getD (n - 1) 0) = shf V (n - 1) := by
  rcases (by omega : n = 1 ∨ n = 2 ∨ n = 3 ∨ n = 4 ∨ n = 5 ∨ n = 6 ∨ n = 7) with rfl | rfl | rfl | rfl | rfl | rfl | rfl <;> rfl
theorem shf_all (V : List Nat) (h : V.length = 8) : shf V 7 = V := by
  match V, h with
  | [_, _, _, _, _, _, _, _], _ => rfl
theorem rnd_shf (V : List Nat) (k w : Nat) : rnd V k w = ((shf V 0).set 4 (((shf V 0).getD 4 0 + rT V k w) % 4294967296)).set 0 ((rT V k w + rU V) % 4294967296) := rfl
def zps (s V : List Nat) (j : Nat) : List Nat := (List.zipWith (fun x y => (x + y) % 4294967296) s V).take j ++ s.drop j
theorem zps_none (s V : List Nat) : zps s V 0 = s := by simp [zps]
theorem zps_all (s V : List Nat) (h : s.length = 8) (h' : V.length = 8) : zps s V 8 = List.zipWith (fun x y => (x + y) % 4294967296) s V := by
  unfold zps
  rw [List.take_of_length_le (by simp [h, h']), List.drop_of_length_le (by omega), List.append_nil]
theorem zps_len (s V : List Nat) (j : Nat) (h : s.length = 8) (h' : V.length = 8) (hj : j ≤ 8) : (zps s V j).length = 8 := by
  simp [zps, h, h']; omega
theorem zps_get (s V : List Nat) (j : Nat) (h : s.length = 8) (h' : V.length = 8) (hj : j < 8) : (zps s V j).getD j 0 = s.getD j 0 := by
  simp only [zps, List.getD]
  rw [List.getElem?_append_right (by simp [h, h']; omega)]
  simp [h, h', Nat.min_eq_left (Nat.le_of_lt hj)]
theorem zps_set (s V : List Nat) (j : Nat) (h : s.length = 8) (h' : V.length = 8) (hj : j < 8) : (zps s V j).set j ((s.getD j 0 + V.getD j 0) % 4294967296) = zps s V (j + 1) := by
  match s, h, V, h' with
  | [_, _, _, _, _, _, _, _], _, [_, _, _, _, _, _, _, _], _ =>
    rcases (by omega : j = 0 ∨ j = 1 ∨ j = 2 ∨ j = 3 ∨ j = 4 ∨ j = 5 ∨ j = 6 ∨ j = 7) with rfl | rfl | rfl | rfl | rfl | rfl | rfl | rfl <;> rfl
theorem eight (l : List Nat) (h : l.length = 8) : ∃ a b c d e f g i, l = [a, b, c, d, e, f, g, i] := by
  match l, h with
  | [a, b, c, d, e, f, g, i], _ => exact ⟨a, b, c, d, e, f, g, i, rfl⟩
theorem kk_lt : ∀ x ∈ kk, x < 4294967296 := by decide

set_option maxRecDepth 1000000 in
set_option maxHeartbeats 40000000 in
theorem refRounds_any (w : World) (v : Value) (l s : List Nat) (p : Nat) (hsl : BSl w v l) (hp : p + 64 ≤ l.length) (hs : s.length = 8) (hw : ∀ x ∈ s, x < 4294967296) :
    Calls Tryz.prog 132 #[.agg (wv s).toArray, v, .int .i64 (p : Nat)] w fun e w' => e = .returned (.agg (wv (cmp l p s)).toArray) ∧ Below w.heap.size w w' := by
  have HSL := hide hsl
  have HW := hide hw
  clear hsl hw
  match s, hs with
  | [s0, s1, s2, s3, s4, s5, s6, s7], _ =>
  have hlit : (wv [s0, s1, s2, s3, s4, s5, s6, s7]).toArray = #[.int .u32 (s0 : Nat), .int .u32 (s1 : Nat), .int .u32 (s2 : Nat), .int .u32 (s3 : Nat), .int .u32 (s4 : Nat), .int .u32 (s5 : Nat), .int .u32 (s6 : Nat), .int .u32 (s7 : Nat)] := rfl
  rw [hlit]
  clear hlit
  have HS0 : Hid ((((w.alloc (.cells #[.int .u32 (s0 : Nat), .int .u32 (s1 : Nat), .int .u32 (s2 : Nat), .int .u32 (s3 : Nat), .int .u32 (s4 : Nat), .int .u32 (s5 : Nat), .int .u32 (s6 : Nat), .int .u32 (s7 : Nat)] 182)).alloc (.cells #[.int .u32 0, .int .u32 0, .int .u32 0, .int .u32 0, .int .u32 0, .int .u32 0, .int .u32 0, .int .u32 0] 182)).alloc (.cells #[.int .u32 0, .int .u32 0, .int .u32 0, .int .u32 0, .int .u32 0, .int .u32 0, .int .u32 0, .int .u32 0, .int .u32 0, .int .u32 0, .int .u32 0, .int .u32 0, .int .u32 0, .int .u32 0, .int .u32 0, .int .u32 0, .int .u32 0, .int .u32 0, .int .u32 0, .int .u32 0, .int .u32 0, .int .u32 0, .int .u32 0, .int .u32 0, .int .u32 0, .int .u32 0, .int .u32 0, .int .u32 0, .int .u32 0, .int .u32 0, .int .u32 0, .int .u32 0, .int .u32 0, .int .u32 0, .int .u32 0, .int .u32 0, .int .u32 0, .int .u32 0, .int .u32 0, .int .u32 0, .int .u32 0, .int .u32 0, .int .u32 0, .int .u32 0, .int .u32 0, .int .u32 0, .int .u32 0, .int .u32 0, .int .u32 0, .int .u32 0, .int .u32 0, .int .u32 0, .int .u32 0, .int .u32 0, .int .u32 0, .int .u32 0, .int .u32 0, .int .u32 0, .int .u32 0, .int .u32 0, .int .u32 0, .int .u32 0, .int .u32 0, .int .u32 0] 269)).heap[w.heap.size]? = some (.cells #[.int .u32 (s0 : Nat), .int .u32 (s1 : Nat), .int .u32 (s2 : Nat), .int .u32 (s3 : Nat), .int .u32 (s4 : Nat), .int .u32 (s5 : Nat), .int .u32 (s6 : Nat), .int .u32 (s7 : Nat)] 182 (0, 0))) := blk_alloc _ (blk_alloc _ (heap_alloc_new w _))
  have HR0 : Hid ((((w.alloc (.cells #[.int .u32 (s0 : Nat), .int .u32 (s1 : Nat), .int .u32 (s2 : Nat), .int .u32 (s3 : Nat), .int .u32 (s4 : Nat), .int .u32 (s5 : Nat), .int .u32 (s6 : Nat), .int .u32 (s7 : Nat)] 182)).alloc (.cells #[.int .u32 0, .int .u32 0, .int .u32 0, .int .u32 0, .int .u32 0, .int .u32 0, .int .u32 0, .int .u32 0] 182)).alloc (.cells #[.int .u32 0, .int .u32 0, .int .u32 0, .int .u32 0, .int .u32 0, .int .u32 0, .int .u32 0, .int .u32 0, .int .u32 0, .int .u32 0, .int .u32 0, .int .u32 0, .int .u32 0, .int .u32 0, .int .u32 0, .int .u32 0, .int .u32 0, .int .u32 0, .int .u32 0, .int .u32 0, .int .u32 0, .int .u32 0, .int .u32 0, .int .u32 0, .int .u32 0, .int .u32 0, .int .u32 0, .int .u32 0, .int .u32 0, .int .u32 0, .int .u32 0, .int .u32 0, .int .u32 0, .int .u32 0, .int .u32 0, .int .u32 0, .int .u32 0, .int .u32 0, .int .u32 0, .int .u32 0, .int .u32 0, .int .u32 0, .int .u32 0, .int .u32 0, .int .u32 0, .int .u32 0, .int .u32 0, .int .u32 0, .int .u32 0, .int .u32 0, .int .u32 0, .int .u32 0, .int .u32 0, .int .u32 0, .int .u32 0, .int .u32 0, .int .u32 0, .int .u32 0, .int .u32 0, .int .u32 0, .int .u32 0, .int .u32 0, .int .u32 0, .int .u32 0] 269)).heap[w.heap.size + 1]? = some (.cells #[.int .u32 0, .int .u32 0, .int .u32 0, .int .u32 0, .int .u32 0, .int .u32 0, .int .u32 0, .int .u32 0] 182 (0, 0))) := by
    have h := heap_alloc_new (w.alloc (.cells #[.int .u32 (s0 : Nat), .int .u32 (s1 : Nat), .int .u32 (s2 : Nat), .int .u32 (s3 : Nat), .int .u32 (s4 : Nat), .int .u32 (s5 : Nat), .int .u32 (s6 : Nat), .int .u32 (s7 : Nat)] 182)) (.cells #[.int .u32 0, .int .u32 0, .int .u32 0, .int .u32 0, .int .u32 0, .int .u32 0, .int .u32 0, .int .u32 0] 182)
    have e : (w.alloc (.cells #[.int .u32 (s0 : Nat), .int .u32 (s1 : Nat), .int .u32 (s2 : Nat), .int .u32 (s3 : Nat), .int .u32 (s4 : Nat), .int .u32 (s5 : Nat), .int .u32 (s6 : Nat), .int .u32 (s7 : Nat)] 182)).heap.size = w.heap.size + 1 := by simp
    rw [e] at h
    exact blk_alloc _ h
  have HW0 : Hid ((((w.alloc (.cells #[.int .u32 (s0 : Nat), .int .u32 (s1 : Nat), .int .u32 (s2 : Nat), .int .u32 (s3 : Nat), .int .u32 (s4 : Nat), .int .u32 (s5 : Nat), .int .u32 (s6 : Nat), .int .u32 (s7 : Nat)] 182)).alloc (.cells #[.int .u32 0, .int .u32 0, .int .u32 0, .int .u32 0, .int .u32 0, .int .u32 0, .int .u32 0, .int .u32 0] 182)).alloc (.cells #[.int .u32 0, .int .u32 0, .int .u32 0, .int .u32 0, .int .u32 0, .int .u32 0, .int .u32 0, .int .u32 0, .int .u32 0, .int .u32 0, .int .u32 0, .int .u32 0, .int .u32 0, .int .u32 0, .int .u32 0, .int .u32 0, .int .u32 0, .int .u32 0, .int .u32 0, .int .u32 0, .int .u32 0, .int .u32 0, .int .u32 0, .int .u32 0, .int .u32 0, .int .u32 0, .int .u32 0, .int .u32 0, .int .u32 0, .int .u32 0, .int .u32 0, .int .u32 0, .int .u32 0, .int .u32 0, .int .u32 0, .int .u32 0, .int .u32 0, .int .u32 0, .int .u32 0, .int .u32 0, .int .u32 0, .int .u32 0, .int .u32 0, .int .u32 0, .int .u32 0, .int .u32 0, .int .u32 0, .int .u32 0, .int .u32 0, .int .u32 0, .int .u32 0, .int .u32 0, .int .u32 0, .int .u32 0, .int .u32 0, .int .u32 0, .int .u32 0, .int .u32 0, .int .u32 0, .int .u32 0, .int .u32 0, .int .u32 0, .int .u32 0, .int .u32 0] 269)).heap[w.heap.size + 1 + 1]? = some (.cells (wv (List.replicate 64 0)).toArray 269 (0, 0))) := by
    have h := heap_alloc_new ((w.alloc (.cells #[.int .u32 (s0 : Nat), .int .u32 (s1 : Nat), .int .u32 (s2 : Nat), .int .u32 (s3 : Nat), .int .u32 (s4 : Nat), .int .u32 (s5 : Nat), .int .u32 (s6 : Nat), .int .u32 (s7 : Nat)] 182)).alloc (.cells #[.int .u32 0, .int .u32 0, .int .u32 0, .int .u32 0, .int .u32 0, .int .u32 0, .int .u32 0, .int .u32 0] 182)) (.cells #[.int .u32 0, .int .u32 0, .int .u32 0, .int .u32 0, .int .u32 0, .int .u32 0, .int .u32 0, .int .u32 0, .int .u32 0, .int .u32 0, .int .u32 0, .int .u32 0, .int .u32 0, .int .u32 0, .int .u32 0, .int .u32 0, .int .u32 0, .int .u32 0, .int .u32 0, .int .u32 0, .int .u32 0, .int .u32 0, .int .u32 0, .int .u32 0, .int .u32 0, .int .u32 0, .int .u32 0, .int .u32 0, .int .u32 0, .int .u32 0, .int .u32 0, .int .u32 0, .int .u32 0, .int .u32 0, .int .u32 0, .int .u32 0, .int .u32 0, .int .u32 0, .int .u32 0, .int .u32 0, .int .u32 0, .int .u32 0, .int .u32 0, .int .u32 0, .int .u32 0, .int .u32 0, .int .u32 0, .int .u32 0, .int .u32 0, .int .u32 0, .int .u32 0, .int .u32 0, .int .u32 0, .int .u32 0, .int .u32 0, .int .u32 0, .int .u32 0, .int .u32 0, .int .u32 0, .int .u32 0, .int .u32 0, .int .u32 0, .int .u32 0, .int .u32 0] 269)
    have e : ((w.alloc (.cells #[.int .u32 (s0 : Nat), .int .u32 (s1 : Nat), .int .u32 (s2 : Nat), .int .u32 (s3 : Nat), .int .u32 (s4 : Nat), .int .u32 (s5 : Nat), .int .u32 (s6 : Nat), .int .u32 (s7 : Nat)] 182)).alloc (.cells #[.int .u32 0, .int .u32 0, .int .u32 0, .int .u32 0, .int .u32 0, .int .u32 0, .int .u32 0, .int .u32 0] 182)).heap.size = w.heap.size + 1 + 1 := by simp
    rw [e, ← zero64] at h
    rw [← zero64]
    exact h
  have HB0 : Hid (Below w.heap.size w (((w.alloc (.cells #[.int .u32 (s0 : Nat), .int .u32 (s1 : Nat), .int .u32 (s2 : Nat), .int .u32 (s3 : Nat), .int .u32 (s4 : Nat), .int .u32 (s5 : Nat), .int .u32 (s6 : Nat), .int .u32 (s7 : Nat)] 182)).alloc (.cells #[.int .u32 0, .int .u32 0, .int .u32 0, .int .u32 0, .int .u32 0, .int .u32 0, .int .u32 0, .int .u32 0] 182)).alloc (.cells #[.int .u32 0, .int .u32 0, .int .u32 0, .int .u32 0, .int .u32 0, .int .u32 0, .int .u32 0, .int .u32 0, .int .u32 0, .int .u32 0, .int .u32 0, .int .u32 0, .int .u32 0, .int .u32 0, .int .u32 0, .int .u32 0, .int .u32 0, .int .u32 0, .int .u32 0, .int .u32 0, .int .u32 0, .int .u32 0, .int .u32 0, .int .u32 0, .int .u32 0, .int .u32 0, .int .u32 0, .int .u32 0, .int .u32 0, .int .u32 0, .int .u32 0, .int .u32 0, .int .u32 0, .int .u32 0, .int .u32 0, .int .u32 0, .int .u32 0, .int .u32 0, .int .u32 0, .int .u32 0, .int .u32 0, .int .u32 0, .int .u32 0, .int .u32 0, .int .u32 0, .int .u32 0, .int .u32 0, .int .u32 0, .int .u32 0, .int .u32 0, .int .u32 0, .int .u32 0, .int .u32 0, .int .u32 0, .int .u32 0, .int .u32 0, .int .u32 0, .int .u32 0, .int .u32 0, .int .u32 0, .int .u32 0, .int .u32 0, .int .u32 0, .int .u32 0] 269))) := (((Below.refl _ _).alloc (Nat.le_refl _) _).alloc (by simp) _).alloc (by simp; omega) _
  go_enter Tryz.func132, Tryz.ntmps132
  go_wp2_with fail
  generalize ((w.alloc (.cells #[.int .u32 (s0 : Nat), .int .u32 (s1 : Nat), .int .u32 (s2 : Nat), .int .u32 (s3 : Nat), .int .u32 (s4 : Nat), .int .u32 (s5 : Nat), .int .u32 (s6 : Nat), .int .u32 (s7 : Nat)] 182)).alloc (.cells #[.int .u32 0, .int .u32 0, .int .u32 0, .int .u32 0, .int .u32 0, .int .u32 0, .int .u32 0, .int .u32 0] 182)).alloc (.cells #[.int .u32 0, .int .u32 0, .int .u32 0, .int .u32 0, .int .u32 0, .int .u32 0, .int .u32 0, .int .u32 0, .int .u32 0, .int .u32 0, .int .u32 0, .int .u32 0, .int .u32 0, .int .u32 0, .int .u32 0, .int .u32 0, .int .u32 0, .int .u32 0, .int .u32 0, .int .u32 0, .int .u32 0, .int .u32 0, .int .u32 0, .int .u32 0, .int .u32 0, .int .u32 0, .int .u32 0, .int .u32 0, .int .u32 0, .int .u32 0, .int .u32 0, .int .u32 0, .int .u32 0, .int .u32 0, .int .u32 0, .int .u32 0, .int .u32 0, .int .u32 0, .int .u32 0, .int .u32 0, .int .u32 0, .int .u32 0, .int .u32 0, .int .u32 0, .int .u32 0, .int .u32 0, .int .u32 0, .int .u32 0, .int .u32 0, .int .u32 0, .int .u32 0, .int .u32 0, .int .u32 0, .int .u32 0, .int .u32 0, .int .u32 0, .int .u32 0, .int .u32 0, .int .u32 0, .int .u32 0, .int .u32 0, .int .u32 0, .int .u32 0, .int .u32 0] 269) = w1 at *
  generalize hB : w.heap.size = B at *
  have HBB := hide hB
  clear hB
  refine (refFactor_any _).mono ?_
  rintro e w2 ⟨rfl, hb2⟩
  have HS2 := hide ((hb2.block B (blk_lt HS0.out)).trans HS0.out)
  have HR2 := hide ((hb2.block (B + 1) (blk_lt HR0.out)).trans HR0.out)
  have HW2 := hide ((hb2.block (B + 1 + 1) (blk_lt HW0.out)).trans HW0.out)
  have HB2 : Hid (Below B w w2) := HB0.out.trans (hb2.mono (by have := HB0.out.size; have := HBB.out; omega))
  clear hb2 HS0 HR0 HW0 HB0
  have q0 : w2.cell? ⟨B, 0, none⟩ = some (.int .u32 (s0 : Nat)) := blk_cell HS2.out rfl
  have q1 : w2.cell? ⟨B, 1, none⟩ = some (.int .u32 (s1 : Nat)) := blk_cell HS2.out rfl
  have q2 : w2.cell? ⟨B, 2, none⟩ = some (.int .u32 (s2 : Nat)) := blk_cell HS2.out rfl
  have q3 : w2.cell? ⟨B, 3, none⟩ = some (.int .u32 (s3 : Nat)) := blk_cell HS2.out rfl
  have q4 : w2.cell? ⟨B, 4, none⟩ = some (.int .u32 (s4 : Nat)) := blk_cell HS2.out rfl
  have q5 : w2.cell? ⟨B, 5, none⟩ = some (.int .u32 (s5 : Nat)) := blk_cell HS2.out rfl
  have q6 : w2.cell? ⟨B, 6, none⟩ = some (.int .u32 (s6 : Nat)) := blk_cell HS2.out rfl
  have q7 : w2.cell? ⟨B, 7, none⟩ = some (.int .u32 (s7 : Nat)) := blk_cell HS2.out rfl
  have hBl : B < w2.heap.size := blk_lt HS2.out
  have hst := store_kk w2
  have hkl := wvkk_len
  go_wp2_with fail
  have HK : Hid (B + 1 + 1 < w2.heap.size) := blk_lt HW2.out
  have HRB : Hid (RBk ((w2.alloc (.cells (wv kk).toArray 269)).alloc (.cells #[.int .u32 (s0 : Nat), .int .u32 (s1 : Nat), .int .u32 (s2 : Nat), .int .u32 (s3 : Nat), .int .u32 (s4 : Nat), .int .u32 (s5 : Nat), .int .u32 (s6 : Nat), .int .u32 (s7 : Nat)] 182)) B w2.heap.size [s0, s1, s2, s3, s4, s5, s6, s7] (List.replicate 64 0) [s0, s1, s2, s3, s4, s5, s6, s7]) := by
    refine ⟨blk_alloc _ (blk_alloc _ HS2.out), blk_alloc _ (blk_alloc _ HR2.out), blk_alloc _ (blk_alloc _ HW2.out), blk_alloc _ (heap_alloc_new w2 _), ?_⟩
    have h := heap_alloc_new (w2.alloc (.cells (wv kk).toArray 269)) (.cells #[.int .u32 (s0 : Nat), .int .u32 (s1 : Nat), .int .u32 (s2 : Nat), .int .u32 (s3 : Nat), .int .u32 (s4 : Nat), .int .u32 (s5 : Nat), .int .u32 (s6 : Nat), .int .u32 (s7 : Nat)] 182)
    have e : (w2.alloc (.cells (wv kk).toArray 269)).heap.size = w2.heap.size + 1 := by simp
    rw [e] at h
    exact h
  have HB3 : Hid (Below B w ((w2.alloc (.cells (wv kk).toArray 269)).alloc (.cells #[.int .u32 (s0 : Nat), .int .u32 (s1 : Nat), .int .u32 (s2 : Nat), .int .u32 (s3 : Nat), .int .u32 (s4 : Nat), .int .u32 (s5 : Nat), .int .u32 (s6 : Nat), .int .u32 (s7 : Nat)] 182))) := (HB2.out.alloc (by omega) _).alloc (by simp; omega) _
  clear q0 q1 q2 q3 q4 q5 q6 q7 hst hkl HS2 HR2 HW2 HB2
  generalize (w2.alloc (.cells (wv kk).toArray 269)).alloc (.cells #[.int .u32 (s0 : Nat), .int .u32 (s1 : Nat), .int .u32 (s2 : Nat), .int .u32 (s3 : Nat), .int .u32 (s4 : Nat), .int .u32 (s5 : Nat), .int .u32 (s6 : Nat), .int .u32 (s7 : Nat)] 182) = w3 at *
  generalize w2.heap.size = K at *
  have hsl : [s0, s1, s2, s3, s4, s5, s6, s7].length = 8 := rfl
  generalize hsE : [s0, s1, s2, s3, s4, s5, s6, s7] = s at *
  have HSE := hide hsE
  clear hsE
  have HLB := hide HSL.out.byte
  have hlm := HSL.out.max
  go_loopw [10] (fun ii wx => ∃ i : Nat, i ≤ 64 ∧ ii = .int .i64 (i : Nat) ∧ Hid (RBk wx B K s (wl l p i ++ List.replicate (64 - i) 0) (rl l p s i)) ∧ Hid (Below B w wx)) (fun ii _ => 64 - (intOf ii).toNat)
  case atStart => exact ⟨0, by omega, rfl, HRB, HB3⟩
  case round =>
    obtain ⟨i, hi, rfl, HR1, HL1⟩ := hrel
    clear HRB HB3
    by_cases hlt : i < 64
    · have hlt' : (i : Int) < 64 := by omega
      have HKB := HK.out
      have HV : Hid (BSl wr v l) := HSL.out.move (keep_below (by rw [HBB.out]; exact HL1.out))
      go_upto_if 26 with fail
      go_cut [] (fun wx => Hid (RBk wx B K s (wl l p (i + 1) ++ List.replicate (64 - (i + 1)) 0) (rl l p s i)) ∧ Hid (Below B w wx))
      case first => as_aux_lemma =>
        have HST := hide (wl_set l p i hlt)
        have HLN := hide (wl_wlen l p i hi)
        have f0 := blk_frozen i HR1.out.w
        by_cases h16 : i < 16
        · have h16' : (i : Int) < 16 := by omega
          rw [if_pos h16] at HST
          have c0 : wr.cell? ⟨B + 1 + 1, i, none⟩ = some (.int .u32 (((wl l p i ++ List.replicate (64 - i) 0).getD i 0 : Nat) : Int)) := blk_cell HR1.out.w (wvt_get (by rw [HLN.out]; exact hlt))
          generalize (wl l p i ++ List.replicate (64 - i) 0).getD i 0 = o at *
          go_wp2_with fail
          have hat : (p : Int) + 4 * (i : Int) = ((p + 4 * i : Nat) : Int) := by omega
          rw [hat]
          clear hat
          refine (refWord_any _ v l (p + 4 * i) HV.out (by omega)).mono ?_
          rintro e w5 ⟨rfl, rfl⟩
          go_wp2_with fail
          go_meet
          case rel => exact ⟨by rw [← HST.out]; exact HR1.out.setw HKB i _, below_set3 HL1.out _ _ (by omega) _⟩
        · have h16' : ¬ (i : Int) < 16 := by omega
          rw [if_neg h16] at HST
          have HG : Hid (∀ j, j < i → wr.cell? ⟨B + 1 + 1, j, none⟩ = some (.int .u32 (((wl l p i).getD j 0 : Nat) : Int))) := fun j hj => blk_cell HR1.out.w (by rw [wvt_get (by rw [HLN.out]; omega), wl_at l p i j hj])
          have c15 := HG.out (i - 15) (by omega)
          have c2 := HG.out (i - 2) (by omega)
          have c7 := HG.out (i - 7) (by omega)
          have c16 := HG.out (i - 16) (by omega)
          have c0 : wr.cell? ⟨B + 1 + 1, i, none⟩ = some (.int .u32 (((wl l p i ++ List.replicate (64 - i) 0).getD i 0 : Nat) : Int)) := blk_cell HR1.out.w (wvt_get (by rw [HLN.out]; exact hlt))
          have hx := getD_w (wl_lt l p HLB.out i) (i - 15)
          have hy := getD_w (wl_lt l p HLB.out i) (i - 2)
          have h7 := getD_w (wl_lt l p HLB.out i) (i - 7)
          have h6 := getD_w (wl_lt l p HLB.out i) (i - 16)
          have HNX : Hid (nextW (wl l p i) i = (ls1 ((wl l p i).getD (i - 2) 0) + (wl l p i).getD (i - 7) 0 + ls0 ((wl l p i).getD (i - 15) 0) + (wl l p i).getD (i - 16) 0) % 4294967296) := rfl
          generalize (wl l p i ++ List.replicate (64 - i) 0).getD i 0 = o at *
          generalize (wl l p i).getD (i - 15) 0 = x at *
          generalize (wl l p i).getD (i - 2) 0 = y at *
          generalize (wl l p i).getD (i - 7) 0 = x7 at *
          generalize (wl l p i).getD (i - 16) 0 = x6 at *
          obtain ⟨A3, A4, e1, e2, hA4, e3⟩ := ls1_bits y hy
          obtain ⟨C3, C4, g1, g2, hC4, g3⟩ := ls0_bits x hx
          rw [e3, g3] at HNX
          clear e3 g3
          go_wp2_with fail
          have n7 : (7 : Int) ≤ (i : Int) := by omega
          have m7 : (i : Int) - 7 < 64 := by omega
          have t7 : ((i : Int) - 7).toNat = i - 7 := by omega
          have n6 : (16 : Int) ≤ (i : Int) := by omega
          have m6 : (i : Int) - 16 < 64 := by omega
          have t6 : ((i : Int) - 16).toNat = i - 16 := by omega
          have y7 : IntKind.i64.wrap ((i : Int) - 7) = (i : Int) - 7 := by rw [IntKind.wrap_i64]; omega
          have y6 : IntKind.i64.wrap ((i : Int) - 16) = (i : Int) - 16 := by rw [IntKind.wrap_i64]; omega
          refine wp_region_still_tail 29 (by kernel_rfl) (by kernel_rfl) ?_
          simp only [List.take_succ_cons, List.take_zero, List.drop_succ_cons, List.drop_zero]
          repeat (
            refine wpStill_step (fun K hK => ?_)
            go_simp
            first
              | (refine hK _ ?_; clear hK K)
              | (refine ⟨_, refTurn_gen _ _ _ (by assumption) (by decide), hK _ ?_⟩; clear hK K))
          refine wpStill_nil ?_
          go_wp2_with fail
          go_meet
          case rel =>
            have ev : (((((A4 : Int) + (x7 : Int)) % 4294967296 + (C4 : Int)) % 4294967296 + (x6 : Int)) % 4294967296) = ((nextW (wl l p i) i : Nat) : Int) := by rw [HNX.out]; omega
            rw [ev]
            exact ⟨by rw [← HST.out]; exact (HR1.out.setw HKB i _).drew, Below.drew (below_set3 HL1.out _ _ (by omega) _)⟩
      case rest => as_aux_lemma =>
        obtain ⟨HR2, HL2⟩ := hcut
        clear HR1 HL1
        have HVL := hide (rl_len l p s hsl i)
        have HVB := hide (rl_lt l p s HW.out i)
        have HVC : Hid (∀ j, j < 8 → wc.cell? ⟨K + 1, j, none⟩ = some (.int .u32 (((rl l p s i).getD j 0 : Nat) : Int))) := fun j hj => blk_cell HR2.out.v (wvt_get (by rw [HVL.out]; exact hj))
        have hkc : wc.cell? ⟨K, i, none⟩ = some (.int .u32 ((kk.getD i 0 : Nat) : Int)) := blk_cell HR2.out.k (wvt_get (by show i < 64; exact hlt))
        have hwc : wc.cell? ⟨B + 1 + 1, i, none⟩ = some (.int .u32 (((wl l p (i + 1)).getD i 0 : Nat) : Int)) := blk_cell HR2.out.w (by rw [wvt_get (by rw [wl_wlen l p (i + 1) (by omega)]; exact hlt), wl_at l p (i + 1) i (by omega)])
        have v0 := HVC.out 0 (by omega)
        have v1 := HVC.out 1 (by omega)
        have v2 := HVC.out 2 (by omega)
        have v3 := HVC.out 3 (by omega)
        have v4 := HVC.out 4 (by omega)
        have v5 := HVC.out 5 (by omega)
        have v6 := HVC.out 6 (by omega)
        have v7 := HVC.out 7 (by omega)
        have HRL : Hid (rl l p s (i + 1) = rnd (rl l p s i) (kk.getD i 0) ((wl l p (i + 1)).getD i 0)) := rfl
        have hwb := getD_w (wl_lt l p HLB.out (i + 1)) i
        have hkb : kk.getD i 0 < 4294967296 := getD_w kk_lt i
        generalize (wl l p (i + 1)).getD i 0 = wi at *
        generalize kk.getD i 0 = ki at *
        have hb0 := getD_w HVB.out 0
        have hb1 := getD_w HVB.out 1
        have hb2 := getD_w HVB.out 2
        have hb3 := getD_w HVB.out 3
        have hb4 := getD_w HVB.out 4
        have hb5 := getD_w HVB.out 5
        have hb6 := getD_w HVB.out 6
        have hb7 := getD_w HVB.out 7
        have HRT : Hid (rT (rl l p s i) ki wi = ((rl l p s i).getD 7 0 + us1 ((rl l p s i).getD 4 0) + cho ((rl l p s i).getD 4 0) ((rl l p s i).getD 5 0) ((rl l p s i).getD 6 0) + ki + wi) % 4294967296) := rfl
        have HRU : Hid (rU (rl l p s i) = (us0 ((rl l p s i).getD 0 0) + maj ((rl l p s i).getD 0 0) ((rl l p s i).getD 1 0) ((rl l p s i).getD 2 0)) % 4294967296) := rfl
        have HRE : Hid (rl l p s (i + 1) = ((shf (rl l p s i) 0).set 4 (((shf (rl l p s i) 0).getD 4 0 + rT (rl l p s i) ki wi) % 4294967296)).set 0 ((rT (rl l p s i) ki wi + rU (rl l p s i)) % 4294967296)) := HRL.out.trans (rnd_shf _ _ _)
        have HF4 : Hid ((shf (rl l p s i) 0).getD 4 0 = (rl l p s i).getD 3 0) := rfl
        have HTL : Hid (rT (rl l p s i) ki wi < 4294967296) := Nat.mod_lt _ (by decide)
        have HUL : Hid (rU (rl l p s i) < 4294967296) := Nat.mod_lt _ (by decide)
        clear HRL HVC
        generalize rT (rl l p s i) ki wi = T at *
        generalize rU (rl l p s i) = U at *
        have HVA : Hid (∀ wx, RBk wx B K s (wl l p (i + 1) ++ List.replicate (64 - (i + 1)) 0) (rl l p s i) → wx.cell? ⟨K + 1, 0, none⟩ = some (.int .u32 (((rl l p s i).getD 0 0 : Nat) : Int))) := fun wx h => blk_cell h.v (wvt_get (by rw [HVL.out]; decide))
        have HVB1 : Hid (∀ wx, RBk wx B K s (wl l p (i + 1) ++ List.replicate (64 - (i + 1)) 0) (rl l p s i) → wx.cell? ⟨K + 1, 1, none⟩ = some (.int .u32 (((rl l p s i).getD 1 0 : Nat) : Int))) := fun wx h => blk_cell h.v (wvt_get (by rw [HVL.out]; decide))
        have HVC1 : Hid (∀ wx, RBk wx B K s (wl l p (i + 1) ++ List.replicate (64 - (i + 1)) 0) (rl l p s i) → wx.cell? ⟨K + 1, 2, none⟩ = some (.int .u32 (((rl l p s i).getD 2 0 : Nat) : Int))) := fun wx h => blk_cell h.v (wvt_get (by rw [HVL.out]; decide))
        generalize (rl l p s i).getD 0 0 = va at *
        generalize (rl l p s i).getD 1 0 = vb at *
        generalize (rl l p s i).getD 2 0 = vc at *
        generalize (rl l p s i).getD 3 0 = vd at *
        generalize (rl l p s i).getD 4 0 = ve at *
        generalize (rl l p s i).getD 5 0 = vf at *
        generalize (rl l p s i).getD 6 0 = vg at *
        generalize (rl l p s i).getD 7 0 = vh at *
        obtain ⟨A3, A4, e1, e2, hA4, e3⟩ := us1_bits ve hb4
        obtain ⟨C3, C4, g1, g2, hC4, g3⟩ := us0_bits va hb0
        obtain ⟨M1, M2, M3, M4, M5, k1, k2, k3, k4, k5, hM5, k6⟩ := maj_bits va vb vc hb0 hb1 hb2
        obtain ⟨H0, H1, H2, H3, l0, l1, l2, l3, hH3, l4⟩ := cho_bits ve vf vg hb4 hb5 hb6
        rw [e3, l4] at HRT
        rw [g3, k6] at HRU
        clear e3 g3 k6 l4
        go_upto_region 14 with fail
        go_cut [15] (fun tt wx => tt = .int .u32 (T : Nat) ∧ Hid (RBk wx B K s (wl l p (i + 1) ++ List.replicate (64 - (i + 1)) 0) (rl l p s i)) ∧ Hid (Below B w wx))
        case first => as_aux_lemma =>
          go_quiet (first | (go_at_call 183; exact Calls.quiet_of_same (refTurn_gen _ _ _ (by assumption) (by decide))))
          go_wp2_with fail
          go_meet
          case rel => exact ⟨congrArg (Value.int .u32) (by rw [HRT.out]; omega), HR2.out.drewN _, below_drewN HL2.out _⟩
        case rest => as_aux_lemma =>
          obtain ⟨rfl, HR3, HL3⟩ := hcut
          clear HR2 HL2 v0 v1 v2 v3 v4 v5 v6 v7 hkc hwc
          rename World => wt
          have v0 : wt.cell? ⟨K + 1, 0, none⟩ = some (.int .u32 (va : Nat)) := HVA.out wt HR3.out
          have v1 : wt.cell? ⟨K + 1, 1, none⟩ = some (.int .u32 (vb : Nat)) := HVB1.out wt HR3.out
          have v2 : wt.cell? ⟨K + 1, 2, none⟩ = some (.int .u32 (vc : Nat)) := HVC1.out wt HR3.out
          go_upto_region 15 with fail
          go_cut [16] (fun uu wx => uu = .int .u32 (U : Nat) ∧ Hid (RBk wx B K s (wl l p (i + 1) ++ List.replicate (64 - (i + 1)) 0) (rl l p s i)) ∧ Hid (Below B w wx))
          case first => as_aux_lemma =>
            go_quiet (first | (go_at_call 183; exact Calls.quiet_of_same (refTurn_gen _ _ _ (by assumption) (by decide))))
            go_wp2_with fail
            go_meet
            case rel => exact ⟨congrArg (Value.int .u32) (by rw [HRU.out]; omega), HR3.out.drewN _, below_drewN HL3.out _⟩
          case rest => as_aux_lemma =>
            obtain ⟨rfl, HR4, HL4⟩ := hcut
            clear HR3 HL3 v0 v1 v2
            have HR5 := HR4
            rw [← shf_all (rl l p s i) HVL.out] at HR5
            go_wp2
            go_loopw [17] (fun nn wx => ∃ n : Nat, n ≤ 7 ∧ nn = .int .i64 (n : Nat) ∧ Hid (RBk wx B K s (wl l p (i + 1) ++ List.replicate (64 - (i + 1)) 0) (shf (rl l p s i) n)) ∧ Hid (Below B w wx)) (fun nn _ => (intOf nn).toNat)
            case atStart => exact ⟨7, by omega, rfl, HR5, HL4⟩
            case round =>
              obtain ⟨n, hn7, rfl, HR6, HL6⟩ := hrel
              clear HR4 HR5 HL4
              rename World => wz
              by_cases hn0 : 0 < n
              · have hn0' : (0 : Int) < (n : Int) := by omega
                have HSS := hide (shf_set (rl l p s i) n hn0 hn7)
                have HSL8 := hide (shf_len (rl l p s i) n)
                have c1 : wz.cell? ⟨K + 1, n - 1, none⟩ = some (.int .u32 (((shf (rl l p s i) n).getD (n - 1) 0 : Nat) : Int)) := blk_cell HR6.out.v (wvt_get (by rw [HSL8.out]; omega))
                have c2 : wz.cell? ⟨K + 1, n, none⟩ = some (.int .u32 (((shf (rl l p s i) n).getD n 0 : Nat) : Int)) := blk_cell HR6.out.v (wvt_get (by rw [HSL8.out]; omega))
                have f2 := blk_frozen n HR6.out.v
                have n1 : (1 : Int) ≤ (n : Int) := by omega
                have n8 : (n : Int) < 8 := by omega
                generalize (shf (rl l p s i) n).getD (n - 1) 0 = z1 at *
                generalize (shf (rl l p s i) n).getD n 0 = z2 at *
                go_wp2
                go_roundw
                case rel => exact ⟨n - 1, by omega, by congr 1; omega, by rw [← HSS.out]; exact HR6.out.setv HKB n _, below_set3 HL6.out _ _ (by omega) _⟩
                case measure => simp [intOf]; omega
              · have hn00 : n = 0 := by omega
                subst hn00
                have HSL8 := hide (shf_len (rl l p s i) 0)
                have c4 : wz.cell? ⟨K + 1, 4, none⟩ = some (.int .u32 (((shf (rl l p s i) 0).getD 4 0 : Nat) : Int)) := blk_cell HR6.out.v (wvt_get (by rw [HSL8.out]; decide))
                have c0 : wz.cell? ⟨K + 1, 0, none⟩ = some (.int .u32 (((shf (rl l p s i) 0).getD 0 0 : Nat) : Int)) := blk_cell HR6.out.v (wvt_get (by rw [HSL8.out]; decide))
                have f4 := blk_frozen 4 HR6.out.v
                have f0 := blk_frozen 0 HR6.out.v
                have hTL := HTL.out
                have hUL := HUL.out
                have hf4 : (shf (rl l p s i) 0).getD 4 0 < 4294967296 := by rw [HF4.out]; exact hb3
                generalize (shf (rl l p s i) 0).getD 4 0 = z4 at *
                generalize (shf (rl l p s i) 0).getD 0 0 = z0 at *
                go_wp2
                go_roundw
                case rel =>
                  have ea : ((z4 : Int) + (T : Int)) % 4294967296 = (((z4 + T) % 4294967296 : Nat) : Int) := by omega
                  have eb : ((T : Int) + (U : Int)) % 4294967296 = (((T + U) % 4294967296 : Nat) : Int) := by omega
                  rw [ea, eb]
                  exact ⟨i + 1, by omega, by go_num, by rw [HRE.out]; exact (HR6.out.setv HKB 4 _).setv HKB 0 _, below_set3 (below_set3 HL6.out _ _ (by omega) _) _ _ (by omega) _⟩
                case measure => simp [intOf]; omega
    · have hi64 : i = 64 := by omega
      have hlt' : ¬ (i : Int) < 64 := by omega
      have HKB := HK.out
      have HVL := hide (rl_len l p s hsl i)
      have HVB := hide (rl_lt l p s HW.out i)
      have HCM : Hid (cmp l p s = zps s (rl l p s i) 8) := by show _ = _; rw [zps_all s (rl l p s i) hsl HVL.out, hi64]; rfl
      clear hi64
      have HR2 := HR1
      rw [← zps_none s (rl l p s i)] at HR2
      go_wp2
      go_loopw [18] (fun ii wx => ∃ j : Nat, j ≤ 8 ∧ ii = .int .i64 (j : Nat) ∧ Hid (RBk wx B K (zps s (rl l p s i) j) (wl l p i ++ List.replicate (64 - i) 0) (rl l p s i)) ∧ Hid (Below B w wx)) (fun ii _ => 8 - (intOf ii).toNat)
      case atStart => exact ⟨0, by omega, rfl, HR2, HL1⟩
      case round =>
        obtain ⟨j, hj, rfl, HR3, HL3⟩ := hrel
        clear HR1 HR2 HL1
        rename World => wz
        by_cases hj8 : j < 8
        · have hj8' : (j : Int) < 8 := by omega
          have HSS := hide (zps_set s (rl l p s i) j hsl HVL.out hj8)
          have c1 : wz.cell? ⟨B, j, none⟩ = some (.int .u32 ((s.getD j 0 : Nat) : Int)) := blk_cell HR3.out.s (by rw [wvt_get (by rw [zps_len s _ j hsl HVL.out hj]; exact hj8), zps_get s _ j hsl HVL.out hj8])
          have c2 : wz.cell? ⟨K + 1, j, none⟩ = some (.int .u32 (((rl l p s i).getD j 0 : Nat) : Int)) := blk_cell HR3.out.v (wvt_get (by rw [HVL.out]; exact hj8))
          have f1 := blk_frozen j HR3.out.s
          have hb1 := getD_w HW.out j
          have hb2 := getD_w HVB.out j
          generalize s.getD j 0 = z1 at *
          generalize (rl l p s i).getD j 0 = z2 at *
          go_wp2_with fail
          refine wp_region_still_tail 9 (by kernel_rfl) (by kernel_rfl) ?_
          simp only [List.take_succ_cons, List.take_zero, List.drop_succ_cons, List.drop_zero]
          repeat (
            refine wpStill_step (fun K hK => ?_)
            go_simp
            refine hK _ ?_
            clear hK K)
          refine wpStill_nil ?_
          go_wp2
          go_roundw
          case rel =>
            have ea : ((z1 : Int) + (z2 : Int)) % 4294967296 = (((z1 + z2) % 4294967296 : Nat) : Int) := by omega
            rw [ea]
            exact ⟨j + 1, by omega, by go_num, by rw [← HSS.out]; exact (HR3.out.sets HKB j _).drew, Below.drew (below_set3 HL3.out _ _ (by omega) _)⟩
          case measure => simp [intOf]; omega
        · have hj88 : j = 8 := by omega
          subst hj88
          rw [← HCM.out] at HR3
          obtain ⟨c0, c1, c2, c3, c4, c5, c6, c7, hcc⟩ := eight (cmp l p s) (cmp_len l p s hsl)
          rw [hcc] at HR3
          have HCC := hide hcc
          clear hcc
          have hBP : ¬ B = B + 1 := by omega
          have hPB : ¬ B + 1 = B := by omega
          have q0 : wz.cell? ⟨B, 0, none⟩ = some (.int .u32 (c0 : Nat)) := blk_cell HR3.out.s rfl
          have q1 : wz.cell? ⟨B, 1, none⟩ = some (.int .u32 (c1 : Nat)) := blk_cell HR3.out.s rfl
          have q2 : wz.cell? ⟨B, 2, none⟩ = some (.int .u32 (c2 : Nat)) := blk_cell HR3.out.s rfl
          have q3 : wz.cell? ⟨B, 3, none⟩ = some (.int .u32 (c3 : Nat)) := blk_cell HR3.out.s rfl
          have q4 : wz.cell? ⟨B, 4, none⟩ = some (.int .u32 (c4 : Nat)) := blk_cell HR3.out.s rfl
          have q5 : wz.cell? ⟨B, 5, none⟩ = some (.int .u32 (c5 : Nat)) := blk_cell HR3.out.s rfl
          have q6 : wz.cell? ⟨B, 6, none⟩ = some (.int .u32 (c6 : Nat)) := blk_cell HR3.out.s rfl
          have q7 : wz.cell? ⟨B, 7, none⟩ = some (.int .u32 (c7 : Nat)) := blk_cell HR3.out.s rfl
          have r0 : wz.cell? ⟨B + 1, 0, none⟩ = some (.int .u32 0) := blk_cell HR3.out.r rfl
          have r1 : wz.cell? ⟨B + 1, 1, none⟩ = some (.int .u32 0) := blk_cell HR3.out.r rfl
          have r2 : wz.cell? ⟨B + 1, 2, none⟩ = some (.int .u32 0) := blk_cell HR3.out.r rfl
          have r3 : wz.cell? ⟨B + 1, 3, none⟩ = some (.int .u32 0) := blk_cell HR3.out.r rfl
          have r4 : wz.cell? ⟨B + 1, 4, none⟩ = some (.int .u32 0) := blk_cell HR3.out.r rfl
          have r5 : wz.cell? ⟨B + 1, 5, none⟩ = some (.int .u32 0) := blk_cell HR3.out.r rfl
          have r6 : wz.cell? ⟨B + 1, 6, none⟩ = some (.int .u32 0) := blk_cell HR3.out.r rfl
          have r7 : wz.cell? ⟨B + 1, 7, none⟩ = some (.int .u32 0) := blk_cell HR3.out.r rfl
          have f0 := blk_frozen 0 HR3.out.r
          have f1 := blk_frozen 1 HR3.out.r
          have f2 := blk_frozen 2 HR3.out.r
          have f3 := blk_frozen 3 HR3.out.r
          have f4 := blk_frozen 4 HR3.out.r
          have f5 := blk_frozen 5 HR3.out.r
          have f6 := blk_frozen 6 HR3.out.r
          have f7 := blk_frozen 7 HR3.out.r
          go_wp2
          refine bodyPost_ret (v := .agg #[.int .u32 (c0 : Nat), .int .u32 (c1 : Nat), .int .u32 (c2 : Nat), .int .u32 (c3 : Nat), .int .u32 (c4 : Nat), .int .u32 (c5 : Nat), .int .u32 (c6 : Nat), .int .u32 (c7 : Nat)]) ((results_one (p := 6) (ty := 182) rfl _ _ _).trans (by go_simp; first | done | rfl)) rfl ⟨by rw [HSE.out, HCC.out]; rfl, ?_⟩
          rw [HBB.out]
          repeat (refine below_set3 ?_ _ _ (by omega) _)
          exact HL3.out
end
end Go.Proofs.YtnkghcndaafmoaaGreatDoor
