import Derived.Test.YtidglddjinfncabDoorJa
import Derived.StillTailTactics
import Derived.Deep.LoopGhost
import Derived.Deep.DeepCutAuto
namespace Go.Proofs.YtidglddjinfncabDoor
section
open Go.RowKit
theorem zero64 : (wv (List.replicate 64 0)).toArray = #[.int .u32 0, .int .u32 0, .int .u32 0, .int .u32 0, .int .u32 0, .int .u32 0, .int .u32 0, .int .u32 0, .int .u32 0, .int .u32 0, .int .u32 0, .int .u32 0, .int .u32 0, .int .u32 0, .int .u32 0, .int .u32 0, .int .u32 0, .int .u32 0, .int .u32 0, .int .u32 0, .int .u32 0, .int .u32 0, .int .u32 0, .int .u32 0, .int .u32 0, .int .u32 0, .int .u32 0, .int .u32 0, .int .u32 0, .int .u32 0, .int .u32 0, .int .u32 0, .int .u32 0, .int .u32 0, .int .u32 0, .int .u32 0, .int .u32 0, .int .u32 0, .int .u32 0, .int .u32 0, .int .u32 0, .int .u32 0, .int .u32 0, .int .u32 0, .int .u32 0, .int .u32 0, .int .u32 0, .int .u32 0, .int .u32 0, .int .u32 0, .int .u32 0, .int .u32 0, .int .u32 0, .int .u32 0, .int .u32 0, .int .u32 0, .int .u32 0, .int .u32 0, .int .u32 0, .int .u32 0, .int .u32 0, .int .u32 0, .int .u32 0, .int .u32 0] := by kernel_rfl

/-- The five blocks of a call of rounds. -/
structure RBk (wx : World) (B K : Nat) (s ws v : List Nat) : Prop where
  s : wx.heap[B]? = some (.cells (wv s).toArray 74 (0, 0))
  r : wx.heap[B + 1]? = some (.cells #[.int .u32 0, .int .u32 0, .int .u32 0, .int .u32 0, .int .u32 0, .int .u32 0, .int .u32 0, .int .u32 0] 74 (0, 0))
  w : wx.heap[B + 1 + 1]? = some (.cells (wv ws).toArray 92 (0, 0))
  k : wx.heap[K]? = some (.cells (wv kk).toArray 92 (0, 0))
  v : wx.heap[K + 1]? = some (.cells (wv v).toArray 74 (0, 0))
theorem wvt_get {l : List Nat} {j : Nat} (h : j < l.length) : (wv l).toArray[j]? = some (.int .u32 ((l.getD j 0 : Nat) : Int)) := by
  rw [List.getElem?_toArray]; exact wv_get h
theorem wvt_set (l : List Nat) (j x : Nat) : (wv l).toArray.setIfInBounds j (.int .u32 ((x : Nat) : Int)) = (wv (l.set j x)).toArray := by
  rw [List.setIfInBounds_toArray, wv_set]
theorem RBk.drew {wx : World} {B K : Nat} {s ws v : List Nat} (h : RBk wx B K s ws v) : RBk wx.drew B K s ws v := ⟨h.s, h.r, h.w, h.k, h.v⟩
theorem RBk.drewN {wx : World} {B K : Nat} {s ws v : List Nat} (h : RBk wx B K s ws v) (n : Nat) : RBk (wx.drewN n) B K s ws v := ⟨h.s, h.r, h.w, h.k, h.v⟩
theorem RBk.setw {wx : World} {B K : Nat} {s ws v : List Nat} (h : RBk wx B K s ws v) (hK : B + 1 + 1 < K) (j x : Nat) : RBk (wx.setCell ⟨B + 1 + 1, j, none⟩ (.int .u32 ((x : Nat) : Int))) B K s (ws.set j x) v :=
  ⟨blk_other j _ h.s (by omega), blk_other j _ h.r (by omega), by rw [← wvt_set]; exact blk_set j _ h.w, blk_other j _ h.k (by omega), blk_other j _ h.v (by omega)⟩
theorem RBk.setv {wx : World} {B K : Nat} {s ws v : List Nat} (h : RBk wx B K s ws v) (hK : B + 1 + 1 < K) (j x : Nat) : RBk (wx.setCell ⟨K + 1, j, none⟩ (.int .u32 ((x : Nat) : Int))) B K s ws (v.set j x) :=
  ⟨blk_other j _ h.s (by omega), blk_other j _ h.r (by omega), blk_other j _ h.w (by omega), blk_other j _ h.k (by omega), by rw [← wvt_set]; exact blk_set j _ h.v⟩
theorem RBk.sets {wx : World} {B K : Nat} {s ws v : List Nat} (h : RBk wx B K s ws v) (hK : B + 1 + 1 < K) (j x : Nat) : RBk (wx.setCell ⟨B, j, none⟩ (.int .u32 ((x : Nat) : Int))) B K (s.set j x) ws v :=
  ⟨by rw [← wvt_set]; exact blk_set j _ h.s, blk_other j _ h.r (by omega), blk_other j _ h.w (by omega), blk_other j _ h.k (by omega), blk_other j _ h.v (by omega)⟩
theorem below_set3 {A : Nat} {w wc : World} (h : Below A w wc) (b j : Nat) (hb : A ≤ b) (v : Value) : Below A w (wc.setCell ⟨b, j, none⟩ v) := h.setCell hb v
theorem wl_set (l : List Nat) (p i : Nat) (h : i < 64) : (wl l p i ++ List.replicate (64 - i) 0).set i (if i < 16 then wrd l (p + 4 * i) else nextW (wl l p i) i) = wl l p (i + 1) ++ List.replicate (64 - (i + 1)) 0 := by
  have e : 64 - i = (64 - (i + 1)) + 1 := by omega
  rw [e, List.replicate_succ, List.set_append_right _ _ (by rw [wl_len]; omega), wl_len, Nat.sub_self, List.set_cons_zero, wl]
  simp
theorem wl_at (l : List Nat) (p i j : Nat) (h : j < i) : (wl l p i ++ List.replicate (64 - i) 0).getD j 0 = (wl l p i).getD j 0 := by
  simp only [List.getD]
  rw [List.getElem?_append_left (by rw [wl_len]; exact h)]
theorem wl_wlen (l : List Nat) (p i : Nat) (h : i ≤ 64) : (wl l p i ++ List.replicate (64 - i) 0).length = 64 := by
  rw [List.length_append, wl_len, List.length_replicate]; omega
theorem wl_lt (l : List Nat) (p : Nat) (hb : ∀ x ∈ l, x < 256) : ∀ n, ∀ x ∈ wl l p n, x < 4294967296
  | 0, x, h => by cases h
  | n + 1, x, h => by
    rw [wl] at h
    rcases List.mem_append.1 h with h | h
    · exact wl_lt l p hb n x h
    · simp only [List.mem_singleton] at h
      subst h
      split
      · exact wrd_lt hb _
      · exact Nat.mod_lt _ (by decide)
theorem getD_w {l : List Nat} (h : ∀ x ∈ l, x < 4294967296) (j : Nat) : l.getD j 0 < 4294967296 := by
  by_cases hj : j < l.length
  · rw [List.getD_eq_getElem?_getD, List.getElem?_eq_getElem hj]; exact h _ (List.getElem_mem hj)
  · rw [List.getD_eq_getElem?_getD, List.getElem?_eq_none (by omega)]; decide
theorem rl_lt (l : List Nat) (p : Nat) (s : List Nat) (hs : ∀ x ∈ s, x < 4294967296) : ∀ n, ∀ x ∈ rl l p s n, x < 4294967296
  | 0, x, h => hs x h
  | n + 1, x, h => by
    have ih := getD_w (rl_lt l p s hs n)
    rw [rl, rnd] at h
    simp only [List.mem_cons, List.not_mem_nil, or_false] at h
    rcases h with h | h | h | h | h | h | h | h <;> subst h <;> first | exact ih _ | exact Nat.mod_lt _ (by decide)

theorem ls1_bits (y : Nat) (hy : y < 4294967296) : ∃ A3 A4 : Nat, bits .xor .u32 ((rt y 17 : Nat) : Int) ((rt y 19 : Nat) : Int) = (A3 : Int) ∧ bits .xor .u32 (A3 : Int) ((y : Int) / 1024) = (A4 : Int) ∧ A4 < 4294967296 ∧ ls1 y = A4 := by
  have h1 := rt_lt (n := 17) hy (by decide)
  have h2 := rt_lt (n := 19) hy (by decide)
  refine ⟨rt y 17 ^^^ rt y 19, ls1 y, u32_xor_nat _ _ h1 h2, ?_, ls1_lt hy, rfl⟩
  have e : (y : Int) / 1024 = ((y / 1024 : Nat) : Int) := by omega
  rw [e, u32_xor_nat _ _ (xor_lt h1 h2) (by omega)]
  rfl
theorem ls0_bits (y : Nat) (hy : y < 4294967296) : ∃ A3 A4 : Nat, bits .xor .u32 ((rt y 7 : Nat) : Int) ((rt y 18 : Nat) : Int) = (A3 : Int) ∧ bits .xor .u32 (A3 : Int) ((y : Int) / 8) = (A4 : Int) ∧ A4 < 4294967296 ∧ ls0 y = A4 := by
  have h1 := rt_lt (n := 7) hy (by decide)
  have h2 := rt_lt (n := 18) hy (by decide)
  refine ⟨rt y 7 ^^^ rt y 18, ls0 y, u32_xor_nat _ _ h1 h2, ?_, ls0_lt hy, rfl⟩
  have e : (y : Int) / 8 = ((y / 8 : Nat) : Int) := by omega
  rw [e, u32_xor_nat _ _ (xor_lt h1 h2) (by omega)]
  rfl

theorem us1_bits (y : Nat) (hy : y < 4294967296) : ∃ A3 A4 : Nat, bits .xor .u32 ((rt y 6 : Nat) : Int) ((rt y 11 : Nat) : Int) = (A3 : Int) ∧ bits .xor .u32 (A3 : Int) ((rt y 25 : Nat) : Int) = (A4 : Int) ∧ A4 < 4294967296 ∧ us1 y = A4 := by
  have h1 := rt_lt (n := 6) hy (by decide)
  have h2 := rt_lt (n := 11) hy (by decide)
  have h3 := rt_lt (n := 25) hy (by decide)
  exact ⟨rt y 6 ^^^ rt y 11, us1 y, u32_xor_nat _ _ h1 h2, u32_xor_nat _ _ (xor_lt h1 h2) h3, us1_lt hy, rfl⟩
theorem us0_bits (y : Nat) (hy : y < 4294967296) : ∃ A3 A4 : Nat, bits .xor .u32 ((rt y 2 : Nat) : Int) ((rt y 13 : Nat) : Int) = (A3 : Int) ∧ bits .xor .u32 (A3 : Int) ((rt y 22 : Nat) : Int) = (A4 : Int) ∧ A4 < 4294967296 ∧ us0 y = A4 := by
  have h1 := rt_lt (n := 2) hy (by decide)
  have h2 := rt_lt (n := 13) hy (by decide)
  have h3 := rt_lt (n := 22) hy (by decide)
  exact ⟨rt y 2 ^^^ rt y 13, us0 y, u32_xor_nat _ _ h1 h2, u32_xor_nat _ _ (xor_lt h1 h2) h3, us0_lt hy, rfl⟩
theorem maj_bits (a b c : Nat) (ha : a < 4294967296) (hb : b < 4294967296) (hc : c < 4294967296) : ∃ P Q R S T : Nat, bits .and .u32 (a : Int) (b : Int) = (P : Int) ∧ bits .and .u32 (a : Int) (c : Int) = (Q : Int) ∧ bits .xor .u32 (P : Int) (Q : Int) = (R : Int) ∧ bits .and .u32 (b : Int) (c : Int) = (S : Int) ∧ bits .xor .u32 (R : Int) (S : Int) = (T : Int) ∧ T < 4294967296 ∧ maj a b c = T :=
  ⟨a &&& b, a &&& c, (a &&& b) ^^^ (a &&& c), b &&& c, maj a b c, u32_and_nat _ _ ha hb, u32_and_nat _ _ ha hc, u32_xor_nat _ _ (and_lt ha) (and_lt ha), u32_and_nat _ _ hb hc, u32_xor_nat _ _ (xor_lt (and_lt ha) (and_lt ha)) (and_lt hb), maj_lt ha hb, rfl⟩
theorem not_xor (e : Nat) (he : e < 4294967296) : 4294967295 ^^^ e = 4294967295 - e := by
  have h := BitVec.toNat_not (x := BitVec.ofNat 32 e)
  have h2 : ~~~(BitVec.ofNat 32 e) = BitVec.allOnes 32 ^^^ BitVec.ofNat 32 e := BitVec.not_def
  rw [h2, BitVec.toNat_xor, BitVec.toNat_allOnes, BitVec.toNat_ofNat, Nat.mod_eq_of_lt (by simpa using he)] at h
  simpa using h
theorem cho_bits (e f g : Nat) (he : e < 4294967296) (hf : f < 4294967296) (hg : g < 4294967296) : ∃ N P Q R : Nat, bits .xor .u32 (if IntKind.u32.signed = true then -1 else IntKind.u32.max) (e : Int) = (N : Int) ∧ bits .and .u32 (e : Int) (f : Int) = (P : Int) ∧ bits .and .u32 (N : Int) (g : Int) = (Q : Int) ∧ bits .xor .u32 (P : Int) (Q : Int) = (R : Int) ∧ R < 4294967296 ∧ cho e f g = R := by
  have hn : (if IntKind.u32.signed = true then -1 else IntKind.u32.max) = ((4294967295 : Nat) : Int) := rfl
  rw [hn]
  exact ⟨4294967295 - e, e &&& f, (4294967295 - e) &&& g, cho e f g, by rw [u32_xor_nat _ _ (by decide) he, not_xor e he], u32_and_nat _ _ he hf, u32_and_nat _ _ (by omega) hg, u32_xor_nat _ _ (and_lt he) (and_lt (by omega)), cho_lt he, rfl⟩
/-- The state with what stands behind place n moved on by one. -/
def shf (V : List Nat) (n : Nat) : List Nat := (List.range 8).map fun j => if n < j then V.getD (j - 1) 0 else V.getD j 0
theorem shf_len (V : List Nat) (n : Nat) : (shf V n).length = 8 := by simp [shf]
theorem shf_set (V : List Nat) (n : Nat) (h0 : 0 < n) (h7 : n ≤ 7) : (shf V n).set n ((shf V n).getD (n - 1) 0) = shf V (n - 1) := by
  rcases (by omega : n = 1 ∨ n = 2 ∨ n = 3 ∨ n = 4 ∨ n = 5 ∨ n = 6 ∨ n = 7) with rfl | rfl | rfl | rfl | rfl | rfl | rfl <;> rfl
theorem shf_all (V : List Nat) (h : V.length = 8) : shf V 7 = V := by
  match V, h with
  | [_, _, _, _, _, _, _, _], _ => rfl
theorem rnd_shf (V : List Nat) (k w : Nat) : rnd V k w = ((shf V 0).set 4 (((shf V 0).getD 4 0 + rT V k w) % 4294967296)).set 0 ((rT V k w + rU V) % 4294967296) := rfl
theorem shf_four (V : List Nat) : (shf V 0).getD 4 0 = V.getD 3 0 := rfl
/-- The sums of the first j words. -/
def zps (s V : List Nat) (j : Nat) : List Nat := (List.zipWith (fun x y => (x + y) % 4294967296) s V).take j ++ s.drop j
theorem zps_none (s V : List Nat) : zps s V 0 = s := by simp [zps]
theorem zps_all (s V : List Nat) (h : s.length = 8) (h' : V.length = 8) : zps s V 8 = List.zipWith (fun x y => (x + y) % 4294967296) s V := by
  unfold zps
  rw [List.take_of_length_le (by simp [h, h']), List.drop_of_length_le (by omega), List.append_nil]
theorem zps_len (s V : List Nat) (j : Nat) (h : s.length = 8) (h' : V.length = 8) (hj : j ≤ 8) : (zps s V j).length = 8 := by
  simp [zps, h, h']; omega
theorem zps_get (s V : List Nat) (j : Nat) (h : s.length = 8) (h' : V.length = 8) (hj : j < 8) : (zps s V j).getD j 0 = s.getD j 0 := by
  simp only [zps, List.getD]
  rw [List.getElem?_append_right (by simp [h, h']; omega)]
  simp [h, h', Nat.min_eq_left (Nat.le_of_lt hj)]
theorem zps_set (s V : List Nat) (j : Nat) (h : s.length = 8) (h' : V.length = 8) (hj : j < 8) : (zps s V j).set j ((s.getD j 0 + V.getD j 0) % 4294967296) = zps s V (j + 1) := by
  match s, h, V, h' with
  | [_, _, _, _, _, _, _, _], _, [_, _, _, _, _, _, _, _], _ =>
    rcases (by omega : j = 0 ∨ j = 1 ∨ j = 2 ∨ j = 3 ∨ j = 4 ∨ j = 5 ∨ j = 6 ∨ j = 7) with rfl | rfl | rfl | rfl | rfl | rfl | rfl | rfl <;> rfl
theorem eight (l : List Nat) (h : l.length = 8) : ∃ a b c d e f g i, l = [a, b, c, d, e, f, g, i] := by
  match l, h with
  | [a, b, c, d, e, f, g, i], _ => exact ⟨a, b, c, d, e, f, g, i, rfl⟩
theorem kk_lt : ∀ x ∈ kk, x < 4294967296 := by decide
end
end Go.Proofs.YtidglddjinfncabDoor
