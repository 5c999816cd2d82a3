import Derived.Test.YtedgdnoafajhoaaDoorDc
namespace Go.Proofs.YtedgdnoafajhoaaDoor
open Go.RowKit

set_option maxRecDepth 1000000 in
theorem first_any (w : World) : Calls Tryd.prog 41 #[] w fun e w' => e = .returned (.agg (wv hh).toArray) ∧ Below w.heap.size w w' := by
  go_enter Tryd.func41, Tryd.ntmps41
  go_wp2
  refine bodyPost_ret (v := .agg #[.int .u32 1779033703, .int .u32 3144134277, .int .u32 1013904242, .int .u32 2773480762, .int .u32 1359893119, .int .u32 2600822924, .int .u32 528734635, .int .u32 1541459225]) ((results_one (p := 0) (ty := 92) rfl _ _ _).trans (by go_simp; first | done | rfl)) rfl ⟨by kernel_rfl, ?_⟩
  exact (Below.refl _ _).alloc (Nat.le_refl _) _

/-! ### A hash under way -/
/-- The cells of a hash. -/
def hc (s r : List Nat) (c : Nat) : List Value := wv s ++ (bv r ++ [.int .u64 ((c : Nat) : Int)])
theorem hc_len {s r : List Nat} {c : Nat} (hs : s.length = 8) (hr : r.length = 64) : (hc s r c).length = 73 := by simp [hc, wv, bv, hs, hr]
/-- What has not gone into the state. -/
def tl (xs : List Nat) : List Nat := xs.drop (64 * (xs.length / 64))
theorem tl_len (xs : List Nat) : (tl xs).length = xs.length % 64 := by simp [tl]; omega
def fillz (l : List Nat) : List Nat := l ++ List.replicate (64 - l.length) 0
theorem fillz_len {l : List Nat} (h : l.length ≤ 64) : (fillz l).length = 64 := by simp [fillz]; omega
/-- A block that holds a hash to which these bytes were written. -/
structure HS (w : World) (g : Nat) (xs : List Nat) : Prop where
  b : w.heap[g]? = some (.cells (hc (abs xs hh (xs.length / 64)) (fillz (tl xs)) xs.length).toArray 99 (0, 0))
theorem HS.kp {S : Nat → Prop} {w w' : World} {g : Nat} {xs : List Nat} (h : HS w g xs) (hk : Kp S w w') (hs : ¬ S g) : HS w' g xs := ⟨(hk.block g (blk_lt h.b) hs).trans h.b⟩
theorem HS.below {w w' : World} {g : Nat} {xs : List Nat} (h : HS w g xs) (hb : Below w.heap.size w w') : HS w' g xs := ⟨(hb.block g (blk_lt h.b)).trans h.b⟩
theorem newCells : List.foldl (fun cs x => cs.setIfInBounds x.snd x.fst) Tryd.zeroCells99 (wv hh).zipIdx = (hc hh (List.replicate 64 0) 0).toArray := by kernel_rfl

set_option maxRecDepth 1000000 in
theorem new_any (w : World) : Calls Tryd.prog 19 #[] w fun e w' => ∃ g, e = .returned (.pointer (some ⟨g, 0, none⟩)) ∧ w.heap.size ≤ g ∧ HS w' g [] ∧ Below w.heap.size w w' := by
  go_enter Tryd.func19, Tryd.ntmps19
  go_wp2_with fail
  refine (first_any _).mono ?_
  rintro e w1 ⟨rfl, hb1⟩
  go_wp2_with fail
  rw [newCells]
  go_ret
  exact ⟨w1.heap.size, rfl, hb1.size, ⟨heap_alloc_new w1 _⟩, hb1.alloc hb1.size _⟩
end Go.Proofs.YtedgdnoafajhoaaDoor
