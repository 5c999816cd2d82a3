import Derived.Test.YtedgdnoafajhoabDoorRu
namespace Go.Proofs.YtedgdnoafajhoabDoor
open Go.RowKit

theorem sha_len (xs : List Nat) : (sha xs).length = 32 := outb_len _ (abs_len _ hh rfl _)
theorem sha_byte (xs : List Nat) : ∀ x ∈ sha xs, x < 256 := outb_byte _
/-- A block of bytes, as a slice of all of it. -/
theorem bsl_block {w : World} {g : Nat} {xs : List Nat} {t : TypeId} (h : w.heap[g]? = some (.cells (bv xs).toArray t (0, 0))) (hb : ∀ x ∈ xs, x < 256) (hl : xs.length ≤ 9223372036854775807) : BSl w (.slice (some ⟨g, 0, none⟩) xs.length xs.length) xs := by
  refine ⟨⟨_, xs.length, rfl, ⟨Nat.le_refl _, fun h => by cases h⟩, .inr ⟨g, 0, rfl, fun j hj => ?_⟩⟩, hl, hb⟩
  rw [Nat.zero_add]
  exact blk_cell h (by rw [List.getElem?_toArray]; exact bv_get hj)
/-- What Holds of the document tells. -/
def dholds (h : Nat) (d xs : List Nat) : Bool := if h = 18 then decide (d = sha xs) else decide (h = 0) && (decide (d.length ≤ 64) && decide (d = xs))

theorem info32d (xs : List Nat) : (Tryd.prog.info? 22).map (·.size) = some (bv (sha xs)).toArray.size := by
  have h := info32
  simpa [bv_len, sha_len] using h
theorem one32 (xs : List Nat) : (bv (sha xs)).toArray.all (·.oneCell') = true := by
  rw [Array.all_eq_true_iff_forall_mem]
  intro u hu
  exact bv_one _ u (by simpa using hu)

end Go.Proofs.YtedgdnoafajhoabDoor
