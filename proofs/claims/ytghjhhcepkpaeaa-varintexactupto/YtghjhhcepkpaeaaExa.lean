import Derived.Test.YtghjhhcepkpaeaaRefc
import Derived.Test.YtghjhhcepkpaeaaLtc
namespace Go.Proofs.Ytghjhhcepkpaeaa
open Go.RowKit

/-- A number's bytes, and the error's number beside them. -/
def layD (n : Int) : List Nat := if n < 9223372036854775808 then digs 9 n.toNat else []
def layG (n : Int) : Int := if n < 9223372036854775808 then 0 else 11
theorem layD_len (n : Int) : (layD n).length ≤ 9 := by
  unfold layD; split
  · exact digs_len 9 _
  · simp
theorem layD_byte (n : Int) : ∀ x ∈ layD n, x < 256 := by
  unfold layD; split
  · exact digs_byte 9 _
  · simp

theorem lay_all (n : Int) (w : World) (h0 : 0 ≤ n) :
    Calls Try.prog 6 #[.int .u64 n] w fun e w' => ∃ v, e = .returned (.tuple #[v, .int .i64 (layG n)]) ∧ w'.ownsRow w.heap.size 5 1 v (layD n).length (bv (layD n)) ∧ Below w.heap.size w w' := by
  unfold layD layG
  by_cases h1 : n < 9223372036854775808
  · rw [if_pos h1, if_pos h1]; exact lay_any n w h0 h1
  · rw [if_neg h1, if_neg h1]
    refine (lay_no n w (by omega)).mono ?_
    rintro e w' ⟨rfl, rfl⟩
    exact ⟨_, rfl, World.ownsRow_nil _ _ _ _, Below.refl _ _⟩
theorem refLay_all (n : Int) (w : World) (h0 : 0 ≤ n) :
    Calls Try.prog 7 #[.int .u64 n] w fun e w' => ∃ v, e = .returned (.tuple #[v, .int .i64 (layG n)]) ∧ w'.ownsRow w.heap.size 5 1 v (layD n).length (bv (layD n)) ∧ Below w.heap.size w w' := by
  unfold layD layG
  by_cases h1 : n < 9223372036854775808
  · rw [if_pos h1, if_pos h1]; exact refLay_any n w h0 h1
  · rw [if_neg h1, if_neg h1]
    refine (refLay_no n w (by omega)).mono ?_
    rintro e w' ⟨rfl, rfl⟩
    exact ⟨_, rfl, World.ownsRow_nil _ _ _ _, Below.refl _ _⟩
theorem len_all (n : Int) (w : World) (h0 : 0 ≤ n) :
    Calls Try.prog 9 #[.int .u64 n] w fun e w' => e = .returned (.int .i64 ((layD n).length : Nat)) ∧ w' = w := by
  unfold layD
  by_cases h1 : n < 9223372036854775808
  · rw [if_pos h1]; exact len_any n w h0 h1
  · rw [if_neg h1]
    refine (len_no n w (by omega)).mono ?_
    rintro e w' ⟨rfl, rfl⟩
    exact ⟨rfl, rfl⟩

/-- A new book and a new Late. -/
theorem hs_new (w : World) :
    Hs ((w.alloc (.cells (bookCells (.slice none 0 0) (.slice none 0 0) 0 0 0 0) 46)).alloc (.cells #[.slice none 0 0, .slice none 0 0] 49)) w.heap.size (fun q => w.heap.size + 2 ≤ q) w.heap.size (w.heap.size + 1) 0 0 := by
  have hb : BkBlk ((w.alloc (.cells (bookCells (.slice none 0 0) (.slice none 0 0) 0 0 0 0) 46)).alloc (.cells #[.slice none 0 0, .slice none 0 0] 49)) w.heap.size (.slice none 0 0) (.slice none 0 0) 0 0 0 0 :=
    BkBlk.alloc (heap_alloc_new w _) _
  have hl : ((w.alloc (.cells (bookCells (.slice none 0 0) (.slice none 0 0) 0 0 0 0) 46)).alloc (.cells #[.slice none 0 0, .slice none 0 0] 49)).heap[w.heap.size + 1]? = some (.cells #[.slice none 0 0, .slice none 0 0] 49 (0, 0)) := by
    have := heap_alloc_new (w.alloc (.cells (bookCells (.slice none 0 0) (.slice none 0 0) 0 0 0 0) 46)) (.cells #[.slice none 0 0, .slice none 0 0] 49)
    simpa using this
  refine ⟨fun q => q = w.heap.size, fun q => q = w.heap.size + 1, ⟨.slice none 0 0, .slice none 0 0, [], 0, 0, 0, ⟨hb, World.ownsRow_nil _ _ _ _, World.ownsRow_nil _ _ _ _, by simp, by simp, Nat.le_refl _, by simp, by decide, by decide, ⟨0, 0, rfl, rfl, by decide⟩, by simp, by simp⟩, fun q hq => ?_⟩,
    ⟨.slice none 0 0, .slice none 0 0, [], ⟨hl, World.ownsRow_nil _ _ _ _, World.ownsRow_nil _ _ _ _, (fun q hq => by cases hq), by simp, by simp, by simp, by simp, by simp, by omega⟩, fun q hq => ?_, Nat.le_refl _⟩, fun q h1 h2 => by omega, fun q hor => ?_⟩
  · rcases hq with h | h | h | ⟨e, he, _⟩
    · exact h
    · cases h
    · cases h
    · cases he
  · rcases hq with h | h | h | ⟨p, hp, _⟩ | ⟨p, hp, _⟩
    · exact h
    · cases h
    · cases h
    · cases hp
    · cases hp
  · have hs : ((w.alloc (.cells (bookCells (.slice none 0 0) (.slice none 0 0) 0 0 0 0) 46)).alloc (.cells #[.slice none 0 0, .slice none 0 0] 49)).heap.size = w.heap.size + 2 := by simp
    rw [hs]
    rcases hor with h | h <;> omega
end Go.Proofs.Ytghjhhcepkpaeaa
