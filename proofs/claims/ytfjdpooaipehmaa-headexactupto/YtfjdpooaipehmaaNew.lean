import Derived.Test.YtfjdpooaipehmaaLtc
namespace Go.Proofs.Ytfjdpooaipehmaa
open Go.RowKit

/-- A new book and a new Late. -/
theorem hs_new (w : World) :
    Hs ((w.alloc (.cells (bookCells (.slice none 0 0) (.slice none 0 0) 0 0 0 0) 46)).alloc (.cells #[.slice none 0 0, .slice none 0 0] 49)) w.heap.size (fun q => w.heap.size + 2 ≤ q) w.heap.size (w.heap.size + 1) 0 0 := by
  have hb : BkBlk ((w.alloc (.cells (bookCells (.slice none 0 0) (.slice none 0 0) 0 0 0 0) 46)).alloc (.cells #[.slice none 0 0, .slice none 0 0] 49)) w.heap.size (.slice none 0 0) (.slice none 0 0) 0 0 0 0 :=
    BkBlk.alloc (heap_alloc_new w _) _
  have hl : ((w.alloc (.cells (bookCells (.slice none 0 0) (.slice none 0 0) 0 0 0 0) 46)).alloc (.cells #[.slice none 0 0, .slice none 0 0] 49)).heap[w.heap.size + 1]? = some (.cells #[.slice none 0 0, .slice none 0 0] 49 (0, 0)) := by
    have := heap_alloc_new (w.alloc (.cells (bookCells (.slice none 0 0) (.slice none 0 0) 0 0 0 0) 46)) (.cells #[.slice none 0 0, .slice none 0 0] 49)
    simpa using this
  refine ⟨fun q => q = w.heap.size, fun q => q = w.heap.size + 1, ⟨.slice none 0 0, .slice none 0 0, [], 0, 0, 0, ⟨hb, World.ownsRow_nil _ _ _ _, World.ownsRow_nil _ _ _ _, by simp, by simp, Nat.le_refl _, by simp, by decide, by decide, ⟨0, 0, rfl, rfl, by decide⟩, by simp, by simp⟩, fun q hq => ?_⟩,
    ⟨.slice none 0 0, .slice none 0 0, [], ⟨hl, World.ownsRow_nil _ _ _ _, World.ownsRow_nil _ _ _ _, (fun q hq => by cases hq), by simp, by simp, by simp, by simp, by simp, by omega⟩, fun q hq => ?_, Nat.le_refl _⟩, fun q h1 h2 => by omega, fun q hor => ?_⟩
  · rcases hq with h | h | h | ⟨e, he, _⟩
    · exact h
    · cases h
    · cases h
    · cases he
  · rcases hq with h | h | h | ⟨p, hp, _⟩ | ⟨p, hp, _⟩
    · exact h
    · cases h
    · cases h
    · cases hp
    · cases hp
  · have hs : ((w.alloc (.cells (bookCells (.slice none 0 0) (.slice none 0 0) 0 0 0 0) 46)).alloc (.cells #[.slice none 0 0, .slice none 0 0] 49)).heap.size = w.heap.size + 2 := by simp
    rw [hs]
    rcases hor with h | h <;> omega

theorem builtBook : Try.prog.built 46 [] = some (bookCells (.slice none 0 0) (.slice none 0 0) 0 0 0 0) := by kernel_rfl

theorem run_buildBook (w : World) : (Instr.build 46 #[]).run Try.prog w = .ok (.agg (bookCells (.slice none 0 0) (.slice none 0 0) 0 0 0 0)) w := run_build w 46 #[] _ builtBook

theorem wpList_buildBook {ops : Array Oper} {rest : List Oper} {o : Oper} {a : Act} {Q : Exit → Act → World → Prop} {w : World} (hgd : o.guard = none) (ho : o.op = .build 46 #[])
    (h : wpList Try.prog ops Q rest (a.put o.dst (.agg (bookCells (.slice none 0 0) (.slice none 0 0) 0 0 0 0))) w) : wpList Try.prog ops Q (o :: rest) a w := by
  refine wpList_plain hgd fun K hK => ?_
  unfold Oper.wp execOp
  have hr := run_buildBook w
  simp only [ho, Sem.run_bind, List.map_toArray, List.map_nil, hr, Result.andThen_ok]
  exact hK _ _ h
end Go.Proofs.Ytfjdpooaipehmaa
