import Derived.Test.YtedgdnoafajhoabDoorRd
import Derived.Test.YtedgdnoafajhoabDoorRc
namespace Go.Proofs.YtedgdnoafajhoabDoor
open Go.RowKit

theorem pad_len (b : List Nat) : (pad b).length = b.length + 1 + zer b.length + 8 := by simp [pad, beb_len]; omega
theorem pad_mod (b : List Nat) : (pad b).length % 64 = 0 := by rw [pad_len]; have := zer_mod b.length; omega
theorem pad_byte (b : List Nat) (h : ∀ x ∈ b, x < 256) : ∀ x ∈ pad b, x < 256 := by
  intro x hx
  unfold pad at hx
  rcases List.mem_append.1 hx with hx | hx
  · rcases List.mem_append.1 hx with hx | hx
    · rcases List.mem_append.1 hx with hx | hx
      · exact h x hx
      · simp at hx; omega
    · have := List.eq_of_mem_replicate hx; omega
  · exact beb_byte _ _ _ hx
theorem cmp_lt (b : List Nat) (p : Nat) (s : List Nat) : ∀ x ∈ cmp b p s, x < 4294967296 := by
  intro x hx
  unfold cmp at hx
  obtain ⟨i, hi, e⟩ := List.mem_iff_getElem.1 hx
  rw [List.getElem_zipWith] at e
  rw [← e]
  exact Nat.mod_lt _ (by decide)
theorem abs_lt (b s : List Nat) (h : ∀ x ∈ s, x < 4294967296) : ∀ n, ∀ x ∈ abs b s n, x < 4294967296
  | 0, x, hx => h x hx
  | _ + 1, x, hx => cmp_lt _ _ _ x hx
theorem hh_lt : ∀ x ∈ hh, x < 4294967296 := by decide

/-! ### Whole rows -/
theorem row_same {w : World} {g : Nat} {old cs : Array Value} {t : TypeId} (h : w.heap[g]? = some (.cells old t (0, 0))) : (w.setRow g cs).heap[g]? = some (.cells cs t (0, 0)) := by
  simp [World.setRow, Array.getElem?_modify, h]
theorem row_other {w : World} {g k : Nat} {cs : Array Value} (h : k ≠ g) : (w.setRow g cs).heap[k]? = w.heap[k]? := by
  have h' : ¬ g = k := fun e => h e.symm
  simp [World.setRow, Array.getElem?_modify, h']
theorem row_kp (w : World) (g : Nat) (cs : Array Value) : Kp (fun q => q = g) w (w.setRow g cs) :=
  ⟨rfl, rfl, rfl, by simp [World.setRow], fun _ _ h => row_other h⟩
theorem row_load {w : World} {g n : Nat} {cs : Array Value} {t : TypeId} (h : w.heap[g]? = some (.cells cs t (0, 0))) (hn : cs.size = n) : Sem.run Tryd.prog (loadCellsFrom ⟨g, 0, none⟩ 0 n #[]) w = .ok cs w := by
  subst hn
  have := run_loadCells_list (P := Tryd.prog) (w := w) ⟨g, 0, none⟩ cs.toList (fun j v hv => by
    have hadd : (⟨g, 0, none⟩ : Addr).add j = ⟨g, j, none⟩ := by unfold Addr.add; split <;> simp_all
    rw [hadd]
    exact blk_cell h (by simpa using hv))
  simpa [loadCells] using this
theorem row_store {w : World} {g : Nat} {old cs : Array Value} {t : TypeId} (h : w.heap[g]? = some (.cells old t (0, 0))) (hn : cs.size = old.size) (h1 : ∀ v ∈ cs.toList, v.oneCell' = true) : Sem.run Tryd.prog (storeCells ⟨g, 0, none⟩ cs.toList) w = .ok () (w.setRow g cs) := by
  have := run_storeCells_from (P := Tryd.prog) g t cs.toList 0 old w h (by simp; omega) h1
  simpa using this
/-- A whole array out of its block, by value. -/
theorem wpList_loadRow {ops : Array Oper} {rest : List Oper} {o : Oper} {a : Act} {Q : Exit → Act → World → Prop} {w : World} {T e : TypeId} {p : Operand} (hgd : o.guard = none) (ho : o.op = .load T p) (g n : Nat) (cs : Array Value) (t : TypeId)
    (hp : a.eval p = .pointer (some ⟨g, 0, none⟩)) (hg : w.heap[g]? = some (.cells cs t (0, 0))) (hu : Tryd.prog.underlying T = some (.array n e)) (hi : (Tryd.prog.info? T).map (·.size) = some cs.size)
    (h : wpList Tryd.prog ops Q rest (a.put o.dst (.agg cs)) w) : wpList Tryd.prog ops Q (o :: rest) a w := by
  refine wpList_plain hgd fun K hK => ?_
  unfold Oper.wp execOp
  have hr : (Instr.loadAt T (.pointer (some ⟨g, 0, none⟩))).run Tryd.prog w = .ok (.agg cs) w := by
    simp only [Instr.loadAt, Instr.sureAddr, Sem.run_bind, Sem.run_pure, Result.andThen]
    exact run_loadVar_row (P := Tryd.prog) w g t T cs (0, 0) _ hg hu rfl hi
  simp only [ho, Sem.run_bind, hp, hr, Result.andThen_ok]
  exact hK _ _ h
theorem wpList_storeRow {ops : Array Oper} {rest : List Oper} {o : Oper} {a : Act} {Q : Exit → Act → World → Prop} {w : World} {T : TypeId} {p x : Operand} (hgd : o.guard = none) (ho : o.op = .store T p x) (g : Nat) (old cs : Array Value) (t : TypeId)
    (hp : a.eval p = .pointer (some ⟨g, 0, none⟩)) (hx : a.eval x = .agg cs) (hg : w.heap[g]? = some (.cells old t (0, 0))) (hi : (Tryd.prog.info? T).map (·.size) = some cs.size) (hn : old.size = cs.size) (h1 : cs.all (·.oneCell') = true)
    (h : wpList Tryd.prog ops Q rest (a.put o.dst undef) (w.setRow g cs)) : wpList Tryd.prog ops Q (o :: rest) a w := by
  refine wpList_plain hgd fun K hK => ?_
  unfold Oper.wp execOp
  have hr : (Instr.storeAt T (.pointer (some ⟨g, 0, none⟩)) (.agg cs)).run Tryd.prog w = .ok () (w.setRow g cs) := by
    simp only [Instr.storeAt, Instr.sureAddr, Sem.run_bind, Sem.run_pure, Result.andThen]
    exact run_storeVar_row (P := Tryd.prog) w g t T old cs hg hi hn h1
  simp only [ho, Sem.run_bind, hp, hx, hr, Result.andThen_ok]
  exact hK _ _ h
theorem wv_one (l : List Nat) : ∀ v ∈ wv l, v.oneCell' = true := by
  intro v hv
  simp [wv] at hv
  obtain ⟨x, _, rfl⟩ := hv
  rfl
theorem z32_lit : (bv (List.replicate 32 0)).toArray = #[.int .u8 0, .int .u8 0, .int .u8 0, .int .u8 0, .int .u8 0, .int .u8 0, .int .u8 0, .int .u8 0, .int .u8 0, .int .u8 0, .int .u8 0, .int .u8 0, .int .u8 0, .int .u8 0, .int .u8 0, .int .u8 0, .int .u8 0, .int .u8 0, .int .u8 0, .int .u8 0, .int .u8 0, .int .u8 0, .int .u8 0, .int .u8 0, .int .u8 0, .int .u8 0, .int .u8 0, .int .u8 0, .int .u8 0, .int .u8 0, .int .u8 0, .int .u8 0] := by kernel_rfl
theorem info8 : (Tryd.prog.info? 32).map (·.size) = some (wv hh).toArray.size := by kernel_rfl
theorem info32 : (Tryd.prog.info? 22).map (·.size) = some 32 := by kernel_rfl
theorem store_hh (w : World) : Sem.run Tryd.prog (storeCells ⟨w.heap.size, 0, none⟩ (wv hh)) (w.alloc (.cells #[.int .u32 0, .int .u32 0, .int .u32 0, .int .u32 0, .int .u32 0, .int .u32 0, .int .u32 0, .int .u32 0] 32)) = .ok () (w.alloc (.cells (wv hh).toArray 32)) := by
  have h := run_storeCells_new (P := Tryd.prog) w 32 #[.int .u32 0, .int .u32 0, .int .u32 0, .int .u32 0, .int .u32 0, .int .u32 0, .int .u32 0, .int .u32 0] (wv hh).toArray info8 (by kernel_rfl) (by kernel_rfl)
  exact h

theorem outb_len (s : List Nat) (h : s.length = 8) : (outb s).length = 32 := by
  match s, h with
  | [_, _, _, _, _, _, _, _], _ => rfl
theorem out_set (l : List Nat) (hl : l.length = 32) (j : Nat) (hj : j < 32) : (bv (l.take j ++ List.replicate (32 - j) 0)).toArray.setIfInBounds j (.int .u8 ((l.getD j 0 : Nat) : Int)) = (bv (l.take (j + 1) ++ List.replicate (32 - (j + 1)) 0)).toArray := by
  have e : 32 - j = (32 - (j + 1)) + 1 := by omega
  rw [List.setIfInBounds_toArray, e, List.replicate_succ, take_snoc3 l j (by omega)]
  congr 1
  simp only [bv, List.map_append, List.map_cons]
  rw [List.set_append_right _ _ (by simp [hl]; omega)]
  simp [hl, Nat.min_eq_left (Nat.le_of_lt hj)]
theorem outb_byte (s : List Nat) : ∀ x ∈ outb s, x < 256 := by
  intro x hx
  unfold outb at hx
  obtain ⟨y, _, hy⟩ := List.mem_flatMap.1 hx
  exact beb_byte _ _ _ hy
theorem outb_get (s : List Nat) (h : s.length = 8) (j : Nat) (hj : j < 32) : (outb s).getD j 0 = s.getD (j / 4) 0 / 256 ^ (3 - j % 4) % 256 := by
  match s, h with
  | [_, _, _, _, _, _, _, _], _ =>
    rcases (by omega : j = 0 ∨ j = 1 ∨ j = 2 ∨ j = 3 ∨ j = 4 ∨ j = 5 ∨ j = 6 ∨ j = 7 ∨ j = 8 ∨ j = 9 ∨ j = 10 ∨ j = 11 ∨ j = 12 ∨ j = 13 ∨ j = 14 ∨ j = 15 ∨ j = 16 ∨ j = 17 ∨ j = 18 ∨ j = 19 ∨ j = 20 ∨ j = 21 ∨ j = 22 ∨ j = 23 ∨ j = 24 ∨ j = 25 ∨ j = 26 ∨ j = 27 ∨ j = 28 ∨ j = 29 ∨ j = 30 ∨ j = 31) with rfl | rfl | rfl | rfl | rfl | rfl | rfl | rfl | rfl | rfl | rfl | rfl | rfl | rfl | rfl | rfl | rfl | rfl | rfl | rfl | rfl | rfl | rfl | rfl | rfl | rfl | rfl | rfl | rfl | rfl | rfl | rfl <;> rfl

end Go.Proofs.YtedgdnoafajhoabDoor
