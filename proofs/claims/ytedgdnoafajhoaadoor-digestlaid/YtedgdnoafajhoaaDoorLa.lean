import Derived.Test.YtedgdnoafajhoaaDoorDz
import Derived.DeepKeys
namespace Go.Proofs.YtedgdnoafajhoaaDoor
open Go.RowKit Go

def abcd : List Nat := [0xba, 0x78, 0x16, 0xbf, 0x8f, 0x01, 0xcf, 0xea, 0x41, 0x41, 0x40, 0xde, 0x5d, 0xae, 0x22, 0x23, 0xb0, 0x03, 0x61, 0xa3, 0x96, 0x17, 0x7a, 0x9c, 0xb4, 0x10, 0xff, 0x61, 0xf2, 0x00, 0x15, 0xad]

set_option maxRecDepth 1000000 in
theorem num3_any (w : World) (n : Int) : Calls Tryd.prog 26 #[.int .i64 n] w fun e w' => e = .returned (.int .i64 n) ∧ w' = w := by
  go_enter Tryd.func26, Tryd.ntmps26
  go_wp2_with fail
  go_ret
  exact ⟨rfl, rfl⟩

theorem plain5 : Tryd.prog.plainKey 5 = true := by kernel_rfl
theorem cells5 : Tryd.prog.cellsOf 5 = 1 := by kernel_rfl
theorem eqb_items (w : World) (d : Nat) (xs ys : List Nat) : ∀ is : List Nat, (∀ i ∈ is, i < xs.length ∧ i < ys.length) → (Op.eqItems (d + 1) 5 1 (bv xs).toArray (bv ys).toArray is).run Tryd.prog w = .ok (decide (∀ i ∈ is, xs.getD i 0 = ys.getD i 0)) w
  | [], _ => by simp [Op.eqItems]
  | i :: is, h => by
    have hi := h i (by simp)
    have p1 := run_part_plain (P := Tryd.prog) w plain5 (xs := (bv xs).toArray) (by rw [List.getElem?_toArray]; exact bv_get hi.1)
    have p2 := run_part_plain (P := Tryd.prog) w plain5 (xs := (bv ys).toArray) (by rw [List.getElem?_toArray]; exact bv_get hi.2)
    have ih := eqb_items w d xs ys is (fun j hj => h j (by simp [hj]))
    have p3 : (Op.equalIn (d + 1) 5 (.int .u8 ((xs.getD i 0 : Nat) : Int)) (.int .u8 ((ys.getD i 0 : Nat) : Int))).run Tryd.prog w = .ok (decide (xs.getD i 0 = ys.getD i 0)) w := by
      simp [Op.equalIn, run_underlying Tryd.underlying5, Result.andThen]
      by_cases e : xs[i]?.getD 0 = ys[i]?.getD 0
      · simp [e]
      · have e2 : ¬ ((xs[i]?.getD 0 : Nat) : Int) = ((ys[i]?.getD 0 : Nat) : Int) := by omega
        simp [e, e2]
    simp only [Op.eqItems, Nat.mul_one, Sem.run_bind, p1, p2, p3, Result.andThen_ok]
    by_cases e : xs.getD i 0 = ys.getD i 0
    · have e2 : (∀ j ∈ i :: is, xs.getD j 0 = ys.getD j 0) ↔ (∀ j ∈ is, xs.getD j 0 = ys.getD j 0) :=
        ⟨fun h j hj => h j (List.mem_cons_of_mem _ hj), fun h j hj => by
          rcases List.mem_cons.1 hj with rfl | hj
          · exact e
          · exact h j hj⟩
      rw [decide_eq_true e, decide_eq_decide.2 e2]
      exact ih
    · rw [decide_eq_false e, decide_eq_false (fun h => e (h i (by simp)))]
      rfl
theorem list_ext_getD {xs ys : List Nat} (h : xs.length = ys.length) (hg : ∀ i, i < xs.length → xs.getD i 0 = ys.getD i 0) : xs = ys := by
  apply List.ext_getElem h
  intro i h1 h2
  have := hg i h1
  simpa [List.getD, h1, h2] using this
theorem eqin32 (w : World) (xs ys : List Nat) (hx : xs.length = 32) (hy : ys.length = 32) : (Op.equalIn 10000 28 (.agg (bv xs).toArray) (.agg (bv ys).toArray)).run Tryd.prog w = .ok (decide (xs = ys)) w := by
  obtain ⟨i5, hi, _⟩ := info5_ex
  have h : (Op.equalIn 10000 28 (.agg (bv xs).toArray) (.agg (bv ys).toArray)).run Tryd.prog w = _ := run_equalIn_array (P := Tryd.prog) w 9999 (bv xs).toArray (bv ys).toArray Tryd.underlying28 hi
  have h2 : (Op.eqItems 9999 5 1 (bv xs).toArray (bv ys).toArray (List.range 32)).run Tryd.prog w = _ := eqb_items w 9998 xs ys (List.range 32) (fun i hi => by have := List.mem_range.1 hi; omega)
  rw [cells5, h2] at h
  have e : decide (∀ i ∈ List.range 32, xs.getD i 0 = ys.getD i 0) = decide (xs = ys) := by
    by_cases e : xs = ys
    · subst e; simp
    · rw [decide_eq_false e]
      exact decide_eq_false (fun hall => e (list_ext_getD (by omega) (fun i hi => hall i (List.mem_range.2 (by omega)))))
  rw [e] at h
  exact h

set_option maxRecDepth 1000000 in
set_option maxHeartbeats 1000000 in
theorem abc_any (w : World) : Calls Tryd.prog 35 #[] w fun e w' => e = .returned (.agg (bv abcd).toArray) ∧ Below w.heap.size w w' := by
  go_enter Tryd.func35, Tryd.ntmps35
  go_wp2_with (first
    | (refine wpList_buildW (A := (bv abcd).toArray) rfl rfl (by kernel_rfl) ?_)
    | (refine wpList_storeRow rfl rfl w.heap.size _ (bv abcd).toArray 28 rfl rfl (heap_alloc_new w _) info32 (by rfl) (by kernel_rfl) ?_))
  rw [World.setRow_alloc_new]
  refine bodyPost_ret (v := .agg (bv abcd).toArray) ((results_one (p := 0) (ty := 28) rfl _ _ _).trans (run_loadVar_row (P := Tryd.prog) _ w.heap.size 28 28 (bv abcd).toArray (0, 0) _ (heap_alloc_new w _) Tryd.underlying28 rfl info32)) rfl ⟨rfl, ?_⟩
  exact (Below.refl _ _).alloc (Nat.le_refl _) _

set_option maxRecDepth 1000000 in
theorem same3l_any (w : World) (xs ys : List Nat) (hx : xs.length = 32) (hy : ys.length = 32) : Calls Tryd.prog 12 #[.agg (bv xs).toArray, .agg (bv ys).toArray] w fun e w' => e = .returned (.bool (decide (xs = ys))) ∧ Below w.heap.size w w' := by
  have HA : Hid (((w.alloc (.cells (bv xs).toArray 28)).alloc (.cells (bv ys).toArray 28)).heap[w.heap.size]? = some (.cells (bv xs).toArray 28 (0, 0))) := blk_alloc _ (heap_alloc_new w _)
  have HB := hide (alloc2_new w (.cells (bv xs).toArray 28) (.cells (bv ys).toArray 28))
  have HX : Hid ((Tryd.prog.info? 28).map (·.size) = some (bv xs).toArray.size) := by show _ = _; rw [List.size_toArray, bv_len, hx]; exact info32
  have HY : Hid ((Tryd.prog.info? 28).map (·.size) = some (bv ys).toArray.size) := by show _ = _; rw [List.size_toArray, bv_len, hy]; exact info32
  have HL : Hid (Below w.heap.size w ((w.alloc (.cells (bv xs).toArray 28)).alloc (.cells (bv ys).toArray 28))) := ((Below.refl _ _).alloc (Nat.le_refl _) _).alloc (by simp) _
  have he := eqin32 ((w.alloc (.cells (bv xs).toArray 28)).alloc (.cells (bv ys).toArray 28)) xs ys hx hy
  go_enter Tryd.func12, Tryd.ntmps12
  go_wp2_with (first
    | (refine wpList_loadRow rfl rfl w.heap.size 32 (bv xs).toArray 28 rfl HA.out Tryd.underlying28 HX.out ?_)
    | (refine wpList_loadRow rfl rfl (w.heap.size + 1) 32 (bv ys).toArray 28 rfl HB.out Tryd.underlying28 HY.out ?_))
  go_ret
  exact ⟨rfl, HL.out⟩
end Go.Proofs.YtedgdnoafajhoaaDoor
