import Derived.Test.YtedgdnoafajhoaaDoorKp
namespace Go.Proofs.YtedgdnoafajhoaaDoor
open Go.RowKit

/-- The book's own block. -/
def BkBlk (w : World) (B : Nat) (vb vo : Value) (a t d u : Nat) : Prop := w.heap[B]? = some (.cells (bookCells vb vo a t d u) 68 (0, 0))
theorem BkBlk.cell {w : World} {B : Nat} {vb vo : Value} {a t d u : Nat} (h : BkBlk w B vb vo a t d u) (j : Nat) (v : Value) (hv : (bookCells vb vo a t d u)[j]? = some v) : w.cell? ⟨B, j, none⟩ = some v := blk_cell h hv
theorem BkBlk.set {w : World} {B : Nat} {vb vo vb' vo' : Value} {a t d u a' t' d' u' : Nat} (h : BkBlk w B vb vo a t d u) (j : Nat) (v : Value) (he : (bookCells vb vo a t d u).setIfInBounds j v = bookCells vb' vo' a' t' d' u') : BkBlk (w.setCell ⟨B, j, none⟩ v) B vb' vo' a' t' d' u' := by
  unfold BkBlk
  rw [blk_set j v h, he]
theorem BkBlk.kp {S : Nat → Prop} {w w' : World} {B : Nat} {vb vo : Value} {a t d u : Nat} (h : BkBlk w B vb vo a t d u) (hk : Kp S w w') (hs : ¬ S B) : BkBlk w' B vb vo a t d u := (hk.block B (blk_lt h) hs).trans h
theorem BkBlk.alloc {w : World} {B : Nat} {vb vo : Value} {a t d u : Nat} (h : BkBlk w B vb vo a t d u) (o : Obj) : BkBlk (w.alloc o) B vb vo a t d u := blk_alloc o h
theorem BkBlk.grown {w w' : World} {B : Nat} {vb vo : Value} {a t d u : Nat} {row : Option Nat} (h : BkBlk w B vb vo a t d u) (hg : w.grownBy w' row) (hr : row ≠ some B) : BkBlk w' B vb vo a t d u := (hg.block B (blk_lt h) (fun e => hr e.symm)).trans h

set_option maxRecDepth 100000 in
set_option maxHeartbeats 400000 in
theorem tight_full {w : World} {B : Nat} {vb vo : Value} {a t d u : Nat} (h : BkBlk w B vb vo a t d u) (n : Int) (hu : u ≤ 16777216) (hn0 : 0 ≤ n) (hn : n < 1099511627776) (hb : 16777216 < u + n) :
    Calls Tryd.prog 64 #[.pointer (some ⟨B, 0, none⟩), .int .i64 n] w fun e w' => e = .returned (.bool true) ∧ w' = w := by
  have c56 : w.cell? ⟨B, 56, none⟩ = some (.int .i64 (u : Nat)) := h.cell 56 _ rfl
  clear h
  go_enter Tryd.func64, Tryd.ntmps64
  go_wp2
  go_ret
  exact ⟨rfl, rfl⟩
set_option maxRecDepth 100000 in
set_option maxHeartbeats 400000 in
theorem tight_room {w : World} {B : Nat} {vb vo : Value} {a t d u : Nat} (h : BkBlk w B vb vo a t d u) (n : Int) (hu : u ≤ 16777216) (hn0 : 0 ≤ n) (hn : n < 1099511627776) (hb : ¬ 16777216 < u + n) :
    Calls Tryd.prog 64 #[.pointer (some ⟨B, 0, none⟩), .int .i64 n] w fun e w' => e = .returned (.bool false) ∧ BkBlk w' B vb vo a t d (u + n.toNat) ∧ Kp (fun k => k = B) w w' := by
  have c56 : w.cell? ⟨B, 56, none⟩ = some (.int .i64 (u : Nat)) := h.cell 56 _ rfl
  have f56 := blk_frozen 56 h
  have HH := hide h
  have e : (u : Int) + n = ((u + n.toNat : Nat) : Int) := by omega
  have HE := hide e
  clear h e
  go_enter Tryd.func64, Tryd.ntmps64
  go_wp2
  go_ret
  refine ⟨rfl, ?_, (Kp.refl _ _).setCell _ _ (fun _ => rfl)⟩
  rw [HE.out]
  exact HH.out.set 56 _ rfl
set_option maxRecDepth 100000 in
set_option maxHeartbeats 400000 in
theorem kept_any {w : World} {B : Nat} {vb vo : Value} {a t d u : Nat} (h : BkBlk w B vb vo a t d u) :
    Calls Tryd.prog 66 #[.pointer (some ⟨B, 0, none⟩)] w fun e w' => e = .returned (.bool true) ∧ w' = w := by
  have c6 : w.cell? ⟨B, 6, none⟩ = some (.slice none 0 0) := h.cell 6 _ rfl
  have c9 : w.cell? ⟨B, 9, none⟩ = some (.slice none 0 0) := h.cell 9 _ rfl
  have c12 : w.cell? ⟨B, 12, none⟩ = some (.slice none 0 0) := h.cell 12 _ rfl
  have c15 : w.cell? ⟨B, 15, none⟩ = some (.slice none 0 0) := h.cell 15 _ rfl
  clear h
  go_enter Tryd.func66, Tryd.ntmps66
  go_wp2
  iterate 4
    refine wp_loop_rounds 1 ?_
    rw [rounds_succ]
    go_wp2
  go_ret
  exact ⟨rfl, rfl⟩
set_option maxRecDepth 100000 in
set_option maxHeartbeats 400000 in
theorem told_any {w : World} {B : Nat} {vb vo : Value} {a t d u : Nat} (h : BkBlk w B vb vo a t d u) :
    Calls Tryd.prog 67 #[.pointer (some ⟨B, 0, none⟩)] w fun e w' => e = .returned (.bool true) ∧ w' = w := by
  have c18 : w.cell? ⟨B, 18, none⟩ = some (.slice none 0 0) := h.cell 18 _ rfl
  have c21 : w.cell? ⟨B, 21, none⟩ = some (.slice none 0 0) := h.cell 21 _ rfl
  have c24 : w.cell? ⟨B, 24, none⟩ = some (.slice none 0 0) := h.cell 24 _ rfl
  have c27 : w.cell? ⟨B, 27, none⟩ = some (.slice none 0 0) := h.cell 27 _ rfl
  clear h
  go_enter Tryd.func67, Tryd.ntmps67
  go_wp2
  iterate 4
    refine wp_loop_rounds 1 ?_
    rw [rounds_succ]
    go_wp2
  go_ret
  exact ⟨rfl, rfl⟩
set_option maxRecDepth 100000 in
set_option maxHeartbeats 400000 in
theorem held_any {w : World} {B : Nat} {vb vo : Value} {a t d u : Nat} (h : BkBlk w B vb vo a t d u) :
    Calls Tryd.prog 68 #[.pointer (some ⟨B, 0, none⟩)] w fun e w' => e = .returned (.bool true) ∧ w' = w := by
  have c30 : w.cell? ⟨B, 30, none⟩ = some (.slice none 0 0) := h.cell 30 _ rfl
  have c33 : w.cell? ⟨B, 33, none⟩ = some (.slice none 0 0) := h.cell 33 _ rfl
  have c36 : w.cell? ⟨B, 36, none⟩ = some (.slice none 0 0) := h.cell 36 _ rfl
  have c39 : w.cell? ⟨B, 39, none⟩ = some (.slice none 0 0) := h.cell 39 _ rfl
  clear h
  go_enter Tryd.func68, Tryd.ntmps68
  go_wp2
  iterate 4
    refine wp_loop_rounds 1 ?_
    rw [rounds_succ]
    go_wp2
  go_ret
  exact ⟨rfl, rfl⟩
set_option maxRecDepth 100000 in
set_option maxHeartbeats 400000 in
theorem sent_any {w : World} {B : Nat} {vb vo : Value} {a t d u : Nat} (h : BkBlk w B vb vo a t d u) :
    Calls Tryd.prog 69 #[.pointer (some ⟨B, 0, none⟩)] w fun e w' => e = .returned (.bool true) ∧ w' = w := by
  have c42 : w.cell? ⟨B, 42, none⟩ = some (.slice none 0 0) := h.cell 42 _ rfl
  have c45 : w.cell? ⟨B, 45, none⟩ = some (.slice none 0 0) := h.cell 45 _ rfl
  have c48 : w.cell? ⟨B, 48, none⟩ = some (.slice none 0 0) := h.cell 48 _ rfl
  have c51 : w.cell? ⟨B, 51, none⟩ = some (.slice none 0 0) := h.cell 51 _ rfl
  clear h
  go_enter Tryd.func69, Tryd.ntmps69
  go_wp2
  iterate 4
    refine wp_loop_rounds 1 ?_
    rw [rounds_succ]
    go_wp2
  go_ret
  exact ⟨rfl, rfl⟩
set_option maxRecDepth 100000 in
set_option maxHeartbeats 400000 in
theorem grow38_any {w : World} {B : Nat} {vb vo : Value} {a t d u : Nat} (h : BkBlk w B vb vo a t d u) :
    Calls Tryd.prog 71 #[.pointer (some ⟨B, 0, none⟩)] w fun e w' => e = .returned (.tuple #[]) ∧ BkBlk w' B vb vo a t d u ∧ Kp (fun k => k = B) w w' := by
  have c0 : w.cell? ⟨B, 3, none⟩ = some (.slice none 0 0) := h.cell 3 _ rfl
  have c2 : w.cell? ⟨B, 5, none⟩ = some (.int .i64 0) := h.cell 5 _ rfl
  have f2 := blk_frozen 5 h
  have HH := hide h
  clear h
  go_enter Tryd.func71, Tryd.ntmps71
  go_wp2
  refine wp_loop_rounds 1 ?_
  rw [rounds_succ]
  go_wp2
  go_end0
  exact ⟨rfl, HH.out.set 5 _ rfl, (Kp.refl _ _).setCell _ _ (fun _ => rfl)⟩
set_option maxRecDepth 100000 in
set_option maxHeartbeats 400000 in
theorem grow39_any {w : World} {B : Nat} {vb vo : Value} {a t d u : Nat} (h : BkBlk w B vb vo a t d u) :
    Calls Tryd.prog 72 #[.pointer (some ⟨B, 0, none⟩)] w fun e w' => e = .returned (.tuple #[]) ∧ BkBlk w' B vb vo a t d u ∧ Kp (fun k => k = B) w w' := by
  have c0 : w.cell? ⟨B, 6, none⟩ = some (.slice none 0 0) := h.cell 6 _ rfl
  have c2 : w.cell? ⟨B, 8, none⟩ = some (.int .i64 0) := h.cell 8 _ rfl
  have f2 := blk_frozen 8 h
  have HH := hide h
  clear h
  go_enter Tryd.func72, Tryd.ntmps72
  go_wp2
  refine wp_loop_rounds 1 ?_
  rw [rounds_succ]
  go_wp2
  go_end0
  exact ⟨rfl, HH.out.set 8 _ rfl, (Kp.refl _ _).setCell _ _ (fun _ => rfl)⟩
set_option maxRecDepth 100000 in
set_option maxHeartbeats 400000 in
theorem grow40_any {w : World} {B : Nat} {vb vo : Value} {a t d u : Nat} (h : BkBlk w B vb vo a t d u) :
    Calls Tryd.prog 73 #[.pointer (some ⟨B, 0, none⟩)] w fun e w' => e = .returned (.tuple #[]) ∧ BkBlk w' B vb vo a t d u ∧ Kp (fun k => k = B) w w' := by
  have c0 : w.cell? ⟨B, 9, none⟩ = some (.slice none 0 0) := h.cell 9 _ rfl
  have c2 : w.cell? ⟨B, 11, none⟩ = some (.int .i64 0) := h.cell 11 _ rfl
  have f2 := blk_frozen 11 h
  have HH := hide h
  clear h
  go_enter Tryd.func73, Tryd.ntmps73
  go_wp2
  refine wp_loop_rounds 1 ?_
  rw [rounds_succ]
  go_wp2
  go_end0
  exact ⟨rfl, HH.out.set 11 _ rfl, (Kp.refl _ _).setCell _ _ (fun _ => rfl)⟩
set_option maxRecDepth 100000 in
set_option maxHeartbeats 400000 in
theorem grow41_any {w : World} {B : Nat} {vb vo : Value} {a t d u : Nat} (h : BkBlk w B vb vo a t d u) :
    Calls Tryd.prog 74 #[.pointer (some ⟨B, 0, none⟩)] w fun e w' => e = .returned (.tuple #[]) ∧ BkBlk w' B vb vo a t d u ∧ Kp (fun k => k = B) w w' := by
  have c0 : w.cell? ⟨B, 12, none⟩ = some (.slice none 0 0) := h.cell 12 _ rfl
  have c2 : w.cell? ⟨B, 14, none⟩ = some (.int .i64 0) := h.cell 14 _ rfl
  have f2 := blk_frozen 14 h
  have HH := hide h
  clear h
  go_enter Tryd.func74, Tryd.ntmps74
  go_wp2
  refine wp_loop_rounds 1 ?_
  rw [rounds_succ]
  go_wp2
  go_end0
  exact ⟨rfl, HH.out.set 14 _ rfl, (Kp.refl _ _).setCell _ _ (fun _ => rfl)⟩
set_option maxRecDepth 100000 in
set_option maxHeartbeats 400000 in
theorem grow42_any {w : World} {B : Nat} {vb vo : Value} {a t d u : Nat} (h : BkBlk w B vb vo a t d u) :
    Calls Tryd.prog 75 #[.pointer (some ⟨B, 0, none⟩)] w fun e w' => e = .returned (.tuple #[]) ∧ BkBlk w' B vb vo a t d u ∧ Kp (fun k => k = B) w w' := by
  have c0 : w.cell? ⟨B, 15, none⟩ = some (.slice none 0 0) := h.cell 15 _ rfl
  have c2 : w.cell? ⟨B, 17, none⟩ = some (.int .i64 0) := h.cell 17 _ rfl
  have f2 := blk_frozen 17 h
  have HH := hide h
  clear h
  go_enter Tryd.func75, Tryd.ntmps75
  go_wp2
  refine wp_loop_rounds 1 ?_
  rw [rounds_succ]
  go_wp2
  go_end0
  exact ⟨rfl, HH.out.set 17 _ rfl, (Kp.refl _ _).setCell _ _ (fun _ => rfl)⟩
set_option maxRecDepth 100000 in
set_option maxHeartbeats 400000 in
theorem grow43_any {w : World} {B : Nat} {vb vo : Value} {a t d u : Nat} (h : BkBlk w B vb vo a t d u) :
    Calls Tryd.prog 76 #[.pointer (some ⟨B, 0, none⟩)] w fun e w' => e = .returned (.tuple #[]) ∧ BkBlk w' B vb vo a t d u ∧ Kp (fun k => k = B) w w' := by
  have c0 : w.cell? ⟨B, 18, none⟩ = some (.slice none 0 0) := h.cell 18 _ rfl
  have c2 : w.cell? ⟨B, 20, none⟩ = some (.int .i64 0) := h.cell 20 _ rfl
  have f2 := blk_frozen 20 h
  have HH := hide h
  clear h
  go_enter Tryd.func76, Tryd.ntmps76
  go_wp2
  refine wp_loop_rounds 1 ?_
  rw [rounds_succ]
  go_wp2
  go_end0
  exact ⟨rfl, HH.out.set 20 _ rfl, (Kp.refl _ _).setCell _ _ (fun _ => rfl)⟩
set_option maxRecDepth 100000 in
set_option maxHeartbeats 400000 in
theorem grow44_any {w : World} {B : Nat} {vb vo : Value} {a t d u : Nat} (h : BkBlk w B vb vo a t d u) :
    Calls Tryd.prog 77 #[.pointer (some ⟨B, 0, none⟩)] w fun e w' => e = .returned (.tuple #[]) ∧ BkBlk w' B vb vo a t d u ∧ Kp (fun k => k = B) w w' := by
  have c0 : w.cell? ⟨B, 21, none⟩ = some (.slice none 0 0) := h.cell 21 _ rfl
  have c2 : w.cell? ⟨B, 23, none⟩ = some (.int .i64 0) := h.cell 23 _ rfl
  have f2 := blk_frozen 23 h
  have HH := hide h
  clear h
  go_enter Tryd.func77, Tryd.ntmps77
  go_wp2
  refine wp_loop_rounds 1 ?_
  rw [rounds_succ]
  go_wp2
  go_end0
  exact ⟨rfl, HH.out.set 23 _ rfl, (Kp.refl _ _).setCell _ _ (fun _ => rfl)⟩
set_option maxRecDepth 100000 in
set_option maxHeartbeats 400000 in
theorem grow45_any {w : World} {B : Nat} {vb vo : Value} {a t d u : Nat} (h : BkBlk w B vb vo a t d u) :
    Calls Tryd.prog 78 #[.pointer (some ⟨B, 0, none⟩)] w fun e w' => e = .returned (.tuple #[]) ∧ BkBlk w' B vb vo a t d u ∧ Kp (fun k => k = B) w w' := by
  have c0 : w.cell? ⟨B, 24, none⟩ = some (.slice none 0 0) := h.cell 24 _ rfl
  have c2 : w.cell? ⟨B, 26, none⟩ = some (.int .i64 0) := h.cell 26 _ rfl
  have f2 := blk_frozen 26 h
  have HH := hide h
  clear h
  go_enter Tryd.func78, Tryd.ntmps78
  go_wp2
  refine wp_loop_rounds 1 ?_
  rw [rounds_succ]
  go_wp2
  go_end0
  exact ⟨rfl, HH.out.set 26 _ rfl, (Kp.refl _ _).setCell _ _ (fun _ => rfl)⟩
set_option maxRecDepth 100000 in
set_option maxHeartbeats 400000 in
theorem grow46_any {w : World} {B : Nat} {vb vo : Value} {a t d u : Nat} (h : BkBlk w B vb vo a t d u) :
    Calls Tryd.prog 79 #[.pointer (some ⟨B, 0, none⟩)] w fun e w' => e = .returned (.tuple #[]) ∧ BkBlk w' B vb vo a t d u ∧ Kp (fun k => k = B) w w' := by
  have c0 : w.cell? ⟨B, 27, none⟩ = some (.slice none 0 0) := h.cell 27 _ rfl
  have c2 : w.cell? ⟨B, 29, none⟩ = some (.int .i64 0) := h.cell 29 _ rfl
  have f2 := blk_frozen 29 h
  have HH := hide h
  clear h
  go_enter Tryd.func79, Tryd.ntmps79
  go_wp2
  refine wp_loop_rounds 1 ?_
  rw [rounds_succ]
  go_wp2
  go_end0
  exact ⟨rfl, HH.out.set 29 _ rfl, (Kp.refl _ _).setCell _ _ (fun _ => rfl)⟩
set_option maxRecDepth 100000 in
set_option maxHeartbeats 400000 in
theorem grow47_any {w : World} {B : Nat} {vb vo : Value} {a t d u : Nat} (h : BkBlk w B vb vo a t d u) :
    Calls Tryd.prog 80 #[.pointer (some ⟨B, 0, none⟩)] w fun e w' => e = .returned (.tuple #[]) ∧ BkBlk w' B vb vo a t d u ∧ Kp (fun k => k = B) w w' := by
  have c0 : w.cell? ⟨B, 30, none⟩ = some (.slice none 0 0) := h.cell 30 _ rfl
  have c2 : w.cell? ⟨B, 32, none⟩ = some (.int .i64 0) := h.cell 32 _ rfl
  have f2 := blk_frozen 32 h
  have HH := hide h
  clear h
  go_enter Tryd.func80, Tryd.ntmps80
  go_wp2
  refine wp_loop_rounds 1 ?_
  rw [rounds_succ]
  go_wp2
  go_end0
  exact ⟨rfl, HH.out.set 32 _ rfl, (Kp.refl _ _).setCell _ _ (fun _ => rfl)⟩
set_option maxRecDepth 100000 in
set_option maxHeartbeats 400000 in
theorem grow48_any {w : World} {B : Nat} {vb vo : Value} {a t d u : Nat} (h : BkBlk w B vb vo a t d u) :
    Calls Tryd.prog 81 #[.pointer (some ⟨B, 0, none⟩)] w fun e w' => e = .returned (.tuple #[]) ∧ BkBlk w' B vb vo a t d u ∧ Kp (fun k => k = B) w w' := by
  have c0 : w.cell? ⟨B, 33, none⟩ = some (.slice none 0 0) := h.cell 33 _ rfl
  have c2 : w.cell? ⟨B, 35, none⟩ = some (.int .i64 0) := h.cell 35 _ rfl
  have f2 := blk_frozen 35 h
  have HH := hide h
  clear h
  go_enter Tryd.func81, Tryd.ntmps81
  go_wp2
  refine wp_loop_rounds 1 ?_
  rw [rounds_succ]
  go_wp2
  go_end0
  exact ⟨rfl, HH.out.set 35 _ rfl, (Kp.refl _ _).setCell _ _ (fun _ => rfl)⟩
set_option maxRecDepth 100000 in
set_option maxHeartbeats 400000 in
theorem grow49_any {w : World} {B : Nat} {vb vo : Value} {a t d u : Nat} (h : BkBlk w B vb vo a t d u) :
    Calls Tryd.prog 82 #[.pointer (some ⟨B, 0, none⟩)] w fun e w' => e = .returned (.tuple #[]) ∧ BkBlk w' B vb vo a t d u ∧ Kp (fun k => k = B) w w' := by
  have c0 : w.cell? ⟨B, 36, none⟩ = some (.slice none 0 0) := h.cell 36 _ rfl
  have c2 : w.cell? ⟨B, 38, none⟩ = some (.int .i64 0) := h.cell 38 _ rfl
  have f2 := blk_frozen 38 h
  have HH := hide h
  clear h
  go_enter Tryd.func82, Tryd.ntmps82
  go_wp2
  refine wp_loop_rounds 1 ?_
  rw [rounds_succ]
  go_wp2
  go_end0
  exact ⟨rfl, HH.out.set 38 _ rfl, (Kp.refl _ _).setCell _ _ (fun _ => rfl)⟩
set_option maxRecDepth 100000 in
set_option maxHeartbeats 400000 in
theorem grow50_any {w : World} {B : Nat} {vb vo : Value} {a t d u : Nat} (h : BkBlk w B vb vo a t d u) :
    Calls Tryd.prog 83 #[.pointer (some ⟨B, 0, none⟩)] w fun e w' => e = .returned (.tuple #[]) ∧ BkBlk w' B vb vo a t d u ∧ Kp (fun k => k = B) w w' := by
  have c0 : w.cell? ⟨B, 39, none⟩ = some (.slice none 0 0) := h.cell 39 _ rfl
  have c2 : w.cell? ⟨B, 41, none⟩ = some (.int .i64 0) := h.cell 41 _ rfl
  have f2 := blk_frozen 41 h
  have HH := hide h
  clear h
  go_enter Tryd.func83, Tryd.ntmps83
  go_wp2
  refine wp_loop_rounds 1 ?_
  rw [rounds_succ]
  go_wp2
  go_end0
  exact ⟨rfl, HH.out.set 41 _ rfl, (Kp.refl _ _).setCell _ _ (fun _ => rfl)⟩
set_option maxRecDepth 100000 in
set_option maxHeartbeats 400000 in
theorem grow51_any {w : World} {B : Nat} {vb vo : Value} {a t d u : Nat} (h : BkBlk w B vb vo a t d u) :
    Calls Tryd.prog 84 #[.pointer (some ⟨B, 0, none⟩)] w fun e w' => e = .returned (.tuple #[]) ∧ BkBlk w' B vb vo a t d u ∧ Kp (fun k => k = B) w w' := by
  have c0 : w.cell? ⟨B, 42, none⟩ = some (.slice none 0 0) := h.cell 42 _ rfl
  have c2 : w.cell? ⟨B, 44, none⟩ = some (.int .i64 0) := h.cell 44 _ rfl
  have f2 := blk_frozen 44 h
  have HH := hide h
  clear h
  go_enter Tryd.func84, Tryd.ntmps84
  go_wp2
  refine wp_loop_rounds 1 ?_
  rw [rounds_succ]
  go_wp2
  go_end0
  exact ⟨rfl, HH.out.set 44 _ rfl, (Kp.refl _ _).setCell _ _ (fun _ => rfl)⟩
set_option maxRecDepth 100000 in
set_option maxHeartbeats 400000 in
theorem grow52_any {w : World} {B : Nat} {vb vo : Value} {a t d u : Nat} (h : BkBlk w B vb vo a t d u) :
    Calls Tryd.prog 85 #[.pointer (some ⟨B, 0, none⟩)] w fun e w' => e = .returned (.tuple #[]) ∧ BkBlk w' B vb vo a t d u ∧ Kp (fun k => k = B) w w' := by
  have c0 : w.cell? ⟨B, 45, none⟩ = some (.slice none 0 0) := h.cell 45 _ rfl
  have c2 : w.cell? ⟨B, 47, none⟩ = some (.int .i64 0) := h.cell 47 _ rfl
  have f2 := blk_frozen 47 h
  have HH := hide h
  clear h
  go_enter Tryd.func85, Tryd.ntmps85
  go_wp2
  refine wp_loop_rounds 1 ?_
  rw [rounds_succ]
  go_wp2
  go_end0
  exact ⟨rfl, HH.out.set 47 _ rfl, (Kp.refl _ _).setCell _ _ (fun _ => rfl)⟩
set_option maxRecDepth 100000 in
set_option maxHeartbeats 400000 in
theorem grow53_any {w : World} {B : Nat} {vb vo : Value} {a t d u : Nat} (h : BkBlk w B vb vo a t d u) :
    Calls Tryd.prog 86 #[.pointer (some ⟨B, 0, none⟩)] w fun e w' => e = .returned (.tuple #[]) ∧ BkBlk w' B vb vo a t d u ∧ Kp (fun k => k = B) w w' := by
  have c0 : w.cell? ⟨B, 48, none⟩ = some (.slice none 0 0) := h.cell 48 _ rfl
  have c2 : w.cell? ⟨B, 50, none⟩ = some (.int .i64 0) := h.cell 50 _ rfl
  have f2 := blk_frozen 50 h
  have HH := hide h
  clear h
  go_enter Tryd.func86, Tryd.ntmps86
  go_wp2
  refine wp_loop_rounds 1 ?_
  rw [rounds_succ]
  go_wp2
  go_end0
  exact ⟨rfl, HH.out.set 50 _ rfl, (Kp.refl _ _).setCell _ _ (fun _ => rfl)⟩
set_option maxRecDepth 100000 in
set_option maxHeartbeats 400000 in
theorem grow54_any {w : World} {B : Nat} {vb vo : Value} {a t d u : Nat} (h : BkBlk w B vb vo a t d u) :
    Calls Tryd.prog 87 #[.pointer (some ⟨B, 0, none⟩)] w fun e w' => e = .returned (.tuple #[]) ∧ BkBlk w' B vb vo a t d u ∧ Kp (fun k => k = B) w w' := by
  have c0 : w.cell? ⟨B, 51, none⟩ = some (.slice none 0 0) := h.cell 51 _ rfl
  have c2 : w.cell? ⟨B, 53, none⟩ = some (.int .i64 0) := h.cell 53 _ rfl
  have f2 := blk_frozen 53 h
  have HH := hide h
  clear h
  go_enter Tryd.func87, Tryd.ntmps87
  go_wp2
  refine wp_loop_rounds 1 ?_
  rw [rounds_succ]
  go_wp2
  go_end0
  exact ⟨rfl, HH.out.set 53 _ rfl, (Kp.refl _ _).setCell _ _ (fun _ => rfl)⟩
end Go.Proofs.YtedgdnoafajhoaaDoor
