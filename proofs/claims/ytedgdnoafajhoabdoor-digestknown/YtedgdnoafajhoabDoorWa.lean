import Derived.Test.YtedgdnoafajhoabDoorLb
import Derived.Test.YtedgdnoafajhoabDoorOpen
namespace Go.Proofs.YtedgdnoafajhoabDoor
open Go.RowKit Go

/-- What DigestWhole has in hand. -/
structure Wh (w wx : World) (g : Nat) (va : Value) (all : List Nat) : Prop where
  h : HS wx g all
  a : wx.ownsRow w.heap.size 5 1 va all.length (bv all)
  c : Cb wx
  l : Below w.heap.size w wx
  ab : ∀ x ∈ all, x < 256
  al : all.length ≤ 65536
  g0 : w.heap.size ≤ g
  p0 : 0 < w.heap.size
theorem Wh.below {w wx wy : World} {g : Nat} {va : Value} {all : List Nat} (h : Wh w wx g va all) (hb : Below wx.heap.size wx wy) : Wh w wy g va all :=
  ⟨h.h.below hb, own_below h.a hb (rfl : 0 = 0), h.c.below hb, h.l.trans (hb.mono h.l.size), h.ab, h.al, h.g0, h.p0⟩
theorem Wh.ag {w wx : World} {g : Nat} {va : Value} {all : List Nat} (h : Wh w wx g va all) : va.ownBlock ≠ some g := own_not h.a h.h.b (by decide)
theorem Wh.s {w wx : World} {g : Nat} {va : Value} {all : List Nat} (h : Wh w wx g va all) : BSl wx va all := BSl.own h.a h.ab

theorem Wh.kp {w wx wy : World} {g gx : Nat} {va : Value} {all : List Nat} (h : Wh w wx g va all) (hk : Kp (fun q => q = gx) wx wy) (h1 : g ≠ gx) (h2 : ∀ k, va.ownBlock = some k → ¬ k = gx) (h3 : w.heap.size ≤ gx) : Wh w wy g va all :=
  ⟨h.h.kp hk h1, hk.owns h.a h2, h.c.kp hk (fun e => by have := h.p0; omega), h.l.trans (hk.below h.l.size (fun q e => by omega)), h.ab, h.al, h.g0, h.p0⟩
theorem bv_set (l : List Nat) (j x : Nat) : (bv l).set j (.int .u8 ((x : Nat) : Int)) = bv (l.set j x) := by simp [bv, List.map_set]
theorem flip_bit (q j : Nat) (hq : q < 256) (hj : j < 8) : ∃ z : Nat, bits .xor .u8 (q : Int) (2 ^ j % 256) = (z : Int) ∧ z < 256 ∧ z ≠ q := by
  have h2 : 2 ^ j < 256 := by
    have : 2 ^ j ≤ 2 ^ 7 := Nat.pow_le_pow_right (by decide) (by omega)
    have e : 2 ^ 7 = 128 := rfl
    omega
  have e : (2 : Int) ^ j % 256 = ((2 ^ j : Nat) : Int) := by
    rw [Int.emod_eq_of_lt (Int.pow_nonneg (by decide))]
    · rw [Int.natCast_pow]; rfl
    · have : ((2 ^ j : Nat) : Int) < 256 := by omega
      rw [Int.natCast_pow] at this
      exact this
  refine ⟨q ^^^ 2 ^ j, by rw [e, u8_xor_nat _ _ hq h2], Nat.xor_lt_two_pow (n := 8) hq h2, fun h => ?_⟩
  have h3 : q ^^^ 2 ^ j ^^^ q = 0 := by rw [h, Nat.xor_self]
  rw [Nat.xor_comm, ← Nat.xor_assoc, Nat.xor_self, Nat.zero_xor] at h3
  have : 0 < 2 ^ j := Nat.pow_pos (by decide)
  omega
theorem cells_of {w : World} {d : Nat} {l : List Value} {t : TypeId} (h : w.heap[d]? = some (.cells l.toArray t (0, 0))) : w.rangeAt d 0 l := fun j v hv => by
  rw [Nat.zero_add]
  exact blk_cell h (by rw [List.getElem?_toArray]; exact hv)
theorem loadA_run (wy : World) {d n : Nat} {cs : List Value} {T e : TypeId} (h : wy.rangeAt d 0 cs) {o : Oper} {a : Act} {p : Operand} (ho : o.op = .load T p) (hp : a.eval p = .pointer (some ⟨d, 0, none⟩)) (hi : (Tryd.prog.info? T).map (·.size) = some cs.length) (hu : Tryd.prog.underlying T = some (.array n e)) : (execOp a.eval o).run Tryd.prog wy = .ok (.value (.agg cs.toArray)) wy := by
  have hr := part_load (w := wy) d 0 cs hu hi h
  unfold execOp
  simp only [ho, Sem.run_bind, hp, hr, Result.andThen_ok]
  rfl
theorem bslD_of {w : World} {d : Nat} {D : List Nat} {t : TypeId} (h : w.heap[d]? = some (.cells (bv D).toArray t (0, 0))) (hb : ∀ x ∈ D, x < 256) (hl : D.length = 32) : BSl w (.slice (some ⟨d, 0, none⟩) 32 32) D := by
  have h2 := bsl_block h hb (by rw [hl]; decide)
  rw [hl] at h2
  exact h2

end Go.Proofs.YtedgdnoafajhoabDoor
