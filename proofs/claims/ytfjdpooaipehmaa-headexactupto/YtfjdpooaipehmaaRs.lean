import Derived.Test.YtfjdpooaipehmaaPd
import Derived.Test.YtfjdpooaipehmaaHr
namespace Go.Proofs.Ytfjdpooaipehmaa
open Go.RowKit

set_option maxRecDepth 1000000 in
set_option maxHeartbeats 4000000 in
theorem reads_any (w : World) (v1 v2 : Value) (xs : List Nat) (h1 : BSl w v1 xs) (h2 : BSl w v2 xs) :
    Calls Try.prog 13 #[v1, v2] w fun e w' => e = .returned (.bool true) ∧ Below w.heap.size w w' := by
  have H1 := hide h1
  have H2 := hide h2
  clear h1 h2
  go_enter Try.func13, Try.ntmps13
  go_wp2_with fail
  refine (read_any _ _ xs H1.out).mono ?_
  rintro e w1 ⟨rfl, hb1⟩
  have HB1 := hide hb1
  have H2' := hide (H2.out.move (keep_below hb1))
  clear hb1 H1 H2
  have HRR := hide (fun W v (h : BSl W v xs) => refRead_any W v xs h)
  generalize hrd xs = R at *
  obtain ⟨m, i, n, u, s, er⟩ := R
  simp only [HR.val] at HRR ⊢
  have HP1 : Hid ((w1.alloc (.cells #[.int .i64 (m : Nat), .int .i64 (i : Nat), .int .u64 (n : Nat), .int .i64 (u : Nat), .bool s] 66)).heap[w1.heap.size]? = some (.cells #[.int .i64 (m : Nat), .int .i64 (i : Nat), .int .u64 (n : Nat), .int .i64 (u : Nat), .bool s] 66 (0, 0))) := heap_alloc_new w1 _
  have H2A := hide (H2'.out.move (keep_alloc w1 (.cells #[.int .i64 (m : Nat), .int .i64 (i : Nat), .int .u64 (n : Nat), .int .i64 (u : Nat), .bool s] 66)))
  have HB2 : Hid (Below w.heap.size w (w1.alloc (.cells #[.int .i64 (m : Nat), .int .i64 (i : Nat), .int .u64 (n : Nat), .int .i64 (u : Nat), .bool s] 66))) := HB1.out.alloc HB1.out.size _
  go_wp2_with fail
  generalize w1.alloc (.cells #[.int .i64 (m : Nat), .int .i64 (i : Nat), .int .u64 (n : Nat), .int .i64 (u : Nat), .bool s] 66) = w2 at *
  generalize w1.heap.size = P at *
  refine (HRR.out _ _ H2A.out).mono ?_
  rintro e w3 ⟨rfl, hb3⟩
  have HP3 := hide ((hb3.block P (blk_lt HP1.out)).trans HP1.out)
  have HB3 := hide (HB2.out.trans (hb3.mono HB2.out.size))
  have q0 : w3.cell? ⟨P, 0, none⟩ = some (.int .i64 (m : Nat)) := blk_cell HP3.out rfl
  have q1 : w3.cell? ⟨P, 1, none⟩ = some (.int .i64 (i : Nat)) := blk_cell HP3.out rfl
  have q2 : w3.cell? ⟨P, 2, none⟩ = some (.int .u64 (n : Nat)) := blk_cell HP3.out rfl
  have q3 : w3.cell? ⟨P, 3, none⟩ = some (.int .i64 (u : Nat)) := blk_cell HP3.out rfl
  have q4 : w3.cell? ⟨P, 4, none⟩ = some (.bool s) := blk_cell HP3.out rfl
  have hP3 : P < w3.heap.size := blk_lt HP3.out
  have hsz3 := HB3.out.size
  clear hb3 HRR HP1 HB2 HB1 H2A H2'
  go_wp2_with fail
  refine (num_any _ _).mono ?_
  rintro e w4 ⟨rfl, rfl⟩
  go_wp2
  go_ret
  exact ⟨rfl, HB3.out.alloc hsz3 _⟩
end Go.Proofs.Ytfjdpooaipehmaa
