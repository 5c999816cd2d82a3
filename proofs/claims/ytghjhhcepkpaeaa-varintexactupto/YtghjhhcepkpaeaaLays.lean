import Derived.Test.YtghjhhcepkpaeaaSl
namespace Go.Proofs.Ytghjhhcepkpaeaa
open Go.RowKit

theorem lit3 (w : World) : BSl (w.alloc (.cells #[.int .u8 172, .int .u8 2, .int .u8 5] 5)) (.slice (some ⟨w.heap.size, 0, none⟩) 3 3) [172, 2, 5] := by
  refine ⟨⟨_, 3, rfl, ⟨by decide, fun h => by (cases h)⟩, .inr ⟨_, 0, rfl, fun j hj => ?_⟩⟩, by decide, by decide⟩
  match j, hj with
  | 0, _ => simp
  | 1, _ => simp
  | 2, _ => simp
theorem rd_lit : rd 0 0 [172, 2, 5] = (300, 2, 0) := by decide
theorem str_lit : (nstr [172, 2]).toList = [172, 2] := by rw [ByteArray.toList_eq]; rfl
theorem digs_lit : digs 9 300 = [172, 2] := by decide

set_option maxRecDepth 1000000 in
set_option maxHeartbeats 400000 in
theorem lays_any (w : World) : Calls Try.prog 17 #[] w fun e w' => e = .returned (.bool true) ∧ Below w.heap.size w w' := by
  go_enter Try.func17, Try.ntmps17
  go_wp2_with fail
  refine (lay_any 300 _ (by decide) (by decide)).mono ?_
  rintro e w1 ⟨v, rfl, hown, hbel⟩
  have e1 : digs 9 (300 : Int).toNat = [172, 2] := digs_lit
  rw [e1] at hown
  clear e1
  have hsl := BSl.own hown (by decide)
  have HS := hide hsl
  have HO := hide hown
  clear hsl hown
  go_wp2_with fail
  refine (lit3 w1).read.mono ?_
  rintro e w2 ⟨rfl, rfl⟩
  rw [rd_lit]
  have hcv := (HS.out.move (keep_alloc w1 (.cells #[.int .u8 172, .int .u8 2, .int .u8 5] 5))).text
  have hbel2 : Below w.heap.size w (w1.alloc (.cells #[.int .u8 172, .int .u8 2, .int .u8 5] 5)) := hbel.alloc hbel.size _
  clear hbel
  have hst := str_lit
  clear HS HO
  go_wp2_with fail
  refine (num_any _ _).mono ?_
  rintro e w3 ⟨rfl, rfl⟩
  go_wp2_with fail
  refine (num_any _ _).mono ?_
  rintro e w3 ⟨rfl, rfl⟩
  go_wp2_with fail
  refine (len_any 300 _ (by decide) (by decide)).mono ?_
  rintro e w3 ⟨rfl, rfl⟩
  have e1 : ((digs 9 (300 : Int).toNat).length : Int) = 2 := by decide
  rw [e1]
  clear e1
  go_wp2
  go_ret
  exact ⟨rfl, hbel2⟩
end Go.Proofs.Ytghjhhcepkpaeaa
