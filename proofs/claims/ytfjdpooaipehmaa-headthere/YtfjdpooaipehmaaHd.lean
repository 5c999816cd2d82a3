import Derived.Test.YtfjdpooaipehmaaSl
namespace Go.Proofs.Ytfjdpooaipehmaa
open Go.RowKit

set_option maxRecDepth 1000000 in
set_option maxHeartbeats 400000 in
theorem head_any (w : World) (v : Value) (xs : List Nat) (hsl : BSl w v xs) :
    Calls Try.prog 20 #[v] w fun e w' => ∃ v', e = .returned v' ∧ BSl w v' (xs.take 1048576) ∧ w' = w := by
  have HSL := hide hsl
  obtain ⟨⟨a, cap, rfl, hn, hc⟩, hmax, hb⟩ := hsl
  have hcap := hn.1
  clear hn hc hb
  by_cases h : 1048576 < xs.length
  · have h' : (1048576 : Int) < (xs.length : Int) := by omega
    have h'' : 1048576 ≤ cap := by omega
    go_enter Try.func20, Try.ntmps20
    go_wp2
    go_ret
    exact ⟨_, rfl, HSL.out.take 1048576 (by omega), rfl⟩
  · have h' : ¬ (1048576 : Int) < (xs.length : Int) := by omega
    go_enter Try.func20, Try.ntmps20
    go_wp2
    go_ret
    exact ⟨_, rfl, by rw [List.take_of_length_le (by omega)]; exact HSL.out, rfl⟩
end Go.Proofs.Ytfjdpooaipehmaa
