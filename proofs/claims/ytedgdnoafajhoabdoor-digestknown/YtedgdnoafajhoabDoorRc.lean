import Derived.Test.YtedgdnoafajhoabDoorRa
import Derived.Test.YtedgdnoafajhoabDoorEq
import Derived.Test.YtedgdnoafajhoabDoorStp
namespace Go.Proofs.YtedgdnoafajhoabDoor
open Go.RowKit

theorem zer_spec (n k : Nat) (h : (n + 1 + k) % 64 = 56) (hk : k < 64) : zer n = k := by unfold zer; omega
theorem zer_lt (n : Nat) : zer n < 64 := by unfold zer; omega
theorem zer_mod (n : Nat) : (n + 1 + zer n) % 64 = 56 := by unfold zer; omega

theorem beb_get : ∀ k n j, j < k → (beb k n).getD j 0 = n / 256 ^ (k - 1 - j) % 256
  | 0, _, _, h => by omega
  | k + 1, n, 0, _ => by simp [beb]
  | k + 1, n, j + 1, h => by
    have e : k + 1 - 1 - (j + 1) = k - 1 - j := by omega
    rw [e, ← beb_get k n j (by omega)]
    simp [beb]
theorem pow_int8 (k : Nat) : (2 : Int) ^ (8 * k) = ((256 ^ k : Nat) : Int) := by
  rw [Int.pow_mul, Int.natCast_pow]; rfl
theorem take_snoc3 (l : List Nat) (j : Nat) (h : j < l.length) : l.take (j + 1) = l.take j ++ [l.getD j 0] := by
  rw [List.take_succ_eq_append_getElem h]
  simp [List.getD, h]
def lenOf : Value → Nat
  | .slice _ n _ => n
  | _ => 0
theorem own_lenOf {w : World} {base : Nat} {e : TypeId} {v : Value} {n : Nat} {xs : List Value} (h : w.ownsRow base e 1 v n xs) : lenOf v = n := by
  obtain ⟨a, c, rfl, _⟩ := own_form h
  rfl

end Go.Proofs.YtedgdnoafajhoabDoor
