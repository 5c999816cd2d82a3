import Derived.Test.YtedgdnoafajhoabDoorSh
import Derived.Deep.QuietTactic
import Derived.BigQuiet
import Derived.Deep.RegionWith
namespace Go.Proofs.YtedgdnoafajhoabDoor
open Go.RowKit

/-- Some of the four bytes of a word. -/
def pwd (l : List Nat) (p : Nat) : Nat → Nat
  | 0 => 0
  | j + 1 => 256 * pwd l p j + l.getD (p + j) 0
theorem pwd_lt {l : List Nat} (h : ∀ x ∈ l, x < 256) (p : Nat) : ∀ j, pwd l p j < 256 ^ j
  | 0 => by simp [pwd]
  | j + 1 => by
    have h1 := pwd_lt h p j
    have h2 := getD_lt h (p + j)
    simp only [pwd, Nat.pow_succ]
    omega
theorem pwd_four (l : List Nat) (p : Nat) : pwd l p 4 = wrd l p := by
  simp only [pwd, wrd, Nat.add_zero]
  omega
theorem wrd_lt {l : List Nat} (h : ∀ x ∈ l, x < 256) (p : Nat) : wrd l p < 4294967296 := by
  rw [← pwd_four]; exact pwd_lt h p 4

end Go.Proofs.YtedgdnoafajhoabDoor
