import Derived.Test.YtfjdpooaipehmaaOpen
import Derived.Lib.SmallJoins
namespace Go.Proofs.Ytfjdpooaipehmaa
open Go.ChangeShapes Go.WideShapes Go.ChangeAt Go.RowKit Go.Deep Go.Joins

/-- What the way down gives of a slice of bytes. -/
theorem bsl_of_trod {H : Type} {enc : TypeId × Value → H} {w : World} {base fuel : Nat} {held : Bool} {v : Value} {x : DataW H × List MemPlace} (h : DataW.trod enc Try.prog w base (fun _ => true) held fuel 53 [v] = some x) : ∃ xs, BSl w v xs := by
  rcases open_ints Try.underlying53 Try.underlying5 Try.cells5 h with ⟨hcs, _⟩ | ⟨a, len, cap, zs, hcs, _, hl, hm, hz, _, hcell, hwz⟩
  · injection hcs with hcs _
    subst hcs
    exact ⟨_, bsl_of_row none 0 0 [] (Nat.le_refl _) (Nat.zero_le _) rfl (by simp) (fun _ => rfl) (fun _ hh => by cases hh)⟩
  · injection hcs with hcs _
    subst hcs
    simp only [if_true] at hz
    exact ⟨_, bsl_of_row (some a) len cap zs hl hm hz hwz (fun hh => by cases hh) (fun a' hh c hc => by cases hh; exact hcell c (by omega))⟩
end Go.Proofs.Ytfjdpooaipehmaa
