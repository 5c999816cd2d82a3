import Derived.Test.YtedgdnoafajhoaaDoorSl
import Derived.ProofKit
import Derived.OpenShut
import Derived.SizedLaws
import Derived.Deep.Matrix
namespace Go.Proofs.YtedgdnoafajhoaaDoor
open Go.ChangeShapes Go.WideShapes Go.ChangeAt Go.RowKit Go.Deep

theorem Tryd.own : ownKnob Tryd.prog.godebug = none := by kernel_rfl

theorem Tryd.laidOut : laidOutB Tryd.prog = true := by kernel_rfl

theorem Tryd.cells5 : Tryd.prog.cellsOf 5 = 1 := by kernel_rfl

theorem Tryd.cells_bytes : Tryd.prog.cellsOf 27 = 1 := by kernel_rfl

theorem Tryd.bytes5 : Tryd.prog.bytesOf 5 = 1 := by kernel_rfl

theorem wf_u8 {n : Int} (h : (Lit.int .u8 n).wf = true) : 0 ≤ n ∧ n ≤ 255 := bounds_u8 h

/-- A row of bytes that was read as data, as BSl says it. -/
theorem bsl_of_row {w : World} (A : Option Addr) (L C : Nat) (Z : List Int) (hl : L ≤ C) (hm : C ≤ maxLen) (hz : Z.length = C) (hwf : ∀ n ∈ Z, (Lit.int .u8 n).wf = true) (hn : A = none → C = 0)
    (hc : ∀ a', A = some a' → ∀ c, c < C → w.cell? (a'.add c) = some (.int .u8 (Z.getD c 0))) : BSl w (.slice A L C) ((Z.take L).map Int.toNat) := by
  have hlen : ((Z.take L).map Int.toNat).length = L := by simp; omega
  refine ⟨⟨A, C, by rw [hlen], ⟨by rw [hlen]; exact hl, hn⟩, ?_⟩, by rw [hlen]; unfold maxLen at hm; omega, ?_⟩
  · by_cases h0 : L = 0
    · left; subst h0; simp
    · right
      cases A with
      | none => have := hn rfl; omega
      | some a =>
        obtain ⟨b, off, spot⟩ := a
        have h1 := hc _ rfl 0 (by omega)
        have hspot : spot = none := by simpa [Addr.add] using World.cell?_spot h1
        subst hspot
        refine ⟨b, off, rfl, fun j hj => ?_⟩
        rw [hlen] at hj
        have h2 := hc _ rfl j (by omega)
        have hadd : (⟨b, off, none⟩ : Addr).add j = ⟨b, off + j, none⟩ := by unfold Addr.add; split <;> simp_all
        rw [hadd] at h2
        rw [h2]
        have hjz : j < Z.length := by omega
        have hb := wf_u8 (hwf Z[j] (List.getElem_mem hjz))
        simp [List.getD, hj, hjz]
        omega
  · intro x hx
    simp only [List.mem_map] at hx
    obtain ⟨n, hn', rfl⟩ := hx
    have := wf_u8 (hwf n (List.mem_of_mem_take hn'))
    omega

/-- What a row weighs, inside a slice of rows. -/
theorem weights_all {H : Type} {P : Program} {e : TypeId} {d : DataW H} : ∀ {l : List (DataW H)}, d ∈ l → ∀ n ∈ d.weights P e, n ∈ DataW.weightsAll P e l
  | [], h, _, _ => by cases h
  | x :: r, h, n, hn => by
    simp only [DataW.weightsAll, List.mem_append]
    rcases List.mem_cons.1 h with h | h
    · subst h; exact .inl hn
    · exact .inr (weights_all h n hn)

theorem row_weight {H : Type} (a' : Addr) (L C : Nat) (Z : List Int) (hz : Z.length = C) : C ∈ (intRow (H := H) .u8 (some a') L Z).weights Tryd.prog 27 := by
  have e : (intRow (H := H) .u8 (some a') L Z) = .slice (lits .u8 (Z.take L)) (lits .u8 (Z.drop L)) := rfl
  rw [e]
  simp only [DataW.weights, Tryd.underlying27, Tryd.bytes5]
  refine List.mem_cons.2 (.inl ?_)
  simp [lits]
  omega

/-- A row of a slice of rows of bytes is within the reach. -/
theorem rows_reach {H : Type} {ts : List TypeId} {ds : List (DataW H)} (h : (DataW.weightsEach Tryd.prog ts ds).all (· ≤ reachBytes) = true) {j : Nat} {elems spare : List (DataW H)} (ht : ts[j]? = some 22) (hd : ds[j]? = some (.slice elems spare))
    {d : DataW H} (hm : d ∈ elems) {n : Nat} (hn : n ∈ d.weights Tryd.prog 27) : n ≤ reachBytes := by
  have h1 : n ∈ DataW.weightsAll Tryd.prog 27 elems := weights_all hm n hn
  have h2 : n ∈ (DataW.slice elems spare).weights Tryd.prog 22 := by
    simp only [DataW.weights, Tryd.underlying22]
    exact List.mem_cons.2 (.inr (List.mem_append.2 (.inl h1)))
  have := List.all_eq_true.1 h _ (DataW.weights_mem_each ht hd n h2)
  simpa using this
end Go.Proofs.YtedgdnoafajhoaaDoor
