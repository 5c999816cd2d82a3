import Derived.Test.YtjlknnpgngaooaaGreatDoorJe
import Derived.Test.YtjlknnpgngaooaaGreatDoorJi
import Derived.Test.YtjlknnpgngaooaaGreatDoorJd
namespace Go.Proofs.YtjlknnpgngaooaaGreatDoor
section
open Go.RowKit Go

end
section
open Go.RowKit Go

end
section
open Go.RowKit Go

end
section
open Go.RowKit Go

end
section
open Go.RowKit Go
theorem ordp_srp (ks : List ByteArray) (n : Nat) : Srp ks n (ordp ks n) := by
  by_cases hn0 : 0 < n
  · let inst : Inhabited (Fin n) := ⟨⟨0, hn0⟩⟩
    have hod : ordp ks n = (ordF ks n).toList.map Fin.val := by
      unfold ordp
      rw [dif_pos hn0]
    have hds : (List.finRange n).toArray.size = n := by simp
    have hpd : Go.Sort.PermIn 0 (List.finRange n).toArray.size (List.finRange n).toArray (ordF ks n) ∧ Go.Sort.SortedIn (Go.Proofs.ltOf (kcf ks n)) 0 (List.finRange n).toArray.size (ordF ks n) := Go.Sort.pdq_sorts (Go.Proofs.ltOf (kcf ks n)) (kcf_swo ks n) (List.finRange n).toArray 0 (List.finRange n).toArray.size (Lib.bitLen (List.finRange n).toArray.size) true true (Nat.zero_le _) (Nat.le_refl _) (Or.inl rfl)
    generalize ordF ks n = d' at *
    obtain ⟨hp, hs⟩ := hpd
    rw [hds] at hp hs
    have hd' : d'.size = n := by rw [hp.1, hds]
    have hperm : d'.toList.Perm (List.finRange n) := by
      have h := hp.2.2
      have e1 : d'.extract 0 n = d' := by
        have h2 : d'.extract 0 d'.size = d' := by simp
        rw [hd'] at h2
        exact h2
      have e2 : (List.finRange n).toArray.extract 0 n = (List.finRange n).toArray := by
        have h2 : (List.finRange n).take n = List.finRange n := List.take_of_length_le (by simp)
        simp [h2]
      rw [e1, e2] at h
      exact h
    rw [hod]
    refine ⟨?_, fun i j p q hij h1 h2 => ?_⟩
    · have h := hperm.map Fin.val
      have e : (List.finRange n).map Fin.val = List.range n := by
        apply List.ext_getElem?
        intro j
        by_cases hj : j < n
        · simp [hj]
        · rw [List.getElem?_eq_none (by simpa using hj), List.getElem?_eq_none (by simpa using hj)]
      rw [e] at h
      exact h
    · have hjl : j < d'.size := by
        have := (List.getElem?_eq_some_iff.1 h2).1
        simpa using this
      have hil : i < d'.size := by omega
      simp [hil] at h1
      simp [hjl] at h2
      have hl := hs i j (Nat.zero_le _) hij (by omega)
      rw [kcf_lt, getElem!_pos d' i hil, getElem!_pos d' j hjl, h1, h2] at hl
      exact hl
  · have e : n = 0 := by omega
    subst e
    exact ⟨by simp [ordp], fun i j p q _ h => by simp [ordp] at h⟩
end
section
open Go.RowKit Go
theorem sorted6_any (t : Tv) : AgainC 58 SrtR t := by
  have h : ∀ N, ∀ t : Tv, SizeOf.sizeOf t = N → AgainC 58 SrtR t := by
    intro N
    induction N using Nat.strongRecOn with
    | _ N ih => exact fun t hN => sorted_step t (fun u hu => ih _ (by rw [← hN]; exact Tv.is_lt hu) u rfl)
  exact h _ t rfl
end
end Go.Proofs.YtjlknnpgngaooaaGreatDoor
