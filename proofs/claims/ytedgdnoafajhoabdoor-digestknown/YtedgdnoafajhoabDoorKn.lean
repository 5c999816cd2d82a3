import Derived.Test.YtedgdnoafajhoabDoorSh
namespace Go.Proofs.YtedgdnoafajhoabDoor
open Go.RowKit Go

def noned : List Nat := [227, 176, 196, 66, 152, 252, 28, 20, 154, 251, 244, 200, 153, 111, 185, 36, 39, 174, 65, 228, 100, 155, 147, 76, 164, 149, 153, 27, 120, 82, 184, 85]
def longd : List Nat := [36, 141, 106, 97, 210, 6, 56, 184, 229, 192, 38, 147, 12, 62, 96, 57, 163, 60, 228, 89, 100, 255, 33, 103, 246, 236, 237, 212, 25, 219, 6, 193]
def longs : List Nat := [97, 98, 99, 100, 98, 99, 100, 101, 99, 100, 101, 102, 100, 101, 102, 103, 101, 102, 103, 104, 102, 103, 104, 105, 103, 104, 105, 106, 104, 105, 106, 107, 105, 106, 107, 108, 106, 107, 108, 109, 107, 108, 109, 110, 108, 109, 110, 111, 109, 110, 111, 112, 110, 111, 112, 113]
theorem sha_none : sha [] = noned := by decide +kernel
theorem sha_long : sha longs = longd := by decide +kernel
/-- So many letters a. -/
def aas (n : Nat) : List Nat := List.replicate n 97
def key (n : Nat) : Nat := (sha (aas n)).getD 0 0 * 256 + (sha (aas n)).getD 1 0
def keys : List (Nat × Nat) := [(54, 41968), (55, 40771), (56, 45908), (57, 61755), (58, 54720), (59, 4379), (60, 4590), (61, 13781), (62, 62726), (63, 32062), (64, 65504), (65, 25427), (66, 44051), (118, 34717), (119, 12779), (120, 12093), (121, 59745), (122, 53100), (123, 26229), (124, 39966), (125, 43233), (126, 14012), (127, 50558), (128, 26678), (129, 49452), (130, 7740)]
theorem key54 : key 54 = 41968 := by decide +kernel
theorem key55 : key 55 = 40771 := by decide +kernel
theorem key56 : key 56 = 45908 := by decide +kernel
theorem key57 : key 57 = 61755 := by decide +kernel
theorem key58 : key 58 = 54720 := by decide +kernel
theorem key59 : key 59 = 4379 := by decide +kernel
theorem key60 : key 60 = 4590 := by decide +kernel
theorem key61 : key 61 = 13781 := by decide +kernel
theorem key62 : key 62 = 62726 := by decide +kernel
theorem key63 : key 63 = 32062 := by decide +kernel
theorem key64 : key 64 = 65504 := by decide +kernel
theorem key65 : key 65 = 25427 := by decide +kernel
theorem key66 : key 66 = 44051 := by decide +kernel
theorem key118 : key 118 = 34717 := by decide +kernel
theorem key119 : key 119 = 12779 := by decide +kernel
theorem key120 : key 120 = 12093 := by decide +kernel
theorem key121 : key 121 = 59745 := by decide +kernel
theorem key122 : key 122 = 53100 := by decide +kernel
theorem key123 : key 123 = 26229 := by decide +kernel
theorem key124 : key 124 = 39966 := by decide +kernel
theorem key125 : key 125 = 43233 := by decide +kernel
theorem key126 : key 126 = 14012 := by decide +kernel
theorem key127 : key 127 = 50558 := by decide +kernel
theorem key128 : key 128 = 26678 := by decide +kernel
theorem key129 : key 129 = 49452 := by decide +kernel
theorem key130 : key 130 = 7740 := by decide +kernel
theorem keys_ok : keys.all (fun p => key p.1 == p.2) = true := by
  simp only [keys, List.all_cons, List.all_nil, key54, key55, key56, key57, key58, key59, key60, key61, key62, key63, key64, key65, key66, key118, key119, key120, key121, key122, key123, key124, key125, key126, key127, key128, key129, key130]
  rfl
/-- How many letters the t-th text has. -/
def lenAt (t : Nat) : Nat := if t < 13 then 54 + t else 105 + t
theorem keys_at : ∀ t, t < 26 → (lenAt t, (keys.getD t (0, 0)).2) ∈ keys := by decide
theorem keys_un : ∀ t, t < 26 → ∀ s, s < 26 → (keys.getD t (0, 0)).2 = (keys.getD s (0, 0)).2 → t = s := by decide +kernel
theorem shas_un {t s : Nat} (ht : t < 26) (hs : s < 26) (h : sha (aas (lenAt t)) = sha (aas (lenAt s))) : t = s := by
  have h1 := List.all_eq_true.1 keys_ok _ (keys_at t ht)
  have h2 := List.all_eq_true.1 keys_ok _ (keys_at s hs)
  have e1 : key (lenAt t) = (keys.getD t (0, 0)).2 := by simpa using h1
  have e2 : key (lenAt s) = (keys.getD s (0, 0)).2 := by simpa using h2
  refine keys_un t ht s hs ?_
  rw [← e1, ← e2]
  unfold key
  rw [h]
theorem aas_len (n : Nat) : (aas n).length = n := by simp [aas]
theorem aas_byte (n : Nat) : ∀ x ∈ aas n, x < 256 := fun x hx => by
  have := List.eq_of_mem_replicate hx
  omega
theorem aas_snoc (n : Nat) : aas n ++ [97] = aas (n + 1) := by unfold aas; rw [List.replicate_succ']
end Go.Proofs.YtedgdnoafajhoabDoor
