import Derived.Test.YtfjdpooaipehmaaPb
import Derived.Laws.ResultCell
import Derived.Deep.LoopGhost
import Derived.Deep.DeepCutAuto
namespace Go.Proofs.Ytfjdpooaipehmaa
open Go.RowKit

theorem below_set1 {A : Nat} {w wc : World} (h : Below A w wc) (b j : Nat) (hb : A ≤ b) (v : Value) : Below A w (wc.setCell ⟨b, j, none⟩ v) := h.setCell hb v

/-- The block of a head in memory. -/
def PH (w : World) (P : Nat) (m i n u : Nat) (s : Bool) : Prop := w.heap[P]? = some (.cells #[.int .i64 (m : Nat), .int .i64 (i : Nat), .int .u64 (n : Nat), .int .i64 (u : Nat), .bool s] 66 (0, 0))

theorem ph_used {w : World} {P m i n s : Nat} (h : PH w P m i n 0 false) : PH (w.setCell ⟨P, 3, none⟩ (.int .i64 (1 + (s : Int)))) P m i n (1 + s) false := by
  have h2 := blk_set 3 (.int .i64 (1 + (s : Int))) h
  have e : (1 + (s : Int)) = ((1 + s : Nat) : Int) := by omega
  rw [e] at h2 ⊢
  exact h2
theorem ph_arg {w : World} {b off L cap W P x : Nat} {r : List Nat} (h : BSl w (.slice (some ⟨b, off, none⟩) L cap) (x :: r)) (hl : ¬ r.length < W) (hb : ¬ b = P) (u : Value) : BSl (w.setCell ⟨P, 3, none⟩ u) (.slice (some ⟨b, off + 1, none⟩) W (cap - 1)) (r.take W) := by
  obtain ⟨⟨a, cap', hv, hn, hc⟩, hmax, hby⟩ := h
  injection hv with h1 h2 h3
  subst h1
  subst h3
  have hlen : (x :: r).length = r.length + 1 := rfl
  have ht : (r.take W).length = W := by rw [List.length_take]; omega
  refine ⟨⟨_, cap - 1, by rw [ht], ⟨by rw [ht]; omega, fun h => by cases h⟩, .inr ⟨b, off + 1, rfl, fun j hj => ?_⟩⟩, by rw [ht]; omega, fun z hz => hby z (List.mem_cons_of_mem _ (List.mem_of_mem_take hz))⟩
  rcases hc with hc | ⟨b', off', e, hc⟩
  · cases hc
  · injection e with e
    injection e with e1 e2 e3
    subst e1
    subst e2
    have hq := hc (j + 1) (by omega)
    have e : off + (j + 1) = off + 1 + j := by omega
    rw [e] at hq
    have hg : (x :: r).getD (j + 1) 0 = (r.take W).getD j 0 := by
      simp only [List.getD_eq_getElem?_getD, List.getElem?_cons_succ]
      rw [List.getElem?_take_of_lt (by omega)]
    rw [hg] at hq
    refine (World.cell?_of_block ?_).trans hq
    exact Below.heap_setCell w ⟨P, 3, none⟩ u b hb

def harg (i : Nat) (r : List Nat) : Nat := if i < 24 then i else bnum 0 (r.take (hwide i))
theorem harg_lt (i : Nat) (r : List Nat) (hi : i ≤ 31) (hb : ∀ z ∈ r, z < 256) : harg i r < 18446744073709551616 := by
  unfold harg
  split
  · omega
  · have h1 := bnum_lt (r.take (hwide i)) 0 (fun z hz => hb z (List.mem_of_mem_take hz))
    have h2 : (r.take (hwide i)).length ≤ 8 := by rw [List.length_take]; have := hwide_le i; omega
    have h3 : 256 ^ (r.take (hwide i)).length ≤ 256 ^ 8 := Nat.pow_le_pow_right (by decide) h2
    simp at h1 h3; omega
theorem hsize_small {n : Nat} (h : n < 24) : hsize n = 1 := by
  have := hinfo_cases n
  have e : hinfo n = n := by omega
  unfold hsize
  rw [e, hwide_small h]
theorem hwide31 : hwide 31 = 0 := rfl
theorem hrd_not {x : Nat} {r : List Nat} (h : ¬ hmay (x / 32) (x % 32)) : hrd (x :: r) = .bad 21 := by
  unfold hmay at h
  exact hrd_info (by omega) (by omega)
theorem hrd_few {x : Nat} {r : List Nat} (h : hmay (x / 32) (x % 32)) (hl : r.length < hwide (x % 32)) : hrd (x :: r) = .bad 20 := by
  unfold hmay at h
  have h24 : 24 ≤ x % 32 := by
    by_cases h' : x % 32 < 24
    · rw [hwide_small h'] at hl; omega
    · omega
  have h27 : x % 32 ≤ 27 := by
    by_cases h' : x % 32 = 31
    · rw [h', hwide31] at hl; omega
    · omega
  exact hrd_short h24 h27 hl
theorem hrd_two {x : Nat} {r : List Nat} (hl : ¬ r.length < hwide (x % 32)) (hm : x / 32 = 7) (hi : x % 32 = 24) (hn : harg (x % 32) r < 32) : hrd (x :: r) = .bad 21 := by
  unfold harg at hn
  rw [if_neg (by omega)] at hn
  exact hrd_low hi hl hm hn
theorem hrd_all {x : Nat} {r : List Nat} (h : hmay (x / 32) (x % 32)) (hl : ¬ r.length < hwide (x % 32)) (hn : ¬ (x / 32 = 7 ∧ x % 32 = 24 ∧ harg (x % 32) r < 32)) :
    hrd (x :: r) = ⟨x / 32, x % 32, harg (x % 32) r, 1 + hwide (x % 32), decide (x % 32 = 31) || (decide (x / 32 = 7) || decide (1 + hwide (x % 32) = hsize (harg (x % 32) r))), 0⟩ := by
  unfold hmay at h
  by_cases h24 : x % 32 < 24
  · rw [hrd_small h24]
    have e : harg (x % 32) r = x % 32 := by unfold harg; rw [if_pos h24]
    rw [e, hwide_small h24, hsize_small h24]
    simp
  · by_cases h31 : x % 32 = 31
    · rw [hrd_end h31 (by omega)]
      have e : harg (x % 32) r = 0 := by unfold harg; rw [if_neg h24, h31, hwide31]; rfl
      rw [e, h31, hwide31]
      simp
    · have e : harg (x % 32) r = bnum 0 (r.take (hwide (x % 32))) := by unfold harg; rw [if_neg h24]
      rw [e] at hn ⊢
      rw [hrd_long (by omega) (by omega) hl hn, decide_eq_false h31, Bool.false_or]

end Go.Proofs.Ytfjdpooaipehmaa
