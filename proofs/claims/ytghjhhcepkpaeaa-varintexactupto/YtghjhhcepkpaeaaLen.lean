import Derived.Test.YtghjhhcepkpaeaaRows
import Derived.WalkKit
import Derived.WalkSpells
import Derived.WalkLawsBesides
import Derived.ScopeJumps
namespace Go.Proofs.Ytghjhhcepkpaeaa
open Go.RowKit

theorem hide {p : Prop} (h : p) : Hid p := h

/-- A scope whose run jumps back to one label: as 'wp_scope_jumps', but what is proved of a pass from the label serves the first arrival too. -/
theorem scope_again {P : Program} {a : Act} {w : World} {Q : Exit → Act → World → Prop} {c rest : Code} (l : Nat) (J : Act → World → Prop) (μ : Act → World → Nat) (hf : findLabel c l = some (Code.skip.seq rest))
    (pass : ∀ a w, J a w → rest.wp P (Exit.jump l (fun a' w' => J a' w' ∧ μ a' w' < μ a w) Q) a w)
    (first : Hid (∀ a w, J a w → rest.wp P (Exit.jump l J Q) a w) → c.wp P (Exit.jump l J Q) a w) : (Code.scope c).wp P Q a w :=
  wp_scope_jumps l J μ hf (first (fun a w h => Code.wp_mono (fun e a' w' hq => by
    cases e with
    | goto l' => exact ⟨hq.1, hq.2.1⟩
    | normal => exact hq
    | exit id => exact hq
    | ret => exact hq
    | panic ch => exact hq
    | outgrown => exact hq) (pass a w h))) (fun a w h => wp_seq (wp_skip (pass a w h)))

def digs : Nat → Nat → List Nat
  | 0, _ => []
  | f + 1, n => if n < 128 then [n] else (n % 128 + 128) :: digs f (n / 128)

theorem digs_small {f n : Nat} (h : n < 128) : digs (f + 1) n = [n] := by simp [digs, h]
theorem digs_big {f n : Nat} (h : 128 ≤ n) : digs (f + 1) n = (n % 128 + 128) :: digs f (n / 128) := by
  have : ¬ n < 128 := by omega
  simp [digs, this]
/-- What a step of the loop keeps: the number is 128 or more, so there is fuel for another. -/
theorem fuel_down {f n : Nat} (h : 128 ≤ n) (hf : n < 128 ^ (f + 1)) : ∃ g, f = g + 1 ∧ n / 128 < 128 ^ (g + 1) := by
  match f, hf with
  | 0, hf => simp at hf; omega
  | g + 1, hf => exact ⟨g, rfl, by rw [Nat.pow_succ] at hf; exact Nat.div_lt_of_lt_mul (by omega)⟩
theorem digs_pos {f n : Nat} : 1 ≤ (digs (f + 1) n).length := by
  unfold digs; split <;> simp
theorem digs_len : ∀ f n, (digs f n).length ≤ f
  | 0, _ => by simp [digs]
  | f + 1, n => by
    unfold digs; split
    · simp
    · have := digs_len f (n / 128); simp; omega

set_option maxRecDepth 1000000 in
set_option maxHeartbeats 400000 in
theorem len_any (n : Int) (w : World) (h0 : 0 ≤ n) (h1 : n < 9223372036854775808) :
    Calls Try.prog 9 #[.int .u64 n] w fun e w' => e = .returned (.int .i64 (digs 9 n.toNat).length) ∧ w' = w := by
  go_enter Try.func9, Try.ntmps9
  go_wp2
  refine wp_scope_jumps 0 (fun a' w' => w' = w ∧ ∃ (m f s : Nat) (u4 u5 u6 u7 u8 u9 u10 u11 u12 : Value), a' = { tmps := #[.int .u64 m, undef, .int .i64 0, .int .i64 s, u4, u5, u6, u7, u8, u9, u10, u11, u12], defers := [] } ∧ m < 128 ^ (f + 1) ∧ s + (digs (f + 1) m).length = 1 + (digs 9 n.toNat).length ∧ 1 ≤ s) (fun a' _ => (intOf (a'.tmps.getD 0 undef)).toNat) rfl ?_ ?_
  · go_wp2
    go_step3
    go_wp2
    · have hb : 128 ≤ n.toNat := by omega
      obtain ⟨g, hg, hlt⟩ := fuel_down (f := 8) (n := n.toNat) hb (by omega)
      have e : n / 128 = ((n.toNat / 128 : Nat) : Int) := by omega
      go_step3
      refine ⟨rfl, rfl, n.toNat / 128, g, 2, _, _, _, _, _, _, _, _, _, by rw [← e]; rfl, hlt, ?_, by omega⟩
      rw [digs_big (f := 8) hb, hg]
      simp; omega
    · have hb : n.toNat < 128 := by omega
      simp only [Exit.jump]
      go_ret
      exact ⟨by rw [digs_small (f := 8) hb]; rfl, rfl⟩
  · rintro a' w' ⟨rfl, m, f, s, u4, u5, u6, u7, u8, u9, u10, u11, u12, rfl, hm, hs, hs1⟩
    have hl := digs_len 9 n.toNat
    have HS := hide hs
    have HM := hide hm
    have hs20 : (s : Int) < 20 := by omega
    clear hs hl hm h0 h1
    go_wp2
    · have hb : 128 ≤ m := by omega
      obtain ⟨g, hg, hlt⟩ := fuel_down hb (HM.out)
      subst hg
      go_step3
      refine ⟨rfl, ⟨rfl, m / 128, g, s + 1, _, _, _, _, _, _, _, _, _, rfl, hlt, ?_, by omega⟩, ?_⟩
      · have := HS.out
        rw [digs_big hb] at this
        simp at this ⊢; omega
      · simp [intOf]; omega
    · have hb : m < 128 := by omega
      have := HS.out
      rw [digs_small hb] at this
      simp only [Exit.jump]
      go_ret
      exact ⟨by simp at this ⊢; omega, rfl⟩

set_option maxRecDepth 1000000 in
theorem len_no (n : Int) (w : World) (h1 : 9223372036854775808 ≤ n) :
    Calls Try.prog 9 #[.int .u64 n] w fun e w' => e = .returned (.int .i64 0) ∧ w' = w := by
  go_enter Try.func9, Try.ntmps9
  go_wp2
  go_step3
  go_wp2
  simp only [Exit.noGoto_ret]
  go_ret
  exact ⟨rfl, rfl⟩

end Go.Proofs.Ytghjhhcepkpaeaa
