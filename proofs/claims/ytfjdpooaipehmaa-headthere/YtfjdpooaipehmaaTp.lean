import Derived.Test.YtfjdpooaipehmaaTh
import Derived.Test.YtfjdpooaipehmaaOa
namespace Go.Proofs.Ytfjdpooaipehmaa
open Go.ChangeShapes Go.WideShapes Go.ChangeAt Go.RowKit Go.Deep Go.Joins

theorem Try.cellsTails : Try.prog.cellsOf 63 = 2 := by kernel_rfl

set_option maxRecDepth 1000000 in
set_option maxHeartbeats 400000 in
/-- No arguments: a nil slice too. -/
theorem there_none (a : Option Addr) (cap : Nat) (vt : Value) (w : World) : Calls Try.prog 4 #[.agg #[.slice a 0 cap, vt]] w fun e w' => e = .returned (.bool true) ∧ Below w.heap.size w w' := by
  go_enter Try.func4, Try.ntmps4
  go_wp2
  refine wp_loop_rounds 1 ?_
  rw [rounds_succ]
  go_wp2_with fail
  refine (lays_any _).mono ?_
  rintro e w3 ⟨rfl, hbel3⟩
  have HBL3 : Hid (Below w.heap.size w w3) := ((Below.refl _ _).alloc (Nat.le_refl _) _).trans (hbel3.mono (by simp))
  clear hbel3
  go_wp2
  go_ret
  exact ⟨rfl, HBL3.out⟩

set_option maxRecDepth 100000 in
theorem there_lifted (os : Os) (started : os.Started) (H : Type) (enc : TypeId × Value → H) :
    ReturnsInHanded {} Try.checked os 4 .any (Rows.headThereSpec.pre6 enc Try.prog Try.f4 Rows.headThereRow.domain false) (Rows.headThereSpec.post enc Try.prog Try.f4 false true false false) := by
  refine returnsInHanded_of_change (C := Try.checked) Try.own started (by kernel_rfl) Try.func4
    (ChangeSpec.witness6 (enc := enc) (C := Try.checked) false ⟨#[], #[.agg #[.slice none 0 0, .slice none 0 0]], []⟩ 8 (by kernel_rfl) (by kernel_rfl) (by kernel_rfl) (by kernel_rfl)) ?_
  intro W base args ds gs before hval0 hW _ _
  have hval : ∀ (j : Nat) t v, Try.f4.params[j]? = some t → args[j]? = some v → Value.okWide Try.prog W .any base t v := hval0
  have hW' := hW
  obtain ⟨p, q, hA0, hV, rfl, hfz, hnd⟩ := hW
  have hA : DataW.TrodAll enc Try.prog W 0 (fun _ => true) true Try.f4.params.toList args.toList ds p := hA0
  rw [Try.params4] at hA hval
  obtain ⟨v0, d0, rfl, rfl, h0⟩ := trodAll_one hA
  obtain ⟨rfl, rfl⟩ := trodVars_none hV
  have k0 := h0
  have lt0 : ∀ x ∈ p, x.block < W.heap.size := by obtain ⟨m, hm⟩ := k0; exact DataW.trod_lt m _ _ _ hm
  have hwalk : Calls Try.prog 4 #[v0] W fun e w' => e = .returned (.bool true) ∧ Below W.heap.size W w' := by
    obtain ⟨c0, c1, y0, y1, m, rfl, _, _, hy0, hy1⟩ := open_agg2 Try.underlying63 (by kernel_rfl) Try.cellsTails (hval 0 63 v0 rfl rfl) h0
    obtain ⟨tl, htl⟩ := bsl_of_trod hy1
    rcases args_of_trod hy0 with rfl | ⟨b, off, len, cap, spot, ms, ns, rfl, hl, hs, hc⟩
    · exact there_none _ _ _ _
    · by_cases hz0 : len = 0
      · subst hz0; exact there_none _ _ _ _
      · obtain rfl := hs hz0
        exact there_any b off len cap ms ns c1 tl W hl (fun j hj => (hc rfl j hj).1) (fun j hj => (hc rfl j hj).2) htl
  clear hA0 hval0
  refine hwalk.mono fun e W' ⟨he, bel⟩ => ?_
  subst he
  exact ⟨_, rfl, _, _, _, [], _, [], hW', trodAll_mk1 (shut_bool Try.underlying4 _), trodAll_mk1 (Below.trod Try.laidOut (by kernel_rfl) (of_decide_eq_true (by kernel_rfl)) k0 bel lt0), rfl, bel.frame _, fun h => by cases h⟩

theorem there_holds : Rows.HeadThereSaid :=
  OpenClaim.holds_of_wide 4 Try.f4 rfl rfl rfl rfl rfl rfl rfl ⟨rfl, rfl, rfl, rfl, rfl⟩ rfl rfl rfl rfl rfl (by kernel_rfl) Try.func4 (by kernel_rfl)
    (of_decide_eq_true (by kernel_rfl)) (by unfold Func.isWrapper; first | (rw [if_pos (by decide +kernel)]; kernel_rfl) | (rw [if_neg (by decide +kernel)]; exact ⟨rfl, rfl⟩))
    (fun os started H enc _ => there_lifted os started H enc)
#print axioms there_holds
end Go.Proofs.Ytfjdpooaipehmaa
