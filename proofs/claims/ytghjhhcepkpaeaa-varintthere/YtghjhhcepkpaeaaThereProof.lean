import Derived.Test.YtghjhhcepkpaeaaThere
import Derived.Test.YtghjhhcepkpaeaaOpen
import Derived.Lib.SmallJoins
namespace Go.Proofs.Ytghjhhcepkpaeaa
open Go.ChangeShapes Go.WideShapes Go.ChangeAt Go.RowKit Go.Deep Go.Joins

theorem Try.cells54 : Try.prog.cellsOf 54 = 1 := by kernel_rfl
theorem Try.cells66 : Try.prog.cellsOf 66 = 2 := by kernel_rfl

set_option maxRecDepth 1000000 in
set_option maxHeartbeats 400000 in
/-- No numbers: a nil slice too. -/
theorem there_none (a : Option Addr) (cap : Nat) (vt : Value) (w : World) : Calls Try.prog 4 #[.agg #[.slice a 0 cap, vt]] w fun e w' => e = .returned (.bool true) ∧ Below w.heap.size w w' := by
  go_enter Try.func4, Try.ntmps4
  go_wp2
  refine wp_loop_rounds 1 ?_
  rw [rounds_succ]
  go_wp2_with fail
  refine (lays_any _).mono ?_
  rintro e w3 ⟨rfl, hbel3⟩
  have HBL3 : Hid (Below w.heap.size w w3) := ((Below.refl _ _).alloc (Nat.le_refl _) _).trans (hbel3.mono (by simp))
  clear hbel3
  go_wp2
  go_ret
  exact ⟨rfl, HBL3.out⟩

/-- What the way down gives of a slice of bytes. -/
theorem bsl_of_trod {H : Type} {enc : TypeId × Value → H} {w : World} {base fuel : Nat} {held : Bool} {v : Value} {x : DataW H × List MemPlace} (h : DataW.trod enc Try.prog w base (fun _ => true) held fuel 50 [v] = some x) : ∃ xs, BSl w v xs := by
  rcases open_ints Try.underlying50 Try.underlying5 Try.cells5 h with ⟨hcs, _⟩ | ⟨a, len, cap, zs, hcs, _, hl, hm, hz, _, hcell, hwz⟩
  · injection hcs with hcs _
    subst hcs
    exact ⟨_, bsl_of_row none 0 0 [] (Nat.le_refl _) (Nat.zero_le _) rfl (by simp) (fun _ => rfl) (fun _ hh => by cases hh)⟩
  · injection hcs with hcs _
    subst hcs
    simp only [if_true] at hz
    exact ⟨_, bsl_of_row (some a) len cap zs hl hm hz hwz (fun hh => by cases hh) (fun a' hh c hc => by cases hh; exact hcell c (by omega))⟩

set_option maxRecDepth 100000 in
theorem there_lifted (os : Os) (started : os.Started) (H : Type) (enc : TypeId × Value → H) :
    ReturnsInHanded {} Try.checked os 4 .any (Rows.varintThereSpec.pre6 enc Try.prog Try.f4 Rows.varintThereRow.domain false) (Rows.varintThereSpec.post enc Try.prog Try.f4 false true false false) := by
  refine returnsInHanded_of_change (C := Try.checked) Try.own started (by kernel_rfl) Try.func4
    (ChangeSpec.witness6 (enc := enc) (C := Try.checked) false ⟨#[], #[.agg #[.slice none 0 0, .slice none 0 0]], []⟩ 8 (by kernel_rfl) (by kernel_rfl) (by kernel_rfl) (by kernel_rfl)) ?_
  intro W base args ds gs before hval0 hW _ _
  have hval : ∀ (j : Nat) t v, Try.f4.params[j]? = some t → args[j]? = some v → Value.okWide Try.prog W .any base t v := hval0
  have hW' := hW
  obtain ⟨p, q, hA0, hV, rfl, hfz, hnd⟩ := hW
  have hA : DataW.TrodAll enc Try.prog W 0 (fun _ => true) true Try.f4.params.toList args.toList ds p := hA0
  rw [Try.params4] at hA hval
  obtain ⟨v0, d0, rfl, rfl, h0⟩ := trodAll_one hA
  obtain ⟨rfl, rfl⟩ := trodVars_none hV
  have k0 := h0
  have lt0 : ∀ x ∈ p, x.block < W.heap.size := by obtain ⟨m, hm⟩ := k0; exact DataW.trod_lt m _ _ _ hm
  have hwalk : Calls Try.prog 4 #[v0] W fun e w' => e = .returned (.bool true) ∧ Below W.heap.size W w' := by
    obtain ⟨c0, c1, y0, y1, m, rfl, _, _, hy0, hy1⟩ := open_agg2 Try.underlying66 (by kernel_rfl) Try.cells66 (hval 0 66 v0 rfl rfl) h0
    obtain ⟨tl, htl⟩ := bsl_of_trod hy1
    rcases open_ints Try.underlying22 Try.underlying54 Try.cells54 hy0 with ⟨hcs, _⟩ | ⟨a, len, cap, zs, hcs, _, hl, hm, hz, _, hcell, hwz⟩
    · injection hcs with hcs _
      subst hcs
      exact there_none _ _ _ _
    · injection hcs with hcs _
      subst hcs
      simp only [if_true] at hz
      by_cases hz0 : len = 0
      · subst hz0; exact there_none _ _ _ _
      · obtain ⟨b, off, spot⟩ := a
        have h1 := hcell 0 (by omega)
        have hspot : spot = none := by simpa [Addr.add] using World.cell?_spot h1
        subst hspot
        refine there_any b off len cap zs c1 tl W (by unfold maxLen at hm; omega) (fun j hj => ?_) (fun j => ?_) htl
        · have h2 := hcell j (by omega)
          have hadd : (⟨b, off, none⟩ : Addr).add j = ⟨b, off + j, none⟩ := by unfold Addr.add; split <;> simp_all
          rw [hadd] at h2
          exact h2
        · by_cases hj : j < zs.length
          · have hb := bounds_u64 (hwz zs[j] (List.getElem_mem hj))
            rw [List.getD_eq_getElem?_getD, List.getElem?_eq_getElem hj]
            simp only [Option.getD_some]
            omega
          · rw [List.getD_eq_getElem?_getD, List.getElem?_eq_none (by omega)]
            decide
  clear hA0 hval0
  refine hwalk.mono fun e W' ⟨he, bel⟩ => ?_
  subst he
  exact ⟨_, rfl, _, _, _, [], _, [], hW', trodAll_mk1 (shut_bool Try.underlying4 _), trodAll_mk1 (Below.trod Try.laidOut (by kernel_rfl) (of_decide_eq_true (by kernel_rfl)) k0 bel lt0), rfl, bel.frame _, fun h => by cases h⟩

theorem there_holds : Rows.VarintThereSaid :=
  OpenClaim.holds_of_wide 4 Try.f4 rfl rfl rfl rfl rfl rfl rfl ⟨rfl, rfl, rfl, rfl, rfl⟩ rfl rfl rfl rfl rfl (by kernel_rfl) Try.func4 (by kernel_rfl)
    (of_decide_eq_true (by kernel_rfl)) (by unfold Func.isWrapper; first | (rw [if_pos (by decide +kernel)]; kernel_rfl) | (rw [if_neg (by decide +kernel)]; exact ⟨rfl, rfl⟩))
    (fun os started H enc _ => there_lifted os started H enc)
#print axioms there_holds
end Go.Proofs.Ytghjhhcepkpaeaa
