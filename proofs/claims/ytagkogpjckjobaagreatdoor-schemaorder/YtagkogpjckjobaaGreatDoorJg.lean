import Derived.Test.YtagkogpjckjobaaGreatDoorJf
import Derived.Laws.EntriesVeiled
namespace Go.Proofs.YtagkogpjckjobaaGreatDoor
section
open Go.RowKit Go
set_option maxRecDepth 1000000 in
set_option maxHeartbeats 1000000 in
theorem indexLost_any (w : World) (v : Value) (xs : List Rf) (hv : RSl w v xs) (vt : Value) (B : Nat) (p : Nat → Bool) (I : Nat → World → Prop) (h0 : I 0 w) (hB : ∀ i wx, I i wx → RSl wx v xs) (hC : ∀ i x wx, xs[i]? = some x → I i wx → Calls Tryz.prog 47 #[.agg #[vt, .map (some B)], .agg #[.string x.n, .bool x.z]] wx fun e w' => e = .returned (.bool (p i)) ∧ I (i + 1) w') : Calls Tryz.prog 70 #[v, .func (.func 47) #[.agg #[vt, .map (some B)]] #[]] w fun e w' => ∃ r : Int, e = .returned (.int .i64 r) ∧ Hid (decide (0 ≤ r) = (List.range xs.length).any p ∧ ∃ i, I i w') := by
  have HH0 := hide h0
  have HB := hide hB
  have HC := hide hC
  have hmax := hv.max
  obtain ⟨⟨a, cap, rfl, _, hform⟩, _⟩ := hv
  clear h0 hB hC hform
  have HIT := hide infoRf
  have HAT : Hid (∀ w, (isAgg 24).run Tryz.prog w = .ok true w) := aggRf
  go_enter Tryz.func70, Tryz.ntmps70
  go_wp2_with fail
  go_loopw [8] (fun ii wx => ∃ i : Nat, i ≤ xs.length ∧ ii = .int .i64 (i : Nat) ∧ Hid (∀ j, j < i → p j = false) ∧ Hid (I i wx)) (fun ii _ => xs.length - (intOf ii).toNat)
  case atStart => exact ⟨0, by omega, rfl, fun j hj => absurd hj (by omega), HH0⟩
  case round =>
    obtain ⟨i, hi, rfl, HN, HI⟩ := hrel
    by_cases hlt : i < xs.length
    · as_aux_lemma =>
      have g1 : (i : Int) < (xs.length : Int) := by omega
      obtain ⟨x, hx⟩ : ∃ x, xs[i]? = some x := ⟨xs[i], List.getElem?_eq_getElem hlt⟩
      have hsl := HB.out i wr HI.out
      obtain ⟨⟨a', cap', hv', _, hf'⟩, _⟩ := hsl
      injection hv' with e1 _ e3
      subst e1
      obtain ⟨b, off, rfl, hcc⟩ := hf'.resolve_left (fun h => by rw [h] at hlt; simp at hlt)
      clear e3
      obtain ⟨c, ⟨rfl, _⟩, hcell⟩ := hcc i x hx
      unfold rfc at hcell
      have HCL : Hid (∀ j u, (#[.string x.n, .bool x.z] : Array Value)[j]? = some u → wr.cell? ⟨b, off + i * 2 + j, none⟩ = some u) := hcell
      clear hcell
      have HCA := hide (HC.out i x wr hx HI.out)
      clear hcc hx HC
      go_wp2_with (refine wpList_aggAt rfl rfl HIT.out HAT.out b (off + i * 2) #[.string x.n, .bool x.z] rfl rfl HCL.out ?_)
      refine HCA.out.mono ?_
      rintro e w1 ⟨rfl, hb1⟩
      have HI1 := hide hb1
      clear hb1 HCA
      rcases Bool.eq_false_or_eq_true (p i) with hr | hr
      · have HA : Hid ((List.range xs.length).any p = true) := List.any_eq_true.2 ⟨i, List.mem_range.2 hlt, hr⟩
        rw [hr]
        go_wp2_with fail
        go_ret
        exact ⟨_, rfl, by rw [HA.out, decide_eq_true (by omega)], _, HI1.out⟩
      · have HN2 : Hid (∀ j, j < i + 1 → p j = false) := fun j hj => by
          by_cases hji : j = i
          · rw [hji]; exact hr
          · exact HN.out j (by omega)
        rw [hr]
        clear hr HN
        go_wp2_with fail
        go_roundw
        case rel => exact ⟨i + 1, by omega, by go_num, HN2, HI1⟩
        case measure => simp [intOf]; omega
    · as_aux_lemma =>
      have g1 : ¬ (i : Int) < (xs.length : Int) := by omega
      have HA : Hid ((List.range xs.length).any p = false) := by
        show _ = _
        rw [List.any_eq_false]
        intro j hj
        rw [HN.out j (by have := List.mem_range.1 hj; omega)]
        simp
      go_wp2_with fail
      go_ret
      exact ⟨_, rfl, by rw [HA.out]; rfl, _, HI.out⟩
set_option maxRecDepth 1000000 in
theorem containsLost_any (w : World) (v : Value) (xs : List Rf) (hv : RSl w v xs) (vt : Value) (B : Nat) (p : Nat → Bool) (I : Nat → World → Prop) (h0 : I 0 w) (hB : ∀ i wx, I i wx → RSl wx v xs) (hC : ∀ i x wx, xs[i]? = some x → I i wx → Calls Tryz.prog 47 #[.agg #[vt, .map (some B)], .agg #[.string x.n, .bool x.z]] wx fun e w' => e = .returned (.bool (p i)) ∧ I (i + 1) w') : Calls Tryz.prog 45 #[v, .func (.func 47) #[.agg #[vt, .map (some B)]] #[]] w fun e w' => e = .returned (.bool ((List.range xs.length).any p)) ∧ Hid (∃ i, I i w') := by
  have HCA := hide (indexLost_any w v xs hv vt B p I h0 hB hC)
  obtain ⟨⟨a, cap, rfl, _, _⟩, _⟩ := hv
  clear h0 hB hC
  go_enter Tryz.func45, Tryz.ntmps45
  go_wp2_with fail
  refine HCA.out.mono ?_
  rintro e w1 ⟨r, rfl, h⟩
  have HR := hide h.out.1
  have HI := hide h.out.2
  clear h HCA
  go_wp2_with fail
  go_ret
  exact ⟨by rw [← HR.out]; rfl, HI⟩
set_option maxRecDepth 1000000 in
set_option maxHeartbeats 1000000 in
theorem indexNull_any (w : World) (v : Value) (xs : List Rf) (hv : RSl w v xs) (vt : Value) (B : Nat) (p : Nat → Bool) (I : Nat → World → Prop) (h0 : I 0 w) (hB : ∀ i wx, I i wx → RSl wx v xs) (hC : ∀ i x wx, xs[i]? = some x → I i wx → Calls Tryz.prog 50 #[.agg #[vt, .map (some B)], .agg #[.string x.n, .bool x.z]] wx fun e w' => e = .returned (.bool (p i)) ∧ I (i + 1) w') : Calls Tryz.prog 70 #[v, .func (.func 50) #[.agg #[vt, .map (some B)]] #[]] w fun e w' => ∃ r : Int, e = .returned (.int .i64 r) ∧ Hid (decide (0 ≤ r) = (List.range xs.length).any p ∧ ∃ i, I i w') := by
  have HH0 := hide h0
  have HB := hide hB
  have HC := hide hC
  have hmax := hv.max
  obtain ⟨⟨a, cap, rfl, _, hform⟩, _⟩ := hv
  clear h0 hB hC hform
  have HIT := hide infoRf
  have HAT : Hid (∀ w, (isAgg 24).run Tryz.prog w = .ok true w) := aggRf
  go_enter Tryz.func70, Tryz.ntmps70
  go_wp2_with fail
  go_loopw [8] (fun ii wx => ∃ i : Nat, i ≤ xs.length ∧ ii = .int .i64 (i : Nat) ∧ Hid (∀ j, j < i → p j = false) ∧ Hid (I i wx)) (fun ii _ => xs.length - (intOf ii).toNat)
  case atStart => exact ⟨0, by omega, rfl, fun j hj => absurd hj (by omega), HH0⟩
  case round =>
    obtain ⟨i, hi, rfl, HN, HI⟩ := hrel
    by_cases hlt : i < xs.length
    · as_aux_lemma =>
      have g1 : (i : Int) < (xs.length : Int) := by omega
      obtain ⟨x, hx⟩ : ∃ x, xs[i]? = some x := ⟨xs[i], List.getElem?_eq_getElem hlt⟩
      have hsl := HB.out i wr HI.out
      obtain ⟨⟨a', cap', hv', _, hf'⟩, _⟩ := hsl
      injection hv' with e1 _ e3
      subst e1
      obtain ⟨b, off, rfl, hcc⟩ := hf'.resolve_left (fun h => by rw [h] at hlt; simp at hlt)
      clear e3
      obtain ⟨c, ⟨rfl, _⟩, hcell⟩ := hcc i x hx
      unfold rfc at hcell
      have HCL : Hid (∀ j u, (#[.string x.n, .bool x.z] : Array Value)[j]? = some u → wr.cell? ⟨b, off + i * 2 + j, none⟩ = some u) := hcell
      clear hcell
      have HCA := hide (HC.out i x wr hx HI.out)
      clear hcc hx HC
      go_wp2_with (refine wpList_aggAt rfl rfl HIT.out HAT.out b (off + i * 2) #[.string x.n, .bool x.z] rfl rfl HCL.out ?_)
      refine HCA.out.mono ?_
      rintro e w1 ⟨rfl, hb1⟩
      have HI1 := hide hb1
      clear hb1 HCA
      rcases Bool.eq_false_or_eq_true (p i) with hr | hr
      · have HA : Hid ((List.range xs.length).any p = true) := List.any_eq_true.2 ⟨i, List.mem_range.2 hlt, hr⟩
        rw [hr]
        go_wp2_with fail
        go_ret
        exact ⟨_, rfl, by rw [HA.out, decide_eq_true (by omega)], _, HI1.out⟩
      · have HN2 : Hid (∀ j, j < i + 1 → p j = false) := fun j hj => by
          by_cases hji : j = i
          · rw [hji]; exact hr
          · exact HN.out j (by omega)
        rw [hr]
        clear hr HN
        go_wp2_with fail
        go_roundw
        case rel => exact ⟨i + 1, by omega, by go_num, HN2, HI1⟩
        case measure => simp [intOf]; omega
    · as_aux_lemma =>
      have g1 : ¬ (i : Int) < (xs.length : Int) := by omega
      have HA : Hid ((List.range xs.length).any p = false) := by
        show _ = _
        rw [List.any_eq_false]
        intro j hj
        rw [HN.out j (by have := List.mem_range.1 hj; omega)]
        simp
      go_wp2_with fail
      go_ret
      exact ⟨_, rfl, by rw [HA.out]; rfl, _, HI.out⟩
set_option maxRecDepth 1000000 in
theorem containsNull_any (w : World) (v : Value) (xs : List Rf) (hv : RSl w v xs) (vt : Value) (B : Nat) (p : Nat → Bool) (I : Nat → World → Prop) (h0 : I 0 w) (hB : ∀ i wx, I i wx → RSl wx v xs) (hC : ∀ i x wx, xs[i]? = some x → I i wx → Calls Tryz.prog 50 #[.agg #[vt, .map (some B)], .agg #[.string x.n, .bool x.z]] wx fun e w' => e = .returned (.bool (p i)) ∧ I (i + 1) w') : Calls Tryz.prog 45 #[v, .func (.func 50) #[.agg #[vt, .map (some B)]] #[]] w fun e w' => e = .returned (.bool ((List.range xs.length).any p)) ∧ Hid (∃ i, I i w') := by
  have HCA := hide (indexNull_any w v xs hv vt B p I h0 hB hC)
  obtain ⟨⟨a, cap, rfl, _, _⟩, _⟩ := hv
  clear h0 hB hC
  go_enter Tryz.func45, Tryz.ntmps45
  go_wp2_with fail
  refine HCA.out.mono ?_
  rintro e w1 ⟨r, rfl, h⟩
  have HR := hide h.out.1
  have HI := hide h.out.2
  clear h HCA
  go_wp2_with fail
  go_ret
  exact ⟨by rw [← HR.out]; rfl, HI⟩
set_option maxRecDepth 1000000 in
set_option maxHeartbeats 1000000 in
theorem indexKeys_any (w : World) (v : Value) (xs : List Cz) (hv : CSl w v xs) (q : Nat) (p : Nat → Bool) (I : Nat → World → Prop) (h0 : I 0 w) (hB : ∀ i wx, I i wx → CSl wx v xs) (hC : ∀ i x wx, xs[i]? = some x → I i wx → Calls Tryz.prog 74 #[.agg #[.string x.k, .string x.n], .pointer (some ⟨q, 0, none⟩)] wx fun e w' => e = .returned (.bool (p i)) ∧ I (i + 1) w') : Calls Tryz.prog 101 #[v, .func (.func 74) #[] #[.pointer (some ⟨q, 0, none⟩)]] w fun e w' => ∃ r : Int, e = .returned (.int .i64 r) ∧ Hid (decide (0 ≤ r) = (List.range xs.length).any p ∧ ∃ i, I i w') := by
  have HH0 := hide h0
  have HB := hide hB
  have HC := hide hC
  have hmax := hv.max
  obtain ⟨⟨a, cap, rfl, _, hform⟩, _⟩ := hv
  clear h0 hB hC hform
  have HIT := hide infoCz
  have HAT : Hid (∀ w, (isAgg 82).run Tryz.prog w = .ok true w) := aggCz
  go_enter Tryz.func101, Tryz.ntmps101
  go_wp2_with fail
  go_loopw [8] (fun ii wx => ∃ i : Nat, i ≤ xs.length ∧ ii = .int .i64 (i : Nat) ∧ Hid (∀ j, j < i → p j = false) ∧ Hid (I i wx)) (fun ii _ => xs.length - (intOf ii).toNat)
  case atStart => exact ⟨0, by omega, rfl, fun j hj => absurd hj (by omega), HH0⟩
  case round =>
    obtain ⟨i, hi, rfl, HN, HI⟩ := hrel
    by_cases hlt : i < xs.length
    · as_aux_lemma =>
      have g1 : (i : Int) < (xs.length : Int) := by omega
      obtain ⟨x, hx⟩ : ∃ x, xs[i]? = some x := ⟨xs[i], List.getElem?_eq_getElem hlt⟩
      have hsl := HB.out i wr HI.out
      obtain ⟨⟨a', cap', hv', _, hf'⟩, _⟩ := hsl
      injection hv' with e1 _ e3
      subst e1
      obtain ⟨b, off, rfl, hcc⟩ := hf'.resolve_left (fun h => by rw [h] at hlt; simp at hlt)
      clear e3
      obtain ⟨c, ⟨rfl, _⟩, hcell⟩ := hcc i x hx
      unfold czc at hcell
      have HCL : Hid (∀ j u, (#[.string x.k, .string x.n] : Array Value)[j]? = some u → wr.cell? ⟨b, off + i * 2 + j, none⟩ = some u) := hcell
      clear hcell
      have HCA := hide (HC.out i x wr hx HI.out)
      clear hcc hx HC
      go_wp2_with (refine wpList_aggAt rfl rfl HIT.out HAT.out b (off + i * 2) #[.string x.k, .string x.n] rfl rfl HCL.out ?_)
      refine HCA.out.mono ?_
      rintro e w1 ⟨rfl, hb1⟩
      have HI1 := hide hb1
      clear hb1 HCA
      rcases Bool.eq_false_or_eq_true (p i) with hr | hr
      · have HA : Hid ((List.range xs.length).any p = true) := List.any_eq_true.2 ⟨i, List.mem_range.2 hlt, hr⟩
        rw [hr]
        go_wp2_with fail
        go_ret
        exact ⟨_, rfl, by rw [HA.out, decide_eq_true (by omega)], _, HI1.out⟩
      · have HN2 : Hid (∀ j, j < i + 1 → p j = false) := fun j hj => by
          by_cases hji : j = i
          · rw [hji]; exact hr
          · exact HN.out j (by omega)
        rw [hr]
        clear hr HN
        go_wp2_with fail
        go_roundw
        case rel => exact ⟨i + 1, by omega, by go_num, HN2, HI1⟩
        case measure => simp [intOf]; omega
    · as_aux_lemma =>
      have g1 : ¬ (i : Int) < (xs.length : Int) := by omega
      have HA : Hid ((List.range xs.length).any p = false) := by
        show _ = _
        rw [List.any_eq_false]
        intro j hj
        rw [HN.out j (by have := List.mem_range.1 hj; omega)]
        simp
      go_wp2_with fail
      go_ret
      exact ⟨_, rfl, by rw [HA.out]; rfl, _, HI.out⟩
set_option maxRecDepth 1000000 in
theorem containsKeys_any (w : World) (v : Value) (xs : List Cz) (hv : CSl w v xs) (q : Nat) (p : Nat → Bool) (I : Nat → World → Prop) (h0 : I 0 w) (hB : ∀ i wx, I i wx → CSl wx v xs) (hC : ∀ i x wx, xs[i]? = some x → I i wx → Calls Tryz.prog 74 #[.agg #[.string x.k, .string x.n], .pointer (some ⟨q, 0, none⟩)] wx fun e w' => e = .returned (.bool (p i)) ∧ I (i + 1) w') : Calls Tryz.prog 73 #[v, .func (.func 74) #[] #[.pointer (some ⟨q, 0, none⟩)]] w fun e w' => e = .returned (.bool ((List.range xs.length).any p)) ∧ Hid (∃ i, I i w') := by
  have HCA := hide (indexKeys_any w v xs hv q p I h0 hB hC)
  obtain ⟨⟨a, cap, rfl, _, _⟩, _⟩ := hv
  clear h0 hB hC
  go_enter Tryz.func73, Tryz.ntmps73
  go_wp2_with fail
  refine HCA.out.mono ?_
  rintro e w1 ⟨r, rfl, h⟩
  have HR := hide h.out.1
  have HI := hide h.out.2
  clear h HCA
  go_wp2_with fail
  go_ret
  exact ⟨by rw [← HR.out]; rfl, HI⟩
set_option maxRecDepth 1000000 in
set_option maxHeartbeats 1000000 in
theorem indexNoKey_any (w : World) (v : Value) (xs : List Cz) (hv : CSl w v xs)  (p : Nat → Bool) (I : Nat → World → Prop) (h0 : I 0 w) (hB : ∀ i wx, I i wx → CSl wx v xs) (hC : ∀ i x wx, xs[i]? = some x → I i wx → Calls Tryz.prog 75 #[.agg #[.string x.k, .string x.n]] wx fun e w' => e = .returned (.bool (p i)) ∧ I (i + 1) w') : Calls Tryz.prog 101 #[v, .func (.func 75) #[] #[]] w fun e w' => ∃ r : Int, e = .returned (.int .i64 r) ∧ Hid (decide (0 ≤ r) = (List.range xs.length).any p ∧ ∃ i, I i w') := by
  have HH0 := hide h0
  have HB := hide hB
  have HC := hide hC
  have hmax := hv.max
  obtain ⟨⟨a, cap, rfl, _, hform⟩, _⟩ := hv
  clear h0 hB hC hform
  have HIT := hide infoCz
  have HAT : Hid (∀ w, (isAgg 82).run Tryz.prog w = .ok true w) := aggCz
  go_enter Tryz.func101, Tryz.ntmps101
  go_wp2_with fail
  go_loopw [8] (fun ii wx => ∃ i : Nat, i ≤ xs.length ∧ ii = .int .i64 (i : Nat) ∧ Hid (∀ j, j < i → p j = false) ∧ Hid (I i wx)) (fun ii _ => xs.length - (intOf ii).toNat)
  case atStart => exact ⟨0, by omega, rfl, fun j hj => absurd hj (by omega), HH0⟩
  case round =>
    obtain ⟨i, hi, rfl, HN, HI⟩ := hrel
    by_cases hlt : i < xs.length
    · as_aux_lemma =>
      have g1 : (i : Int) < (xs.length : Int) := by omega
      obtain ⟨x, hx⟩ : ∃ x, xs[i]? = some x := ⟨xs[i], List.getElem?_eq_getElem hlt⟩
      have hsl := HB.out i wr HI.out
      obtain ⟨⟨a', cap', hv', _, hf'⟩, _⟩ := hsl
      injection hv' with e1 _ e3
      subst e1
      obtain ⟨b, off, rfl, hcc⟩ := hf'.resolve_left (fun h => by rw [h] at hlt; simp at hlt)
      clear e3
      obtain ⟨c, ⟨rfl, _⟩, hcell⟩ := hcc i x hx
      unfold czc at hcell
      have HCL : Hid (∀ j u, (#[.string x.k, .string x.n] : Array Value)[j]? = some u → wr.cell? ⟨b, off + i * 2 + j, none⟩ = some u) := hcell
      clear hcell
      have HCA := hide (HC.out i x wr hx HI.out)
      clear hcc hx HC
      go_wp2_with (refine wpList_aggAt rfl rfl HIT.out HAT.out b (off + i * 2) #[.string x.k, .string x.n] rfl rfl HCL.out ?_)
      refine HCA.out.mono ?_
      rintro e w1 ⟨rfl, hb1⟩
      have HI1 := hide hb1
      clear hb1 HCA
      rcases Bool.eq_false_or_eq_true (p i) with hr | hr
      · have HA : Hid ((List.range xs.length).any p = true) := List.any_eq_true.2 ⟨i, List.mem_range.2 hlt, hr⟩
        rw [hr]
        go_wp2_with fail
        go_ret
        exact ⟨_, rfl, by rw [HA.out, decide_eq_true (by omega)], _, HI1.out⟩
      · have HN2 : Hid (∀ j, j < i + 1 → p j = false) := fun j hj => by
          by_cases hji : j = i
          · rw [hji]; exact hr
          · exact HN.out j (by omega)
        rw [hr]
        clear hr HN
        go_wp2_with fail
        go_roundw
        case rel => exact ⟨i + 1, by omega, by go_num, HN2, HI1⟩
        case measure => simp [intOf]; omega
    · as_aux_lemma =>
      have g1 : ¬ (i : Int) < (xs.length : Int) := by omega
      have HA : Hid ((List.range xs.length).any p = false) := by
        show _ = _
        rw [List.any_eq_false]
        intro j hj
        rw [HN.out j (by have := List.mem_range.1 hj; omega)]
        simp
      go_wp2_with fail
      go_ret
      exact ⟨_, rfl, by rw [HA.out]; rfl, _, HI.out⟩
set_option maxRecDepth 1000000 in
theorem containsNoKey_any (w : World) (v : Value) (xs : List Cz) (hv : CSl w v xs)  (p : Nat → Bool) (I : Nat → World → Prop) (h0 : I 0 w) (hB : ∀ i wx, I i wx → CSl wx v xs) (hC : ∀ i x wx, xs[i]? = some x → I i wx → Calls Tryz.prog 75 #[.agg #[.string x.k, .string x.n]] wx fun e w' => e = .returned (.bool (p i)) ∧ I (i + 1) w') : Calls Tryz.prog 73 #[v, .func (.func 75) #[] #[]] w fun e w' => e = .returned (.bool ((List.range xs.length).any p)) ∧ Hid (∃ i, I i w') := by
  have HCA := hide (indexNoKey_any w v xs hv p I h0 hB hC)
  obtain ⟨⟨a, cap, rfl, _, _⟩, _⟩ := hv
  clear h0 hB hC
  go_enter Tryz.func73, Tryz.ntmps73
  go_wp2_with fail
  refine HCA.out.mono ?_
  rintro e w1 ⟨r, rfl, h⟩
  have HR := hide h.out.1
  have HI := hide h.out.2
  clear h HCA
  go_wp2_with fail
  go_ret
  exact ⟨by rw [← HR.out]; rfl, HI⟩
set_option maxRecDepth 1000000 in
set_option maxHeartbeats 1000000 in
theorem indexStray_any (w : World) (v : Value) (xs : List ByteArray) (hv : SSl w v xs) (q : Nat) (p : Nat → Bool) (I : Nat → World → Prop) (h0 : I 0 w) (hB : ∀ i wx, I i wx → SSl wx v xs) (hC : ∀ i x wx, xs[i]? = some x → I i wx → Calls Tryz.prog 99 #[.string x, .pointer (some ⟨q, 0, none⟩)] wx fun e w' => e = .returned (.bool (p i)) ∧ I (i + 1) w') : Calls Tryz.prog 102 #[v, .func (.func 99) #[] #[.pointer (some ⟨q, 0, none⟩)]] w fun e w' => ∃ r : Int, e = .returned (.int .i64 r) ∧ Hid (decide (0 ≤ r) = (List.range xs.length).any p ∧ ∃ i, I i w') := by
  have HH0 := hide h0
  have HB := hide hB
  have HC := hide hC
  have hmax := hv.max
  obtain ⟨⟨a, cap, rfl, _, hform⟩, _, _⟩ := hv
  clear h0 hB hC hform
  go_enter Tryz.func102, Tryz.ntmps102
  go_wp2_with fail
  go_loopw [8] (fun ii wx => ∃ i : Nat, i ≤ xs.length ∧ ii = .int .i64 (i : Nat) ∧ Hid (∀ j, j < i → p j = false) ∧ Hid (I i wx)) (fun ii _ => xs.length - (intOf ii).toNat)
  case atStart => exact ⟨0, by omega, rfl, fun j hj => absurd hj (by omega), HH0⟩
  case round =>
    obtain ⟨i, hi, rfl, HN, HI⟩ := hrel
    by_cases hlt : i < xs.length
    · as_aux_lemma =>
      have g1 : (i : Int) < (xs.length : Int) := by omega
      obtain ⟨x, hx⟩ : ∃ x, xs[i]? = some x := ⟨xs[i], List.getElem?_eq_getElem hlt⟩
      have hsl := HB.out i wr HI.out
      obtain ⟨⟨a', cap', hv', _, hf'⟩, _⟩ := hsl
      injection hv' with e1 _ e3
      subst e1
      obtain ⟨b, off, rfl, hcc⟩ := hf'.resolve_left (fun h => by rw [h] at hlt; simp at hlt)
      clear e3
      have c1 := hcc i x hx
      have HCA := hide (HC.out i x wr hx HI.out)
      clear hcc hx HC
      go_wp2_with fail
      refine HCA.out.mono ?_
      rintro e w1 ⟨rfl, hb1⟩
      have HI1 := hide hb1
      clear hb1 HCA
      rcases Bool.eq_false_or_eq_true (p i) with hr | hr
      · have HA : Hid ((List.range xs.length).any p = true) := List.any_eq_true.2 ⟨i, List.mem_range.2 hlt, hr⟩
        rw [hr]
        go_wp2_with fail
        go_ret
        exact ⟨_, rfl, by rw [HA.out, decide_eq_true (by omega)], _, HI1.out⟩
      · have HN2 : Hid (∀ j, j < i + 1 → p j = false) := fun j hj => by
          by_cases hji : j = i
          · rw [hji]; exact hr
          · exact HN.out j (by omega)
        rw [hr]
        clear hr HN
        go_wp2_with fail
        go_roundw
        case rel => exact ⟨i + 1, by omega, by go_num, HN2, HI1⟩
        case measure => simp [intOf]; omega
    · as_aux_lemma =>
      have g1 : ¬ (i : Int) < (xs.length : Int) := by omega
      have HA : Hid ((List.range xs.length).any p = false) := by
        show _ = _
        rw [List.any_eq_false]
        intro j hj
        rw [HN.out j (by have := List.mem_range.1 hj; omega)]
        simp
      go_wp2_with fail
      go_ret
      exact ⟨_, rfl, by rw [HA.out]; rfl, _, HI.out⟩
set_option maxRecDepth 1000000 in
theorem containsStray_any (w : World) (v : Value) (xs : List ByteArray) (hv : SSl w v xs) (q : Nat) (p : Nat → Bool) (I : Nat → World → Prop) (h0 : I 0 w) (hB : ∀ i wx, I i wx → SSl wx v xs) (hC : ∀ i x wx, xs[i]? = some x → I i wx → Calls Tryz.prog 99 #[.string x, .pointer (some ⟨q, 0, none⟩)] wx fun e w' => e = .returned (.bool (p i)) ∧ I (i + 1) w') : Calls Tryz.prog 77 #[v, .func (.func 99) #[] #[.pointer (some ⟨q, 0, none⟩)]] w fun e w' => e = .returned (.bool ((List.range xs.length).any p)) ∧ Hid (∃ i, I i w') := by
  have HCA := hide (indexStray_any w v xs hv q p I h0 hB hC)
  obtain ⟨⟨a, cap, rfl, _, _⟩, _, _⟩ := hv
  clear h0 hB hC
  go_enter Tryz.func77, Tryz.ntmps77
  go_wp2_with fail
  refine HCA.out.mono ?_
  rintro e w1 ⟨r, rfl, h⟩
  have HR := hide h.out.1
  have HI := hide h.out.2
  clear h HCA
  go_wp2_with fail
  go_ret
  exact ⟨by rw [← HR.out]; rfl, HI⟩
end
section
open Go.RowKit Go
/-- A question that keeps what it was asked: its variable, its set. -/
structure Str (q B n : Nat) (L : List ByteArray) (wx : World) : Prop where
  q : wx.heap[q]? = some (.cells #[.map (some B)] 69 (0, 0))
  m : Mst wx B n L
theorem Str.next {q B n : Nat} {L : List ByteArray} {wx wy : World} (h : Str q B n L wx) (hb : Below wx.heap.size wx wy) : Str q B n L wy := ⟨(hb.block _ (blk_lt h.q)).trans h.q, h.m.next hb⟩
theorem Str.kp {q B n : Nat} {L : List ByteArray} {wx wy : World} {S : Nat → Prop} (h : Str q B n L wx) (hk : Kp S wx wy) (h1 : ¬ S q) (h2 : ¬ S B) : Str q B n L wy := ⟨(hk.block _ (blk_lt h.q) h1).trans h.q, h.m.kp hk h2⟩
theorem Str.ne {q B n : Nat} {L : List ByteArray} {wx : World} (h : Str q B n L wx) : q ≠ B := fun e => by
  have h1 := h.q
  obtain ⟨_, D, ⟨es, clock, h2, _⟩, _⟩ := h.m
  rw [e, h2] at h1
  cases h1
set_option maxRecDepth 1000000 in
set_option maxHeartbeats 1000000 in
theorem strays_any (w : World) : Calls Tryz.prog 71 #[] w fun e w' => e = .returned (.func (.func 99) #[] #[.pointer (some ⟨w.heap.size + 1, 0, none⟩)]) ∧ Hid (Str (w.heap.size + 1) w.heap.size 0 [] w' ∧ Below w.heap.size w w') := by
  have hmm := @run_makeMap Tryz.prog
  have e1 : (w.alloc (.map #[] 0)).heap.size = w.heap.size + 1 := by simp
  have HS : Hid (Str (w.heap.size + 1) w.heap.size 0 [] ((w.alloc (.map #[] 0)).alloc (.cells #[.map (some w.heap.size)] 69))) := by
    have h := heap_alloc_new (w.alloc (.map #[] 0)) (.cells #[.map (some w.heap.size)] 69)
    rw [e1] at h
    exact ⟨h, (Mst.made w).next (below_alloc4 _ _)⟩
  have HB : Hid (Below w.heap.size w ((w.alloc (.map #[] 0)).alloc (.cells #[.map (some w.heap.size)] 69))) := (below_alloc4 w _).trans ((below_alloc4 _ _).mono (below_alloc4 w _).size)
  clear e1
  go_enter Tryz.func71, Tryz.ntmps71
  go_wp2_with fail
  go_ret
  exact ⟨rfl, HS.out, HB.out⟩
set_option maxRecDepth 1000000 in
set_option maxHeartbeats 1000000 in
theorem stray1_any (s : ByteArray) (hs : s.size ≤ 140737488351232) (q B n : Nat) (L : List ByteArray) (w : World) (h : Str q B n L w) (hn : n < 1000000) (hTB : ∀ wy, Kp (fun x => x = B) w wy → Tabs wy) : Calls Tryz.prog 99 #[.string s, .pointer (some ⟨q, 0, none⟩)] w fun e w' => e = .returned (.bool (stray L s)) ∧ Hid (Str q B (n + 1) (putL L s) w' ∧ Kp (fun x => x = B) w w') := by
  have HS := hide hs
  have HH := hide h
  have HTB := hide hTB
  have HN : Hid (n < 140737488351232) := by show _ < _; omega
  have q0 : w.cell? ⟨q, 0, none⟩ = some (.map (some B)) := blk_cell (j := 0) h.q rfl
  have HM := hide h.m
  have hqs : q < w.heap.size := blk_lt h.q
  clear hs h hTB
  go_enter Tryz.func99, Tryz.ntmps99
  have hb0 := below_alloc4 w (.cells #[] 57)
  have HK0 : Hid (Kp (fun x => x = B) w (w.alloc (.cells #[] 57))) := Kp.mono (Kp.of_below (S := fun _ => False) hb0) (fun _ _ e => e.elim)
  have HM1 := hide (HM.out.next hb0)
  clear hb0
  go_upto_region 3 with (first
    | (refine wpList_lookS rfl rfl rfl rfl HM.out HS.out ?_)
    | (refine wpList_putS rfl rfl rfl rfl rfl HM1.out HS.out HN.out ?_; intro w1 hm1 hk1))
  have HK1 : Hid (Kp (fun x => x = B) w w1) := HK0.out.trans hk1 (fun _ _ e => e)
  have HS1 : Hid (Str q B (n + 1) (putL L s) w1) := ⟨(HK1.out.block _ (blk_lt HH.out.q) HH.out.ne).trans HH.out.q, hm1⟩
  clear hm1 hk1 HK0 HM HM1 q0
  (try simp only [Act.put]); (try simp only [List.setIfInBounds_toArray, List.set_cons_zero, List.set_cons_succ])
  rcases Bool.eq_false_or_eq_true (memb L s) with hm | hm
  · have HR : Hid (stray L s = true) := by show _ = _; unfold stray; rw [hm]; rfl
    rw [hm]
    clear hm
    go_wp2_with fail
    go_ret
    exact ⟨by rw [HR.out]; rfl, HS1.out, HK1.out⟩
  · have HR : Hid (stray L s = badb s) := by show _ = _; unfold stray; rw [hm]; rfl
    rw [hm]
    clear hm
    go_wp2_with fail
    refine (valid_any s w1 HS.out (HTB.out w1 HK1.out)).mono ?_
    rintro e w2 ⟨rfl, hb⟩
    have HS2 := hide (HS1.out.next hb)
    have HK2 : Hid (Kp (fun x => x = B) w w2) := HK1.out.trans (Kp.of_below (S := fun _ => False) hb) (fun _ _ e => e.elim)
    clear hb
    go_wp2_with fail
    go_ret
    exact ⟨by rw [HR.out]; simp, HS2.out, HK2.out⟩
set_option maxRecDepth 1000000 in
set_option maxHeartbeats 1000000 in
theorem keys1_any (x : Cz) (hs : x.k.size ≤ 140737488351232) (p q B n : Nat) (L : List ByteArray) (w : World) (hp : w.heap[p]? = some (.cells #[.func (.func 99) #[] #[.pointer (some ⟨q, 0, none⟩)]] 52 (0, 0))) (h : Str q B n L w) (hn : n < 1000000) (hTB : ∀ wy, Kp (fun x => x = B) w wy → Tabs wy) : Calls Tryz.prog 74 #[.agg #[.string x.k, .string x.n], .pointer (some ⟨p, 0, none⟩)] w fun e w' => e = .returned (.bool (stray L x.k)) ∧ Hid (Str q B (n + 1) (putL L x.k) w' ∧ Kp (fun x => x = B) w w') := by
  have hb0 := below_alloc4 w (.cells #[.string x.k, .string x.n] 82)
  have HK0 : Hid (Kp (fun x => x = B) w (w.alloc (.cells #[.string x.k, .string x.n] 82))) := Kp.mono (Kp.of_below (S := fun _ => False) hb0) (fun _ _ e => e.elim)
  have HC : Hid (∀ wx, Kp (fun x => x = B) w wx → Str q B n L wx → Calls Tryz.prog 99 #[.string x.k, .pointer (some ⟨q, 0, none⟩)] wx fun e w' => e = .returned (.bool (stray L x.k)) ∧ Hid (Str q B (n + 1) (putL L x.k) w' ∧ Kp (fun x => x = B) wx w')) := fun wx hx h2 => stray1_any x.k hs q B n L wx h2 hn (fun wy hy => hTB wy (hx.trans hy (fun _ _ e => e)))
  have HS0 := hide (h.next hb0)
  have q0 : (w.alloc (.cells #[.string x.k, .string x.n] 82)).cell? ⟨p, 0, none⟩ = some (.func (.func 99) #[] #[.pointer (some ⟨q, 0, none⟩)]) := keep_below hb0 _ _ (blk_cell (j := 0) hp rfl)
  clear hb0 hs hp h hTB
  go_enter Tryz.func74, Tryz.ntmps74
  go_wp2_with fail
  refine (HC.out _ HK0.out HS0.out).mono ?_
  rintro e w2 ⟨rfl, h2⟩
  have HS2 := hide h2.out.1
  have HK2 : Hid (Kp (fun x => x = B) w w2) := HK0.out.trans h2.out.2 (fun _ _ e => e)
  clear h2 q0 HC
  go_wp2_with fail
  go_ret
  exact ⟨rfl, HS2.out, HK2.out⟩
set_option maxRecDepth 1000000 in
set_option maxHeartbeats 1000000 in
theorem nokey_any (x : Cz) (w : World) : Calls Tryz.prog 75 #[.agg #[.string x.k, .string x.n]] w fun e w' => e = .returned (.bool (!decide (x.k = ⟨#[]⟩))) ∧ Below w.heap.size w w' := by
  have HB := hide (below_alloc4 w (.cells #[.string x.k, .string x.n] 82))
  by_cases hx : x.k = ⟨#[]⟩
  · have g : (x.k.toList == []) = true := by rw [hx, emp_list]; rfl
    have HR : Hid ((!decide (x.k = ⟨#[]⟩)) = false) := by show _ = _; rw [decide_eq_true hx]; rfl
    clear hx
    go_enter Tryz.func75, Tryz.ntmps75
    go_wp2_with fail
    go_ret
    exact ⟨by rw [HR.out]; simp, HB.out⟩
  · have g : (x.k.toList == []) = false := by have := str_no hx; rw [emp_list] at this; exact this
    have HR : Hid ((!decide (x.k = ⟨#[]⟩)) = true) := by show _ = _; rw [decide_eq_false hx]; rfl
    clear hx
    go_enter Tryz.func75, Tryz.ntmps75
    go_wp2_with fail
    go_ret
    exact ⟨by rw [HR.out]; simp, HB.out⟩
end
section
open Go.RowKit Go
/-- What was asked for so far. -/
def snf (L l : List ByteArray) : List ByteArray := l.foldl putL L
def pst (L ks : List ByteArray) (i : Nat) : Bool := stray (snf L (ks.take i)) (ks.getD i ⟨#[]⟩)
theorem any_range (n : Nat) (p : Nat → Bool) : (List.range (n + 1)).any p = (p 0 || (List.range n).any fun i => p (i + 1)) := by
  rw [List.range_succ_eq_map, List.any_cons, List.any_map]
  rfl
theorem good_any : ∀ (ks L : List ByteArray), goodT L ks = !((List.range ks.length).any (pst L ks))
  | [], _ => rfl
  | s :: r, L => by
    rw [List.length_cons, any_range]
    have e0 : pst L (s :: r) 0 = stray L s := rfl
    rw [e0]
    unfold goodT
    cases hs : stray L s with
    | true => rfl
    | false =>
      have hm : memb L s = false := by
        unfold stray at hs
        exact (Bool.or_eq_false_iff.1 hs).1
      have e1 : (fun i => pst L (s :: r) (i + 1)) = pst (s :: L) r := by
        funext i
        unfold pst snf
        simp only [List.take_succ_cons, List.foldl_cons, List.getD_cons_succ]
        unfold putL
        rw [if_neg (by rw [hm]; decide)]
      rw [e1, good_any r (s :: L)]
      simp
theorem snf_succ (L ks : List ByteArray) (i : Nat) (s : ByteArray) (h : ks[i]? = some s) : snf L (ks.take (i + 1)) = putL (snf L (ks.take i)) s := by
  obtain ⟨hl, he⟩ := List.getElem?_eq_some_iff.1 h
  unfold snf
  rw [List.take_succ_eq_append_getElem hl, List.foldl_append, he]
  rfl
theorem pst_at (L ks : List ByteArray) (i : Nat) (s : ByteArray) (h : ks[i]? = some s) : pst L ks i = stray (snf L (ks.take i)) s := by
  unfold pst
  simp only [List.getD, h]
  rfl
set_option maxRecDepth 1000000 in
theorem someC_any (w : World) (a : Option Addr) (n cap : Nat) (hn : n ≤ 140737488351232) : Calls Tryz.prog 72 #[.slice a n cap] w fun e w' => e = .returned (.bool (some64 n)) ∧ w' = w := by
  by_cases h0 : 0 < n
  · have g0 : (0 : Int) < (n : Int) := by omega
    by_cases h1 : n ≤ 64
    · have g1 : (n : Int) ≤ 64 := by omega
      have HR : Hid (some64 n = true) := by show _ = _; unfold some64; rw [decide_eq_true h0, decide_eq_true h1]; rfl
      clear h0 h1
      go_enter Tryz.func72, Tryz.ntmps72
      go_wp2_with fail
      go_ret
      exact ⟨by rw [HR.out]; rfl, rfl⟩
    · have g1 : ¬ (n : Int) ≤ 64 := by omega
      have HR : Hid (some64 n = false) := by show _ = _; unfold some64; rw [decide_eq_false h1, Bool.and_false]
      clear h0 h1
      go_enter Tryz.func72, Tryz.ntmps72
      go_wp2_with fail
      go_ret
      exact ⟨by rw [HR.out]; rfl, rfl⟩
  · have g0 : ¬ (0 : Int) < (n : Int) := by omega
    have HR : Hid (some64 n = false) := by show _ = _; unfold some64; rw [decide_eq_false h0, Bool.false_and]
    clear h0
    go_enter Tryz.func72, Tryz.ntmps72
    go_wp2_with fail
    go_ret
    exact ⟨by rw [HR.out]; rfl, rfl⟩
set_option maxRecDepth 1000000 in
theorem someS_any (w : World) (a : Option Addr) (n cap : Nat) (hn : n ≤ 140737488351232) : Calls Tryz.prog 76 #[.slice a n cap] w fun e w' => e = .returned (.bool (some64 n)) ∧ w' = w := by
  by_cases h0 : 0 < n
  · have g0 : (0 : Int) < (n : Int) := by omega
    by_cases h1 : n ≤ 64
    · have g1 : (n : Int) ≤ 64 := by omega
      have HR : Hid (some64 n = true) := by show _ = _; unfold some64; rw [decide_eq_true h0, decide_eq_true h1]; rfl
      clear h0 h1
      go_enter Tryz.func76, Tryz.ntmps76
      go_wp2_with fail
      go_ret
      exact ⟨by rw [HR.out]; rfl, rfl⟩
    · have g1 : ¬ (n : Int) ≤ 64 := by omega
      have HR : Hid (some64 n = false) := by show _ = _; unfold some64; rw [decide_eq_false h1, Bool.and_false]
      clear h0 h1
      go_enter Tryz.func76, Tryz.ntmps76
      go_wp2_with fail
      go_ret
      exact ⟨by rw [HR.out]; rfl, rfl⟩
  · have g0 : ¬ (0 : Int) < (n : Int) := by omega
    have HR : Hid (some64 n = false) := by show _ = _; unfold some64; rw [decide_eq_false h0, Bool.false_and]
    clear h0
    go_enter Tryz.func76, Tryz.ntmps76
    go_wp2_with fail
    go_ret
    exact ⟨by rw [HR.out]; rfl, rfl⟩
theorem all_range {α : Type} (l : List α) (d : α) (f : α → Bool) : l.all f = !((List.range l.length).any fun i => !f (l.getD i d)) := by
  induction l with
  | nil => rfl
  | cons x r ih =>
    rw [List.length_cons, any_range, List.all_cons, ih]
    simp only [List.getD_cons_zero, List.getD_cons_succ]
    cases f x <;> simp
theorem some64_le {n : Nat} (h : some64 n = true) : n ≤ 64 := by
  unfold some64 at h
  rw [Bool.and_eq_true, decide_eq_true_eq, decide_eq_true_eq] at h
  exact h.2
/-- What casesFit has in hand. -/
structure Csf (w : World) (tc : Array Value) (p q B n : Nat) (L : List ByteArray) (wx : World) : Prop where
  a : wx.heap[w.heap.size]? = some (.cells tc 29 (0, 0))
  f : wx.heap[p]? = some (.cells #[.func (.func 99) #[] #[.pointer (some ⟨q, 0, none⟩)]] 52 (0, 0))
  s : Str q B n L wx
  b : Below w.heap.size w wx
  h1 : w.heap.size < B
  h2 : p ≠ B
theorem Csf.turn {w wx wy : World} {tc : Array Value} {p q B n n' : Nat} {L L' : List ByteArray} (h : Csf w tc p q B n L wx) (hk : Kp (fun x => x = B) wx wy) (hs : Str q B n' L' wy) : Csf w tc p q B n' L' wy := ⟨(hk.block _ (blk_lt h.a) (fun e => by have := h.h1; omega)).trans h.a, (hk.block _ (blk_lt h.f) h.h2).trans h.f, hs, h.b.trans (hk.below h.b.size (fun x e => by have := h.h1; omega)), h.h1, h.h2⟩
set_option maxRecDepth 1000000 in
set_option maxHeartbeats 1000000 in
theorem casesFit_any (w : World) (hT : Tabs w) (t : Tp) (c : Array Value) (hc : Tpi w t c) : Calls Tryz.prog 49 #[.agg c] w fun e w' => e = .returned (.bool (cft t)) ∧ Below w.heap.size w w' := by
  have HT : Hid (∀ wy, Below w.heap.size w wy → Tabs wy) := fun wy hb => hT.next hb
  obtain ⟨⟨vf, vc, vw, rfl, ⟨⟨af, cf, rfl, -, hff⟩, hfm⟩, hcS, hwS⟩, hbd⟩ := hc
  have HCS := hide hcS
  have HWS := hide hwS
  obtain ⟨⟨ac, cc, rfl, -, hcf⟩, hcm⟩ := hcS
  obtain ⟨⟨aw, cw, rfl, -, -⟩, hwm, hwz⟩ := hwS
  have HWZ := hide hwz
  have HCZ : Hid (∀ (i : Nat) (x : Cz), t.cs[i]? = some x → x.k.size ≤ 140737488351232) := fun i x hx => by
    rcases hcf with h | ⟨b, off, _, h⟩
    · simp [h] at hx
    · obtain ⟨_, ⟨_, h3, _⟩, _⟩ := h i x hx
      exact h3
  unfold tpc
  clear hff hfm hcf hwz hbd hT
  go_enter Tryz.func49, Tryz.ntmps49
  go_upto_region 1 with fail
  have HA1 := hide (heap_alloc_new w (.cells #[.string t.n, .int .i64 t.k, .int .i64 t.lo, .int .i64 t.hi, .string t.r.n, .bool t.r.z, .slice af t.fs.length cf, .slice ac t.cs.length cc, .slice aw t.ws.length cw] 29))
  have HB1 := hide (below_alloc4 w (.cells #[.string t.n, .int .i64 t.k, .int .i64 t.lo, .int .i64 t.hi, .string t.r.n, .bool t.r.z, .slice af t.fs.length cf, .slice ac t.cs.length cc, .slice aw t.ws.length cw] 29))
  have HT1 : Hid ((#[.string t.n, .int .i64 t.k, .int .i64 t.lo, .int .i64 t.hi, .string t.r.n, .bool t.r.z, .slice af t.fs.length cf, .slice ac t.cs.length cc, .slice aw t.ws.length cw] : Array Value)[1]? = some (.int .i64 t.k)) := rfl
  have HT7 : Hid ((#[.string t.n, .int .i64 t.k, .int .i64 t.lo, .int .i64 t.hi, .string t.r.n, .bool t.r.z, .slice af t.fs.length cf, .slice ac t.cs.length cc, .slice aw t.ws.length cw] : Array Value)[7]? = some (.slice ac t.cs.length cc)) := rfl
  have HT8 : Hid ((#[.string t.n, .int .i64 t.k, .int .i64 t.lo, .int .i64 t.hi, .string t.r.n, .bool t.r.z, .slice af t.fs.length cf, .slice ac t.cs.length cc, .slice aw t.ws.length cw] : Array Value)[8]? = some (.slice aw t.ws.length cw)) := rfl
  obtain ⟨tc, htc⟩ : ∃ tc : Array Value, tc = #[.string t.n, .int .i64 t.k, .int .i64 t.lo, .int .i64 t.hi, .string t.r.n, .bool t.r.z, .slice af t.fs.length cf, .slice ac t.cs.length cc, .slice aw t.ws.length cw] := ⟨_, rfl⟩
  rw [← htc] at HA1 HB1 HT1 HT7 HT8
  rw [← htc]
  clear htc
  generalize w.alloc (.cells tc 29) = w1 at *
  go_wp2_with fail
  refine (strays_any w1).mono ?_
  rintro e w2 ⟨rfl, hP⟩
  have hS := hP.out.1
  have hb2 := hP.out.2
  have HX : Hid (Csf w tc w2.heap.size (w1.heap.size + 1) w1.heap.size 0 [] (w2.alloc (.cells #[.func (.func 99) #[] #[.pointer (some ⟨w1.heap.size + 1, 0, none⟩)]] 52))) := by
    have hb3 := below_alloc4 w2 (.cells #[.func (.func 99) #[] #[.pointer (some ⟨w1.heap.size + 1, 0, none⟩)]] 52)
    have h5 := blk_lt HA1.out
    have h6 := hS.m.lt
    have ha2 := (hb2.block _ h5).trans HA1.out
    exact ⟨(hb3.block _ (blk_lt ha2)).trans ha2, heap_alloc_new w2 _, hS.next hb3, (HB1.out.trans (hb2.mono HB1.out.size)).trans (hb3.mono (Nat.le_trans HB1.out.size hb2.size)), h5, by omega⟩
  clear hP hS hb2 HA1 HB1
  generalize w1.heap.size = B at *
  generalize B + 1 = q at *
  go_upto_region 2 with fail
  generalize w2.heap.size = p at *
  generalize w2.alloc (.cells #[.func (.func 99) #[] #[.pointer (some ⟨q, 0, none⟩)]] 52) = w3 at *
  have q1 : w3.cell? ⟨w.heap.size, 1, none⟩ = some (.int .i64 t.k) := blk_cell (j := 1) HX.out.a HT1.out
  have q7 : w3.cell? ⟨w.heap.size, 7, none⟩ = some (.slice ac t.cs.length cc) := blk_cell (j := 7) HX.out.a HT7.out
  have q8 : w3.cell? ⟨w.heap.size, 8, none⟩ = some (.slice aw t.ws.length cw) := blk_cell (j := 8) HX.out.a HT8.out
  by_cases h7 : t.k = 7
  · as_aux_lemma =>
    have g7 : (t.k == 7) = true := beq_iff_eq.2 h7
    have HR : Hid (cft t = (some64 t.cs.length && goodT [] (t.cs.map (·.k)))) := by show _ = _; unfold cft; rw [if_pos h7]
    clear h7
    go_wp2_with fail
    refine (someC_any w3 ac _ cc hcm).mono ?_
    rintro e w4 ⟨rfl, hww⟩
    have hww := hww.symm
    subst hww
    rcases Bool.eq_false_or_eq_true (some64 t.cs.length) with hs | hs
    · have HS := hide hs
      rw [hs]
      clear hs
      go_wp2_with fail
      refine (containsKeys_any w3 _ t.cs (HCS.out.mv (keep_below HX.out.b)) p (pst [] (t.cs.map (·.k))) (fun i wx => Csf w tc p q B i (snf [] ((t.cs.map (·.k)).take i)) wx) HX.out (fun i wx hI => HCS.out.mv (keep_below hI.b)) (fun i x wx hx hI => by
        have hk : (t.cs.map (·.k))[i]? = some x.k := by rw [List.getElem?_map, hx]; rfl
        have hil : i < 1000000 := by have h1 := (List.getElem?_eq_some_iff.1 hx).1; have h2 := some64_le HS.out; omega
        rw [pst_at [] _ i x.k hk]
        refine (keys1_any x (HCZ.out i x hx) p q B i _ wx hI.f hI.s hil (fun wy hy => HT.out wy (hI.b.trans (hy.below hI.b.size (fun z e => by have := hI.h1; omega))))).mono ?_
        rintro e w' ⟨rfl, hP⟩
        refine ⟨rfl, ?_⟩
        rw [snf_succ [] _ i x.k hk]
        exact hI.turn hP.out.2 hP.out.1)).mono ?_
      rintro e w5 ⟨rfl, hI⟩
      have HB5 : Hid (Below w.heap.size w w5) := by
        obtain ⟨i, hI⟩ := hI.out
        exact hI.b
      clear hI
      have HG : Hid (goodT [] (t.cs.map (·.k)) = !((List.range t.cs.length).any (pst [] (t.cs.map (·.k))))) := by
        show _ = _
        rw [good_any, List.length_map]
      go_wp2_with fail
      go_ret
      exact ⟨by rw [HR.out, HS.out, HG.out]; simp, HB5.out⟩
    · have HS := hide hs
      rw [hs]
      clear hs
      go_wp2_with fail
      go_ret
      exact ⟨by rw [HR.out, HS.out]; simp, HX.out.b⟩
  have g7 : (t.k == 7) = false := beq_eq_false_iff_ne.2 h7
  by_cases h8 : t.k = 8
  · as_aux_lemma =>
    have g8 : (t.k == 8) = true := beq_iff_eq.2 h8
    have HR : Hid (cft t = (some64 t.cs.length && t.cs.all fun c => decide (c.k = ⟨#[]⟩))) := by show _ = _; unfold cft; rw [if_neg h7, if_pos h8]
    clear h7 h8
    go_wp2_with fail
    refine (someC_any w3 ac _ cc hcm).mono ?_
    rintro e w4 ⟨rfl, hww⟩
    have hww := hww.symm
    subst hww
    rcases Bool.eq_false_or_eq_true (some64 t.cs.length) with hs | hs
    · have HS := hide hs
      rw [hs]
      clear hs
      go_wp2_with fail
      refine (containsNoKey_any w3 _ t.cs (HCS.out.mv (keep_below HX.out.b)) (fun i => !decide ((t.cs.getD i ⟨⟨#[]⟩, ⟨#[]⟩⟩).k = ⟨#[]⟩)) (fun _ wx => Below w.heap.size w wx) HX.out.b (fun i wx hI => HCS.out.mv (keep_below hI)) (fun i x wx hx hI => by
        refine (nokey_any x wx).mono ?_
        rintro e w' ⟨rfl, hb⟩
        exact ⟨by simp only [List.getD, hx]; rfl, hI.trans (hb.mono hI.size)⟩)).mono ?_
      rintro e w5 ⟨rfl, hI⟩
      have HB5 : Hid (Below w.heap.size w w5) := by
        obtain ⟨i, hI⟩ := hI.out
        exact hI
      clear hI
      have HG : Hid ((t.cs.all fun c => decide (c.k = ⟨#[]⟩)) = !((List.range t.cs.length).any fun i => !decide ((t.cs.getD i ⟨⟨#[]⟩, ⟨#[]⟩⟩).k = ⟨#[]⟩))) := all_range t.cs _ _
      go_wp2_with fail
      go_ret
      exact ⟨by rw [HR.out, HS.out, HG.out]; simp, HB5.out⟩
    · have HS := hide hs
      rw [hs]
      clear hs
      go_wp2_with fail
      go_ret
      exact ⟨by rw [HR.out, HS.out]; simp, HX.out.b⟩
  have g8 : (t.k == 8) = false := beq_eq_false_iff_ne.2 h8
  by_cases h9 : t.k = 9
  · as_aux_lemma =>
    have g9 : (t.k == 9) = true := beq_iff_eq.2 h9
    have HR : Hid (cft t = (some64 t.ws.length && goodT [] t.ws)) := by show _ = _; unfold cft; rw [if_neg h7, if_neg h8, if_pos h9]
    clear h7 h8 h9
    have qf : w3.cell? ⟨p, 0, none⟩ = some (.func (.func 99) #[] #[.pointer (some ⟨q, 0, none⟩)]) := blk_cell (j := 0) HX.out.f rfl
    go_wp2_with fail
    refine (someS_any w3 aw _ cw hwm).mono ?_
    rintro e w4 ⟨rfl, hww⟩
    have hww := hww.symm
    subst hww
    rcases Bool.eq_false_or_eq_true (some64 t.ws.length) with hs | hs
    · have HS := hide hs
      rw [hs]
      clear hs
      go_wp2_with fail
      refine (containsStray_any w3 _ t.ws (HWS.out.move (keep_below HX.out.b)) q (pst [] t.ws) (fun i wx => Csf w tc p q B i (snf [] (t.ws.take i)) wx) HX.out (fun i wx hI => HWS.out.move (keep_below hI.b)) (fun i x wx hx hI => by
        have hil : i < 1000000 := by have h1 := (List.getElem?_eq_some_iff.1 hx).1; have h2 := some64_le HS.out; omega
        rw [pst_at [] _ i x hx]
        refine (stray1_any x (HWZ.out x (List.mem_of_getElem? hx)) q B i _ wx hI.s hil (fun wy hy => HT.out wy (hI.b.trans (hy.below hI.b.size (fun z e => by have := hI.h1; omega))))).mono ?_
        rintro e w' ⟨rfl, hP⟩
        refine ⟨rfl, ?_⟩
        rw [snf_succ [] _ i x hx]
        exact hI.turn hP.out.2 hP.out.1)).mono ?_
      rintro e w5 ⟨rfl, hI⟩
      have HB5 : Hid (Below w.heap.size w w5) := by
        obtain ⟨i, hI⟩ := hI.out
        exact hI.b
      clear hI
      have HG : Hid (goodT [] t.ws = !((List.range t.ws.length).any (pst [] t.ws))) := good_any t.ws []
      go_wp2_with fail
      go_ret
      exact ⟨by rw [HR.out, HS.out, HG.out]; simp, HB5.out⟩
    · have HS := hide hs
      rw [hs]
      clear hs
      go_wp2_with fail
      go_ret
      exact ⟨by rw [HR.out, HS.out]; simp, HX.out.b⟩
  · as_aux_lemma =>
    have g9 : (t.k == 9) = false := beq_eq_false_iff_ne.2 h9
    have HR : Hid (cft t = true) := by show _ = _; unfold cft; rw [if_neg h7, if_neg h8, if_neg h9]
    clear h7 h8 h9
    go_wp2_with fail
    go_ret
    exact ⟨by rw [HR.out]; rfl, HX.out.b⟩
end
end Go.Proofs.YtagkogpjckjobaaGreatDoor
