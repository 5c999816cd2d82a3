import Derived.Test.YtglbllkmhedlfaaDoorJd
import Derived.Test.YtglbllkmhedlfaaDoorJe
import Derived.Test.YtglbllkmhedlfaaDoorJf
namespace Go.Proofs.YtglbllkmhedlfaaDoor
section
open Go.RowKit Go
/-- Two lists held against each other. -/
def alk {α β : Type} (f : α → β → Bool) : List α → List β → Bool
  | [], [] => true
  | x :: xs, y :: ys => f x y && alk f xs ys
  | _, _ => false
theorem alk_len {α β : Type} (f : α → β → Bool) : ∀ (l : List α) (m : List β), l.length ≠ m.length → alk f l m = false
  | [], [], h => absurd rfl h
  | [], _ :: _, _ => rfl
  | _ :: _, [], _ => rfl
  | x :: xs, y :: ys, h => by
    rw [alk, alk_len f xs ys (by simpa using h), Bool.and_false]
theorem alk_iff {α β : Type} (f : α → β → Bool) : ∀ (l : List α) (m : List β), alk f l m = true ↔ l.length = m.length ∧ ∀ (i : Nat) (x : α) (y : β), l[i]? = some x → m[i]? = some y → f x y = true
  | [], [] => by simp [alk]
  | [], _ :: _ => by simp [alk]
  | _ :: _, [] => by simp [alk]
  | x :: xs, y :: ys => by
    rw [alk, Bool.and_eq_true, alk_iff f xs ys]
    constructor
    · rintro ⟨h1, h2, h3⟩
      refine ⟨by simp [h2], fun i u v hu hv => ?_⟩
      cases i with
      | zero =>
        simp at hu hv
        subst hu hv
        exact h1
      | succ i =>
        simp at hu hv
        exact h3 i u v hu hv
    · rintro ⟨h1, h2⟩
      exact ⟨h2 0 x y rfl rfl, by simpa using h1, fun i u v hu hv => h2 (i + 1) u v (by simpa using hu) (by simpa using hv)⟩
theorem alk_yes {α β : Type} {f : α → β → Bool} {l : List α} {m : List β} (hl : l.length = m.length) (h : ∀ (i : Nat) (x : α) (y : β), l[i]? = some x → m[i]? = some y → f x y = true) : alk f l m = true := (alk_iff f l m).2 ⟨hl, h⟩
theorem alk_no {α β : Type} {f : α → β → Bool} {l : List α} {m : List β} {i : Nat} {x : α} {y : β} (hx : l[i]? = some x) (hy : m[i]? = some y) (h : f x y = false) : alk f l m = false := by
  rcases Bool.eq_false_or_eq_true (alk f l m) with e | e
  · have := ((alk_iff f l m).1 e).2 i x y hx hy
    rw [h] at this
    cases this
  · exact e
set_option maxRecDepth 1000000 in
set_option maxHeartbeats 1000000 in
theorem alikeI_any (G : Nat) (cb : Array Value) (eG : ∀ args w, (callFunc G args).run Tryd.prog w = .ok (.enter G args) w) (w : World) (va vb : Value) (pa pb : List Nat) (f : Nat → Nat → Bool) (ha : ISl w va pa) (hb : ISl w vb pb)
    (hf : ∀ wx, Below w.heap.size w wx → ∀ (i p q : Nat), pa[i]? = some p → pb[i]? = some q → Calls Tryd.prog G (#[.int .i64 (p : Nat), .int .i64 (q : Nat)] ++ cb) wx fun e w' => e = .returned (.bool (f p q)) ∧ Below wx.heap.size wx w') :
    Calls Tryd.prog 46 #[va, vb, .func (.func G) #[] cb] w fun e w' => e = .returned (.bool (alk f pa pb)) ∧ Below w.heap.size w w' := by
  obtain ⟨⟨a, ca, rfl, _, hca⟩, hma⟩ := ha
  obtain ⟨⟨b, cb2, rfl, _, hcb⟩, hmb⟩ := hb
  have HA := hide hca
  have HBx := hide hcb
  have HFF := hide hf
  clear hca hcb hf
  go_enter Tryd.func46, Tryd.ntmps46
  by_cases hl : pa.length = pb.length
  · have g0 : ((pa.length : Int) != (pb.length : Int)) = false := by rw [nat_ne]; simp [hl]
    have HL := hide hl
    clear hl
    go_wp2_with fail
    go_loopw [15] (fun ii wx => ∃ i : Nat, i ≤ pa.length ∧ ii = .int .i64 (i : Nat) ∧ Hid (∀ j p q, j < i → pa[j]? = some p → pb[j]? = some q → f p q = true) ∧ Hid (Below w.heap.size w wx)) (fun ii _ => pa.length - (intOf ii).toNat)
    case atStart => exact ⟨0, by omega, rfl, fun j p q hj => absurd hj (by omega), Below.refl _ _⟩
    case round =>
      obtain ⟨i, hi, rfl, HI, HBw⟩ := hrel
      by_cases hlt : i < pa.length
      · have g1 : (i : Int) < (pa.length : Int) := by omega
        have hlt2 : i < pb.length := by rw [← HL.out]; exact hlt
        have g2 : (i : Int) < (pb.length : Int) := by omega
        obtain ⟨p, hp⟩ : ∃ p, pa[i]? = some p := ⟨pa[i], List.getElem?_eq_getElem hlt⟩
        obtain ⟨q, hq⟩ : ∃ p, pb[i]? = some p := ⟨pb[i], List.getElem?_eq_getElem hlt2⟩
        obtain ⟨b1, off1, rfl, hc1⟩ := HA.out.resolve_left (fun h => by rw [h] at hlt; simp at hlt)
        obtain ⟨b2, off2, rfl, hc2⟩ := HBx.out.resolve_left (fun h => by rw [h] at hlt2; simp at hlt2)
        have c1 : ∀ t : Ext wr, t.w'.cell? ⟨b1, off1 + i, none⟩ = some (.int .i64 (p : Nat)) := fun t => keep_below t.h _ _ (keep_below HBw.out _ _ (hc1 i p hp))
        have c2 : ∀ t : Ext wr, t.w'.cell? ⟨b2, off2 + i, none⟩ = some (.int .i64 (q : Nat)) := fun t => keep_below t.h _ _ (keep_below HBw.out _ _ (hc2 i q hq))
        have HC0 : Hid (∀ t : Ext wr, Calls Tryd.prog G (#[.int .i64 (p : Nat), .int .i64 (q : Nat)] ++ cb) t.w' fun e w'' => e = .returned (.bool (f p q)) ∧ ∃ t' : Ext wr, w'' = t'.w') := fun t => Calls.ext_below (HFF.out t.w' (HBw.out.trans (t.h.mono HBw.out.size)) i p q hp hq)
        clear hc1 hc2 HA HBx HFF
        rcases Bool.eq_false_or_eq_true (f p q) with hr | hr
        · have HI2 : Hid (∀ j p q, j < i + 1 → pa[j]? = some p → pb[j]? = some q → f p q = true) := fun j p' q' hj h1 h2 => by
            by_cases hji : j = i
            · subst hji
              rw [hp] at h1
              rw [hq] at h2
              injection h1 with h1
              injection h2 with h2
              subst h1 h2
              exact hr
            · exact HI.out j p' q' (by omega) h1 h2
          rw [hr] at HC0
          clear hr hp hq HI
          go_wp2_with fail
          refine region_ext (by kernel_rfl) (by kernel_rfl) ?_
          repeat (
            refine wpQuiet_step (fun K hK => ?_)
            (go_simp
             first
               | (refine hK _ ?_; clear hK K)
               | (apply Exists.intro
                  refine ⟨fun _ => ?_, hK _ ?_⟩
                  (go_at_fn G; exact HC0.out _)
                  clear hK K)))
          refine wpQuiet_nil ?_
          rintro _ ⟨tq, rfl⟩
          have HB2 : Hid (Below w.heap.size w tq.w') := HBw.out.trans (tq.h.mono HBw.out.size)
          clear c1 c2 HC0
          go_wp2_with fail
          go_roundw
          case rel => exact ⟨i + 1, by omega, by go_num, HI2, HB2⟩
          case measure => simp [intOf]; omega
        · have HN : Hid (alk f pa pb = false) := alk_no hp hq hr
          rw [hr] at HC0
          clear hr hp hq HI
          go_wp2_with fail
          refine region_ext (by kernel_rfl) (by kernel_rfl) ?_
          repeat (
            refine wpQuiet_step (fun K hK => ?_)
            (go_simp
             first
               | (refine hK _ ?_; clear hK K)
               | (apply Exists.intro
                  refine ⟨fun _ => ?_, hK _ ?_⟩
                  (go_at_fn G; exact HC0.out _)
                  clear hK K)))
          refine wpQuiet_nil ?_
          rintro _ ⟨tq, rfl⟩
          have HB2 : Hid (Below w.heap.size w tq.w') := HBw.out.trans (tq.h.mono HBw.out.size)
          clear c1 c2 HC0
          go_wp2_with fail
          go_ret
          exact ⟨by rw [HN.out]; rfl, HB2.out⟩
      · as_aux_lemma =>
        have g1 : ¬ (i : Int) < (pa.length : Int) := by omega
        have HN : Hid (alk f pa pb = true) := alk_yes HL.out (fun j p q h1 h2 => HI.out j p q (by have := (List.getElem?_eq_some_iff.1 h1).1; omega) h1 h2)
        go_wp2_with fail
        go_ret
        exact ⟨by rw [HN.out]; rfl, HBw.out⟩
  · as_aux_lemma =>
    have g0 : ((pa.length : Int) != (pb.length : Int)) = true := by rw [nat_ne]; simp [hl]
    have HN : Hid (alk f pa pb = false) := alk_len f pa pb hl
    clear hl
    go_wp2_with fail
    go_ret
    exact ⟨by rw [HN.out]; rfl, Below.refl _ _⟩
end
section
open Go.RowKit Go
set_option maxRecDepth 1000000 in
set_option maxHeartbeats 1000000 in
theorem alikeB_any (G : Nat) (cb : Array Value) (eG : ∀ args w, (callFunc G args).run Tryd.prog w = .ok (.enter G args) w) (w : World) (va vb : Value) (pa pb : List Nat) (f : Nat → Nat → Bool) (ha : BSl w va pa) (hb : BSl w vb pb)
    (hf : ∀ wx, Below w.heap.size w wx → ∀ (i p q : Nat), pa[i]? = some p → pb[i]? = some q → Calls Tryd.prog G (#[.int .u8 (p : Nat), .int .u8 (q : Nat)] ++ cb) wx fun e w' => e = .returned (.bool (f p q)) ∧ Below wx.heap.size wx w') :
    Calls Tryd.prog 48 #[va, vb, .func (.func G) #[] cb] w fun e w' => e = .returned (.bool (alk f pa pb)) ∧ Below w.heap.size w w' := by
  obtain ⟨⟨a, ca, rfl, _, hca⟩, hma, _⟩ := ha
  obtain ⟨⟨b, cb2, rfl, _, hcb⟩, hmb, _⟩ := hb
  have HA := hide hca
  have HBx := hide hcb
  have HFF := hide hf
  clear hca hcb hf
  go_enter Tryd.func48, Tryd.ntmps48
  by_cases hl : pa.length = pb.length
  · have g0 : ((pa.length : Int) != (pb.length : Int)) = false := by rw [nat_ne]; simp [hl]
    have HL := hide hl
    clear hl
    go_wp2_with fail
    go_loopw [15] (fun ii wx => ∃ i : Nat, i ≤ pa.length ∧ ii = .int .i64 (i : Nat) ∧ Hid (∀ j p q, j < i → pa[j]? = some p → pb[j]? = some q → f p q = true) ∧ Hid (Below w.heap.size w wx)) (fun ii _ => pa.length - (intOf ii).toNat)
    case atStart => exact ⟨0, by omega, rfl, fun j p q hj => absurd hj (by omega), Below.refl _ _⟩
    case round =>
      obtain ⟨i, hi, rfl, HI, HBw⟩ := hrel
      by_cases hlt : i < pa.length
      · have g1 : (i : Int) < (pa.length : Int) := by omega
        have hlt2 : i < pb.length := by rw [← HL.out]; exact hlt
        have g2 : (i : Int) < (pb.length : Int) := by omega
        obtain ⟨p, hp⟩ : ∃ p, pa[i]? = some p := ⟨pa[i], List.getElem?_eq_getElem hlt⟩
        obtain ⟨q, hq⟩ : ∃ p, pb[i]? = some p := ⟨pb[i], List.getElem?_eq_getElem hlt2⟩
        obtain ⟨b1, off1, rfl, hc1⟩ := HA.out.resolve_left (fun h => by rw [h] at hlt; simp at hlt)
        obtain ⟨b2, off2, rfl, hc2⟩ := HBx.out.resolve_left (fun h => by rw [h] at hlt2; simp at hlt2)
        have c1 : ∀ t : Ext wr, t.w'.cell? ⟨b1, off1 + i, none⟩ = some (.int .u8 (p : Nat)) := fun t => keep_below t.h _ _ (keep_below HBw.out _ _ (by have h := hc1 i hlt; rw [show pa.getD i 0 = p by simp [List.getD, hp]] at h; exact h))
        have c2 : ∀ t : Ext wr, t.w'.cell? ⟨b2, off2 + i, none⟩ = some (.int .u8 (q : Nat)) := fun t => keep_below t.h _ _ (keep_below HBw.out _ _ (by have h := hc2 i hlt2; rw [show pb.getD i 0 = q by simp [List.getD, hq]] at h; exact h))
        have HC0 : Hid (∀ t : Ext wr, Calls Tryd.prog G (#[.int .u8 (p : Nat), .int .u8 (q : Nat)] ++ cb) t.w' fun e w'' => e = .returned (.bool (f p q)) ∧ ∃ t' : Ext wr, w'' = t'.w') := fun t => Calls.ext_below (HFF.out t.w' (HBw.out.trans (t.h.mono HBw.out.size)) i p q hp hq)
        clear hc1 hc2 HA HBx HFF
        rcases Bool.eq_false_or_eq_true (f p q) with hr | hr
        · have HI2 : Hid (∀ j p q, j < i + 1 → pa[j]? = some p → pb[j]? = some q → f p q = true) := fun j p' q' hj h1 h2 => by
            by_cases hji : j = i
            · subst hji
              rw [hp] at h1
              rw [hq] at h2
              injection h1 with h1
              injection h2 with h2
              subst h1 h2
              exact hr
            · exact HI.out j p' q' (by omega) h1 h2
          rw [hr] at HC0
          clear hr hp hq HI
          go_wp2_with fail
          refine region_ext (by kernel_rfl) (by kernel_rfl) ?_
          repeat (
            refine wpQuiet_step (fun K hK => ?_)
            (go_simp
             first
               | (refine hK _ ?_; clear hK K)
               | (apply Exists.intro
                  refine ⟨fun _ => ?_, hK _ ?_⟩
                  (go_at_fn G; exact HC0.out _)
                  clear hK K)))
          refine wpQuiet_nil ?_
          rintro _ ⟨tq, rfl⟩
          have HB2 : Hid (Below w.heap.size w tq.w') := HBw.out.trans (tq.h.mono HBw.out.size)
          clear c1 c2 HC0
          go_wp2_with fail
          go_roundw
          case rel => exact ⟨i + 1, by omega, by go_num, HI2, HB2⟩
          case measure => simp [intOf]; omega
        · have HN : Hid (alk f pa pb = false) := alk_no hp hq hr
          rw [hr] at HC0
          clear hr hp hq HI
          go_wp2_with fail
          refine region_ext (by kernel_rfl) (by kernel_rfl) ?_
          repeat (
            refine wpQuiet_step (fun K hK => ?_)
            (go_simp
             first
               | (refine hK _ ?_; clear hK K)
               | (apply Exists.intro
                  refine ⟨fun _ => ?_, hK _ ?_⟩
                  (go_at_fn G; exact HC0.out _)
                  clear hK K)))
          refine wpQuiet_nil ?_
          rintro _ ⟨tq, rfl⟩
          have HB2 : Hid (Below w.heap.size w tq.w') := HBw.out.trans (tq.h.mono HBw.out.size)
          clear c1 c2 HC0
          go_wp2_with fail
          go_ret
          exact ⟨by rw [HN.out]; rfl, HB2.out⟩
      · as_aux_lemma =>
        have g1 : ¬ (i : Int) < (pa.length : Int) := by omega
        have HN : Hid (alk f pa pb = true) := alk_yes HL.out (fun j p q h1 h2 => HI.out j p q (by have := (List.getElem?_eq_some_iff.1 h1).1; omega) h1 h2)
        go_wp2_with fail
        go_ret
        exact ⟨by rw [HN.out]; rfl, HBw.out⟩
  · as_aux_lemma =>
    have g0 : ((pa.length : Int) != (pb.length : Int)) = true := by rw [nat_ne]; simp [hl]
    have HN : Hid (alk f pa pb = false) := alk_len f pa pb hl
    clear hl
    go_wp2_with fail
    go_ret
    exact ⟨by rw [HN.out]; rfl, Below.refl _ _⟩
set_option maxRecDepth 1000000 in
set_option maxHeartbeats 1000000 in
theorem alikeV_any (G : Nat) (cb : Array Value) (eG : ∀ args w, (callFunc G args).run Tryd.prog w = .ok (.enter G args) w) (w : World) (va vb : Value) (pa pb : List Tv) (f : Nat → Nat → Bool) (ha : VSl w va pa) (hb : VSl w vb pb)
    (hf : ∀ wx, Below w.heap.size w wx → ∀ (i : Nat) (p q : Tv) (c1 c2 : Array Value), pa[i]? = some p → pb[i]? = some q → Tin wx p c1 → Tin wx q c2 → Calls Tryd.prog G (#[.agg c1, .agg c2] ++ cb) wx fun e w' => e = .returned (.bool (f i i)) ∧ Below wx.heap.size wx w') :
    Calls Tryd.prog 50 #[va, vb, .func (.func G) #[] cb] w fun e w' => e = .returned (.bool (alk f (List.range pa.length) (List.range pb.length))) ∧ Below w.heap.size w w' := by
  obtain ⟨⟨a, ca, rfl, _, hca⟩, hma⟩ := ha
  obtain ⟨⟨b, cb2, rfl, _, hcb⟩, hmb⟩ := hb
  have HA := hide hca
  have HBx := hide hcb
  have HFF := hide hf
  clear hca hcb hf
  go_enter Tryd.func50, Tryd.ntmps50
  by_cases hl : pa.length = pb.length
  · have g0 : ((pa.length : Int) != (pb.length : Int)) = false := by rw [nat_ne]; simp [hl]
    have HL := hide hl
    clear hl
    go_wp2_with fail
    go_loopw [15] (fun ii wx => ∃ i : Nat, i ≤ pa.length ∧ ii = .int .i64 (i : Nat) ∧ Hid (∀ j, j < i → f j j = true) ∧ Hid (Below w.heap.size w wx)) (fun ii _ => pa.length - (intOf ii).toNat)
    case atStart => exact ⟨0, by omega, rfl, fun j hj => absurd hj (by omega), Below.refl _ _⟩
    case round =>
      obtain ⟨i, hi, rfl, HI, HBw⟩ := hrel
      by_cases hlt : i < pa.length
      · have g1 : (i : Int) < (pa.length : Int) := by omega
        have hlt2 : i < pb.length := by rw [← HL.out]; exact hlt
        have g2 : (i : Int) < (pb.length : Int) := by omega
        obtain ⟨p, hp⟩ : ∃ p, pa[i]? = some p := ⟨pa[i], List.getElem?_eq_getElem hlt⟩
        obtain ⟨q, hq⟩ : ∃ p, pb[i]? = some p := ⟨pb[i], List.getElem?_eq_getElem hlt2⟩
        obtain ⟨b1, off1, rfl, hc1⟩ := HA.out.resolve_left (fun h => by rw [h] at hlt; simp at hlt)
        obtain ⟨b2, off2, rfl, hc2⟩ := HBx.out.resolve_left (fun h => by rw [h] at hlt2; simp at hlt2)
        obtain ⟨cu1, hcu1, hcc1⟩ := hc1 i p hp
        obtain ⟨cu2, hcu2, hcc2⟩ := hc2 i q hq
        have HQ1 : Hid (∀ wx, (∃ t : Ext wr, wx = t.w') → ∀ j x, cu1[j]? = some x → wx.cell? ⟨b1, off1 + i * 13 + j, none⟩ = some x) := by
          rintro _ ⟨t, rfl⟩ j x hx
          exact keep_below t.h _ _ (keep_below HBw.out _ _ (hcc1 j x hx))
        have HQ2 : Hid (∀ wx, (∃ t : Ext wr, wx = t.w') → ∀ j x, cu2[j]? = some x → wx.cell? ⟨b2, off2 + i * 13 + j, none⟩ = some x) := by
          rintro _ ⟨t, rfl⟩ j x hx
          exact keep_below t.h _ _ (keep_below HBw.out _ _ (hcc2 j x hx))
        have HZ1 := hide hcu1.size
        have HZ2 := hide hcu2.size
        have HC0 : Hid (∀ t : Ext wr, Calls Tryd.prog G (#[.agg cu1, .agg cu2] ++ cb) t.w' fun e w'' => e = .returned (.bool (f i i)) ∧ ∃ t' : Ext wr, w'' = t'.w') := fun t => Calls.ext_below (HFF.out t.w' (HBw.out.trans (t.h.mono HBw.out.size)) i p q cu1 cu2 hp hq ((hcu1.move (keep_below HBw.out)).move (keep_below t.h)) ((hcu2.move (keep_below HBw.out)).move (keep_below t.h)))
        clear hc1 hc2 hcc1 hcc2 hcu1 hcu2 HA HBx HFF
        rcases Bool.eq_false_or_eq_true (f i i) with hr | hr
        · have HI2 : Hid (∀ j, j < i + 1 → f j j = true) := fun j hj => by
            by_cases hji : j = i
            · subst hji
              exact hr
            · exact HI.out j (by omega)
          rw [hr] at HC0
          clear hr hp hq HI
          go_wp2_with fail
          refine region_ext (by kernel_rfl) (by kernel_rfl) ?_
          repeat (
            refine wpQuiet_step (fun K hK => ?_)
            first
              | (refine qstep_valAt rfl rfl b1 (off1 + i * 13) cu1 HZ1.out rfl HQ1.out (hK _ ?_); clear hK K)
              | (refine qstep_valAt rfl rfl b2 (off2 + i * 13) cu2 HZ2.out rfl HQ2.out (hK _ ?_); clear hK K)
              | (go_simp
                 first
               | (refine hK _ ?_; clear hK K)
               | (apply Exists.intro
                  refine ⟨fun _ => ?_, hK _ ?_⟩
                  (go_at_fn G; exact HC0.out _)
                  clear hK K)))
          refine wpQuiet_nil ?_
          rintro _ ⟨tq, rfl⟩
          have HB2 : Hid (Below w.heap.size w tq.w') := HBw.out.trans (tq.h.mono HBw.out.size)
          clear HC0 HQ1 HQ2
          go_wp2_with fail
          go_roundw
          case rel => exact ⟨i + 1, by omega, by go_num, HI2, HB2⟩
          case measure => simp [intOf]; omega
        · have HN : Hid (alk f (List.range pa.length) (List.range pb.length) = false) := alk_no (i := i) (List.getElem?_range hlt) (List.getElem?_range hlt2) hr
          rw [hr] at HC0
          clear hr hp hq HI
          go_wp2_with fail
          refine region_ext (by kernel_rfl) (by kernel_rfl) ?_
          repeat (
            refine wpQuiet_step (fun K hK => ?_)
            first
              | (refine qstep_valAt rfl rfl b1 (off1 + i * 13) cu1 HZ1.out rfl HQ1.out (hK _ ?_); clear hK K)
              | (refine qstep_valAt rfl rfl b2 (off2 + i * 13) cu2 HZ2.out rfl HQ2.out (hK _ ?_); clear hK K)
              | (go_simp
                 first
               | (refine hK _ ?_; clear hK K)
               | (apply Exists.intro
                  refine ⟨fun _ => ?_, hK _ ?_⟩
                  (go_at_fn G; exact HC0.out _)
                  clear hK K)))
          refine wpQuiet_nil ?_
          rintro _ ⟨tq, rfl⟩
          have HB2 : Hid (Below w.heap.size w tq.w') := HBw.out.trans (tq.h.mono HBw.out.size)
          clear HC0 HQ1 HQ2
          go_wp2_with fail
          go_ret
          exact ⟨by rw [HN.out]; rfl, HB2.out⟩
      · as_aux_lemma =>
        have g1 : ¬ (i : Int) < (pa.length : Int) := by omega
        have HN : Hid (alk f (List.range pa.length) (List.range pb.length) = true) := alk_yes (by simp [HL.out]) (fun j p q h1 h2 => by
          have hj := (List.getElem?_eq_some_iff.1 h1).1
          have hj2 := (List.getElem?_eq_some_iff.1 h2).1
          simp at hj hj2
          rw [List.getElem?_range hj] at h1
          rw [List.getElem?_range hj2] at h2
          injection h1 with h1
          injection h2 with h2
          subst h1
          subst h2
          exact HI.out j (by omega))
        go_wp2_with fail
        go_ret
        exact ⟨by rw [HN.out]; rfl, HBw.out⟩
  · as_aux_lemma =>
    have g0 : ((pa.length : Int) != (pb.length : Int)) = true := by rw [nat_ne]; simp [hl]
    have HN : Hid (alk f (List.range pa.length) (List.range pb.length) = false) := alk_len f _ _ (by simpa using hl)
    clear hl
    go_wp2_with fail
    go_ret
    exact ⟨by rw [HN.out]; rfl, Below.refl _ _⟩
theorem alk_eq {x y : List Nat} : alk (fun p q : Nat => decide (p = q)) x y = decide (x = y) := by
  rw [Bool.eq_iff_iff, alk_iff, decide_eq_true_iff]
  constructor
  · rintro ⟨h1, h2⟩
    apply List.ext_getElem?
    intro i
    by_cases hi : i < x.length
    · have a := List.getElem?_eq_getElem hi
      have b := List.getElem?_eq_getElem (show i < y.length by omega)
      have := h2 i _ _ a b
      rw [decide_eq_true_iff] at this
      rw [a, b, this]
    · rw [List.getElem?_eq_none (by omega), List.getElem?_eq_none (by omega)]
  · intro e
    subst e
    exact ⟨rfl, fun i p q h1 h2 => by rw [h1] at h2; injection h2 with h2; simp [h2]⟩
set_option maxRecDepth 1000000 in
theorem eq2_any (p q : Nat) (w : World) : Calls Tryd.prog 49 #[.int .u8 (p : Nat), .int .u8 (q : Nat)] w fun e w' => e = .returned (.bool (decide (p = q))) ∧ Below w.heap.size w w' := by
  have HE : Hid (((p : Int) == (q : Int)) = decide (p = q)) := by
    show _ = _
    rw [Bool.eq_iff_iff]
    simp
    omega
  go_enter Tryd.func49, Tryd.ntmps49
  go_wp2_with fail
  go_ret
  exact ⟨by rw [← HE.out]; rfl, Below.refl _ _⟩
theorem alikeE_any (w : World) (va vb : Value) (x y : List Nat) (hx : BSl w va x) (hy : BSl w vb y) : Calls Tryd.prog 48 #[va, vb, .func (.func 49) #[] #[]] w fun e w' => e = .returned (.bool (decide (x = y))) ∧ Below w.heap.size w w' := by
  have eG : ∀ args w, (callFunc 49 args).run Tryd.prog w = .ok (.enter 49 args) w := enters_of Tryd.func49 (by kernel_rfl) rfl
  have h := alikeB_any 49 #[] eG w va vb x y (fun p q => decide (p = q)) hx hy (fun wx _ i p q _ _ => eq2_any p q wx)
  rw [alk_eq] at h
  exact h
end
section
open Go.RowKit Go
/-- What Equal answers, by its own steps. -/
def eqf (a b : Tv) : Bool :=
  if a.k = 9 ∧ b.k = 9 then
    alk (fun p q => decide (a.ks.getD p ⟨#[]⟩ = b.ks.getD q ⟨#[]⟩) && (if h : p < a.is.length ∧ q < b.is.length then eqf (a.is[p]'h.1) (b.is[q]'h.2) else false)) (ordp a.ks (min a.ks.length a.is.length)) (ordp b.ks (min b.ks.length b.is.length))
  else
    decide (a.k = b.k) && (decide (a.f = b.f) && (decide (a.g = b.g) && (decide (a.n = b.n) && (decide (a.b = b.b) && (decide (a.s = b.s) && (decide (a.l = b.l) && (decide (a.y = b.y) && alk (fun i j => if h : i < a.is.length ∧ j < b.is.length then eqf (a.is[i]'h.1) (b.is[j]'h.2) else false) (List.range a.is.length) (List.range b.is.length))))))))
termination_by SizeOf.sizeOf a
decreasing_by all_goals exact Tv.is_lt (List.getElem_mem _)
/-- Two items held against each other. -/
def eqx (a b : Tv) (i j : Nat) : Bool := if h : i < a.is.length ∧ j < b.is.length then eqf (a.is[i]'h.1) (b.is[j]'h.2) else false
theorem eqx_at {a b u v : Tv} {i j : Nat} (hu : a.is[i]? = some u) (hv : b.is[j]? = some v) : eqx a b i j = eqf u v := by
  have h1 := (List.getElem?_eq_some_iff.1 hu).1
  have h2 := (List.getElem?_eq_some_iff.1 hv).1
  unfold eqx
  rw [dif_pos ⟨h1, h2⟩]
  rw [List.getElem?_eq_getElem h1] at hu
  rw [List.getElem?_eq_getElem h2] at hv
  injection hu with hu
  injection hv with hv
  rw [hu, hv]
def eqk (a b : Tv) (p q : Nat) : Bool := decide (a.ks.getD p ⟨#[]⟩ = b.ks.getD q ⟨#[]⟩) && eqx a b p q
theorem eqf_map {a b : Tv} (ha : a.k = 9) (hb : b.k = 9) : eqf a b = alk (eqk a b) (ordp a.ks (min a.ks.length a.is.length)) (ordp b.ks (min b.ks.length b.is.length)) := by
  rw [eqf, if_pos ⟨ha, hb⟩]
  rfl
theorem eqf_rest {a b : Tv} (h : ¬ (a.k = 9 ∧ b.k = 9)) : eqf a b = (decide (a.k = b.k) && (decide (a.f = b.f) && (decide (a.g = b.g) && (decide (a.n = b.n) && (decide (a.b = b.b) && (decide (a.s = b.s) && (decide (a.l = b.l) && (decide (a.y = b.y) && alk (eqx a b) (List.range a.is.length) (List.range b.is.length))))))))) := by
  rw [eqf, if_neg h]
  rfl
/-- What is asked of Equal at an item. -/
def EqC (a : Tv) : Prop := ∀ (b : Tv) (w : World) (ca cb : Array Value), Tin w a ca → Tin w b cb → tmuch a ≤ 6000000 → tmuch b ≤ 6000000 → Calls Tryd.prog 35 #[.agg ca, .agg cb] w fun e w' => e = .returned (.bool (eqf a b)) ∧ Below w.heap.size w w'
set_option maxRecDepth 1000000 in
set_option maxHeartbeats 1000000 in
theorem clo2_any (a b : Tv) (ih : ∀ u ∈ a.is, EqC u) (w : World) (A B : Nat) (ca cb : Array Value) (hA : w.heap[A]? = some (.cells ca 38 (0, 0))) (hB : w.heap[B]? = some (.cells cb 38 (0, 0))) (ha : Tin w a ca) (hb : Tin w b cb) (hma : tmuchL a.is ≤ 6000000) (hmb : tmuchL b.is ≤ 6000000) (p q : Nat) (hp1 : p < a.ks.length) (hp2 : p < a.is.length) (hq1 : q < b.ks.length) (hq2 : q < b.is.length) :
    Calls Tryd.prog 47 #[.int .i64 (p : Nat), .int .i64 (q : Nat), .pointer (some ⟨A, 0, none⟩), .pointer (some ⟨B, 0, none⟩)] w fun e w' => e = .returned (.bool (eqk a b p q)) ∧ Below w.heap.size w w' := by
  obtain ⟨u, hu⟩ : ∃ u, a.is[p]? = some u := ⟨a.is[p], List.getElem?_eq_getElem hp2⟩
  obtain ⟨v, hv⟩ : ∃ u, b.is[q]? = some u := ⟨b.is[q], List.getElem?_eq_getElem hq2⟩
  have HE : Hid (eqk a b p q = (decide (a.ks.getD p ⟨#[]⟩ = b.ks.getD q ⟨#[]⟩) && eqf u v)) := by
    show _ = _
    unfold eqk
    rw [eqx_at hu hv]
  obtain ⟨vy1, vk1, vi1, rfl, hy1, hk1, hv1, _⟩ := ha.parts
  obtain ⟨vy2, vk2, vi2, rfl, hy2, hk2, hv2, _⟩ := hb.parts
  obtain ⟨⟨ak1, ck1, rfl, _, hkf1⟩, hkm1, _⟩ := hk1
  obtain ⟨⟨ak2, ck2, rfl, _, hkf2⟩, hkm2, _⟩ := hk2
  obtain ⟨⟨ai1, ci1, rfl, _, hif1⟩, him1⟩ := hv1
  obtain ⟨⟨ai2, ci2, rfl, _, hif2⟩, him2⟩ := hv2
  obtain ⟨bk1, ok1, rfl, hkc1⟩ := hkf1.resolve_left (fun h => by rw [h] at hp1; simp at hp1)
  obtain ⟨bk2, ok2, rfl, hkc2⟩ := hkf2.resolve_left (fun h => by rw [h] at hq1; simp at hq1)
  obtain ⟨bi1, oi1, rfl, hic1⟩ := hif1.resolve_left (fun h => by rw [h] at hp2; simp at hp2)
  obtain ⟨bi2, oi2, rfl, hic2⟩ := hif2.resolve_left (fun h => by rw [h] at hq2; simp at hq2)
  obtain ⟨cu1, hcu1, hcc1⟩ := hic1 p u hu
  obtain ⟨cu2, hcu2, hcc2⟩ := hic2 q v hv
  have hs1 : a.ks[p]? = some (a.ks.getD p ⟨#[]⟩) := by simp [List.getD, List.getElem?_eq_getElem hp1]
  have hs2 : b.ks[q]? = some (b.ks.getD q ⟨#[]⟩) := by simp [List.getD, List.getElem?_eq_getElem hq1]
  have s1 : ∀ t : Ext w, t.w'.cell? ⟨bk1, ok1 + p, none⟩ = some (.string (a.ks.getD p ⟨#[]⟩)) := fun t => keep_below t.h _ _ (hkc1 _ _ hs1)
  have s2 : ∀ t : Ext w, t.w'.cell? ⟨bk2, ok2 + q, none⟩ = some (.string (b.ks.getD q ⟨#[]⟩)) := fun t => keep_below t.h _ _ (hkc2 _ _ hs2)
  have x1 : ∀ t : Ext w, t.w'.cell? ⟨A, 11, none⟩ = some (.slice (some ⟨bk1, ok1, none⟩) a.ks.length ck1) := fun t => keep_below t.h _ _ (blk_cell hA rfl)
  have x2 : ∀ t : Ext w, t.w'.cell? ⟨B, 11, none⟩ = some (.slice (some ⟨bk2, ok2, none⟩) b.ks.length ck2) := fun t => keep_below t.h _ _ (blk_cell hB rfl)
  have y1 : ∀ t : Ext w, t.w'.cell? ⟨A, 12, none⟩ = some (.slice (some ⟨bi1, oi1, none⟩) a.is.length ci1) := fun t => keep_below t.h _ _ (blk_cell hA rfl)
  have y2 : ∀ t : Ext w, t.w'.cell? ⟨B, 12, none⟩ = some (.slice (some ⟨bi2, oi2, none⟩) b.is.length ci2) := fun t => keep_below t.h _ _ (blk_cell hB rfl)
  have HQ1 : Hid (∀ wx, (∃ t : Ext w, wx = t.w') → ∀ j x, cu1[j]? = some x → wx.cell? ⟨bi1, oi1 + p * 13 + j, none⟩ = some x) := by
    rintro _ ⟨t, rfl⟩ j x hx
    exact keep_below t.h _ _ (hcc1 j x hx)
  have HQ2 : Hid (∀ wx, (∃ t : Ext w, wx = t.w') → ∀ j x, cu2[j]? = some x → wx.cell? ⟨bi2, oi2 + q * 13 + j, none⟩ = some x) := by
    rintro _ ⟨t, rfl⟩ j x hx
    exact keep_below t.h _ _ (hcc2 j x hx)
  have HZ1 := hide hcu1.size
  have HZ2 := hide hcu2.size
  have HC0 : Hid (∀ t : Ext w, Calls Tryd.prog 35 #[.agg cu1, .agg cu2] t.w' fun e w'' => e = .returned (.bool (eqf u v)) ∧ ∃ t' : Ext w, w'' = t'.w') := fun t => Calls.ext_below (ih u (List.mem_of_getElem? hu) v t.w' cu1 cu2 (hcu1.move (keep_below t.h)) (hcu2.move (keep_below t.h)) (Nat.le_trans (tmuchL_mem (List.mem_of_getElem? hu)) hma) (Nat.le_trans (tmuchL_mem (List.mem_of_getElem? hv)) hmb))
  have g1 : (p : Int) < (a.ks.length : Int) := by omega
  have g2 : (q : Int) < (b.ks.length : Int) := by omega
  have g3 : (p : Int) < (a.is.length : Int) := by omega
  have g4 : (q : Int) < (b.is.length : Int) := by omega
  clear ih hA hB ha hb hma hmb hu hv hkf1 hkf2 hif1 hif2 hkc1 hkc2 hic1 hic2 hcu1 hcu2 hcc1 hcc2 hs1 hs2 hy1 hy2
  generalize a.ks.getD p ⟨#[]⟩ = k1 at *
  generalize b.ks.getD q ⟨#[]⟩ = k2 at *
  generalize eqf u v = R at *
  go_enter Tryd.func47, Tryd.ntmps47
  by_cases he : k1 = k2
  · as_aux_lemma =>
    have hne : (k1.toList == k2.toList) = true := by rw [he]; simp
    rw [decide_eq_true he, Bool.true_and] at HE
    clear he
    go_wp2_with fail
    refine region_ext (by kernel_rfl) (by kernel_rfl) ?_
    repeat (
      refine wpQuiet_step (fun K hK => ?_)
      first
        | (refine qstep_valAt rfl rfl bi1 (oi1 + p * 13) cu1 HZ1.out rfl HQ1.out (hK _ ?_); clear hK K)
        | (refine qstep_valAt rfl rfl bi2 (oi2 + q * 13) cu2 HZ2.out rfl HQ2.out (hK _ ?_); clear hK K)
        | (go_simp
           first
             | (refine hK _ ?_; clear hK K)
             | (apply Exists.intro
                refine ⟨fun _ => ?_, hK _ ?_⟩
                (go_at_call 35; exact HC0.out _)
                clear hK K)))
    refine wpQuiet_nil ?_
    rintro _ ⟨tq, rfl⟩
    go_wp2_with fail
    go_ret
    exact ⟨by rw [HE.out]; rfl, tq.h⟩
  · as_aux_lemma =>
    have hne : (k1.toList == k2.toList) = false := str_beq_no he
    rw [decide_eq_false he, Bool.false_and] at HE
    have z1 := s1 ⟨w, Below.refl _ _⟩
    have z2 := s2 ⟨w, Below.refl _ _⟩
    have z3 := x1 ⟨w, Below.refl _ _⟩
    have z4 := x2 ⟨w, Below.refl _ _⟩
    clear he s1 s2 x1 x2 y1 y2
    go_wp2_with fail
    go_quiet (fail)
    go_wp2_with fail
    go_ret
    exact ⟨by rw [HE.out]; rfl, ((Kp.refl (fun _ => False) w).drewN _).below (Nat.le_refl _) (fun _ h => h.elim)⟩
end
section
open Go.RowKit Go
theorem exec_loadV {o : Oper} {a : Act} {p : Operand} {g : Nat} {cs : Array Value} {w : World} (ho : o.op = .load 38 p) (hp : a.eval p = .pointer (some ⟨g, 0, none⟩)) (hn : cs.size = 13) (hg : w.heap[g]? = some (.cells cs 38 (0, 0))) : (execOp a.eval o).run Tryd.prog w = .ok (.value (.agg cs)) w := by
  unfold execOp
  have hr := load_val (w := w) g 0 cs hn (fun j u hu => by rw [Nat.zero_add]; exact blk_cell hg hu)
  simp only [ho, Sem.run_bind, hp, hr, Result.andThen_ok]
  rfl
set_option maxRecDepth 1000000 in
set_option maxHeartbeats 2000000 in
theorem equal_map (a b : Tv) (ih : ∀ u ∈ a.is, EqC u) (h9 : a.k = 9) (h9b : b.k = 9) (w : World) (ca cb : Array Value) (hTa : Tin w a ca) (hTb : Tin w b cb) (hma : tmuch a ≤ 6000000) (hmb : tmuch b ≤ 6000000) : Calls Tryd.prog 35 #[.agg ca, .agg cb] w fun e w' => e = .returned (.bool (eqf a b)) ∧ Below w.heap.size w w' := by
  have hmf : ∀ (fn : Fn) (first cap : Array Value) (w : World), (Instr.makeFunc fn first cap).run Tryd.prog w = .ok (.func fn first cap) w := fun _ _ _ _ => rfl
  have eG : ∀ args w, (callFunc 47 args).run Tryd.prog w = .ok (.enter 47 args) w := enters_of Tryd.func47 (by kernel_rfl) rfl
  have HEG := hide eG
  have HR := hide (eqf_map h9 h9b)
  generalize hR : eqf a b = R at *
  clear hR eG
  have hme := tmuch_eq a
  have hme2 := tmuch_eq b
  have HIH := hide ih
  have HTA := hide hTa
  have HTB := hide hTb
  have HKA : Hid (a.ks.length ≤ 6000000 ∧ tmuchL a.is ≤ 6000000) := ⟨by omega, by omega⟩
  have HKB : Hid (b.ks.length ≤ 6000000 ∧ tmuchL b.is ≤ 6000000) := ⟨by omega, by omega⟩
  have HSA := hide hTa.size13
  have HSB := hide hTb.size13
  have HA0 : Hid (ca[0]? = some (.int .i64 a.k)) := by
    obtain ⟨vy, vk, vi, rfl, _⟩ := hTa.parts
    exact rfl
  have HB0 : Hid (cb[0]? = some (.int .i64 b.k)) := by
    obtain ⟨vy, vk, vi, rfl, _⟩ := hTb.parts
    exact rfl
  clear ih hTa hTb hma hmb hme hme2
  have HW0 := hide (Bw.start w ca cb)
  have q1 := blk_cell (j := 0) HW0.out.a HA0.out
  have q2 := blk_cell (j := 0) HW0.out.c HB0.out
  have g1 : (a.k == 9) = true := by rw [h9]; rfl
  have g2 : (b.k == 9) = true := by rw [h9b]; rfl
  clear h9 h9b
  go_enter Tryd.func35, Tryd.ntmps35
  go_wp2_with fail
  generalize (w.alloc (.cells ca 38)).alloc (.cells cb 38) = w2 at *
  refine heldStart (S := fun w' => Bw w w' ca cb) (by kernel_rfl) ?_
  have hS : Bw w w2.drew ca cb := HW0.out.next (by refine Below.drew ?_; exact Below.refl _ _)
  refine heldTake 0 _ rfl (by kernel_rfl) (by kernel_rfl) (by kernel_rfl) (fun _ _ _ h => h) rfl hS (fun wy hy => exec_loadV rfl rfl HSA.out hy.a) ?_
  (try simp only [Act.put]); (try simp only [List.setIfInBounds_toArray, List.set_cons_zero, List.set_cons_succ])
  refine heldTake 2 _ rfl (by kernel_rfl) (by kernel_rfl) (by kernel_rfl) (fun _ _ _ h => h) rfl hS (fun wy hy => exec_loadV rfl rfl HSB.out hy.c) ?_
  (try simp only [Act.put]); (try simp only [List.setIfInBounds_toArray, List.set_cons_zero, List.set_cons_succ])
  refine heldTake 4 _ rfl (by kernel_rfl) (by kernel_rfl) (by kernel_rfl) (fun _ _ _ h => h) rfl hS (fun wy hy => rfl) ?_
  (try simp only [Act.put]); (try simp only [List.setIfInBounds_toArray, List.set_cons_zero, List.set_cons_succ])
  refine heldStep 1 rfl (by kernel_rfl) (fun K hK => ?_)
  go_simp
  refine (order6_any a _ ca (HTA.out.move (keep_below hS.b)) (by have := HKA.out; omega)).mono ?_
  rintro e w3 ⟨v1, pa, rfl, hpa, hsa, hoa, hb3⟩
  have HPA := hide hpa
  have HQA := hide hsa
  have HI3 := hide (ISl.own hoa rfl (by have := hsa.len; have := HKA.out; omega))
  obtain ⟨xa, xc, hvx⟩ := own_slice hoa
  subst hvx
  clear hpa hsa hoa
  refine (Hid.out hK) _ _ (hS.next hb3) (fun hS2 => ?_)
  clear hK K hS
  have hS := hS2
  clear hS2
  (try simp only [Act.put]); (try simp only [List.setIfInBounds_toArray, List.set_cons_zero, List.set_cons_succ])
  clear hb3
  refine heldStep 3 rfl (by kernel_rfl) (fun K hK => ?_)
  go_simp
  refine (order6_any b _ cb (HTB.out.move (keep_below hS.b)) (by have := HKB.out; omega)).mono ?_
  rintro e w4 ⟨v2, pb, rfl, hpb, hsb, hob, hb4⟩
  have HPB := hide hpb
  have HQB := hide hsb
  have HI4 := hide (ISl.own hob rfl (by have := hsb.len; have := HKB.out; omega))
  have HI34 := hide (HI3.out.move (keep_below hb4))
  obtain ⟨xb, xd, hvx⟩ := own_slice hob
  subst hvx
  clear hpb hsb hob HI3
  refine (Hid.out hK) _ _ (hS.next hb4) (fun hS2 => ?_)
  clear hK K hS
  have hS := hS2
  clear hS2
  (try simp only [Act.put]); (try simp only [List.setIfInBounds_toArray, List.set_cons_zero, List.set_cons_succ])
  clear hb4
  have HCL : Hid (Calls Tryd.prog 46 #[.slice xa pa.length xc, .slice xb pb.length xd, .func (.func 47) #[] #[.pointer (some ⟨w.heap.size, 0, none⟩), .pointer (some ⟨w.heap.size + 1, 0, none⟩)]] w4 fun e w' => e = .returned (.bool R) ∧ Below w4.heap.size w4 w') := by
    have h := alikeI_any 47 #[.pointer (some ⟨w.heap.size, 0, none⟩), .pointer (some ⟨w.heap.size + 1, 0, none⟩)] HEG.out w4 _ _ pa pb (eqk a b) HI34.out HI4.out (fun wx hbx i p q hp hq => by
      have hwx := hS.next hbx
      have l1 := HQA.out.lt p (List.mem_of_getElem? hp)
      have l2 := HQB.out.lt q (List.mem_of_getElem? hq)
      exact clo2_any a b HIH.out wx w.heap.size (w.heap.size + 1) ca cb hwx.a hwx.c (HTA.out.move (keep_below hwx.b)) (HTB.out.move (keep_below hwx.b)) HKA.out.2 HKB.out.2 p q (by omega) (by omega) (by omega) (by omega))
    rw [HPA.out, HPB.out, ← HR.out] at h
    rw [← HPA.out, ← HPB.out] at h
    exact h
  refine heldStep 5 rfl (by kernel_rfl) (fun K hK => ?_)
  go_simp
  refine HCL.out.mono ?_
  rintro e w5 ⟨rfl, hb5⟩
  refine (Hid.out hK) _ _ (hS.next hb5) (fun hS2 => ?_)
  clear hK K hS
  have hS := hS2
  clear hS2
  (try simp only [Act.put]); (try simp only [List.setIfInBounds_toArray, List.set_cons_zero, List.set_cons_succ])
  clear hb5
  refine heldTake 6 _ rfl (by kernel_rfl) (by kernel_rfl) (by kernel_rfl) (fun _ _ _ h => h) rfl hS (fun wy hy => by first | (go_simp; done) | (go_simp; rfl) | rfl) ?_
  (try simp only [Act.put]); (try simp only [List.setIfInBounds_toArray, List.set_cons_zero, List.set_cons_succ])
  refine heldDone (by kernel_rfl) ?_
  go_wp2_with fail
  go_ret
  exact ⟨rfl, hS.b⟩
end
section
open Go.RowKit Go
set_option maxRecDepth 1000000 in
set_option maxHeartbeats 2000000 in
theorem equal_rest (t u : Tv) (ih : ∀ v ∈ t.is, EqC v) (h9 : ¬ (t.k = 9 ∧ u.k = 9)) (w : World) (ca cb : Array Value) (hTa : Tin w t ca) (hTb : Tin w u cb) (hma : tmuch t ≤ 6000000) (hmb : tmuch u ≤ 6000000) : Calls Tryd.prog 35 #[.agg ca, .agg cb] w fun e w' => e = .returned (.bool (eqf t u)) ∧ Below w.heap.size w w' := by
  have eG : ∀ args w, (callFunc 35 args).run Tryd.prog w = .ok (.enter 35 args) w := enters_of Tryd.func35 (by kernel_rfl) rfl
  have HEG := hide eG
  have HR := hide (eqf_rest h9)
  generalize hR : eqf t u = R at *
  clear hR eG
  have hme := tmuch_eq t
  have hme2 := tmuch_eq u
  have HIH := hide ih
  have HMA : Hid (tmuchL t.is ≤ 6000000) := by show _ ≤ _; omega
  have HMB : Hid (tmuchL u.is ≤ 6000000) := by show _ ≤ _; omega
  clear ih hma hmb hme hme2
  obtain ⟨vy, vk, vi, rfl, hy, hk, hv, hb⟩ := hTa.parts
  obtain ⟨vy2, vk2, vi2, rfl, hy2, hk2, hv2, hb2⟩ := hTb.parts
  have HY := hide hy
  have HV := hide hv
  have HY2 := hide hy2
  have HV2 := hide hv2
  have HD1 := hide hb.l.d
  have HD2 := hide hb2.l.d
  obtain ⟨⟨ay, cy, rfl, _, _⟩, _, _⟩ := hy
  obtain ⟨⟨ak, ck, rfl, _, _⟩, _, _⟩ := hk
  obtain ⟨⟨ai, ci, rfl, _, _⟩, _⟩ := hv
  obtain ⟨⟨ay2, cy2, rfl, _, _⟩, _, _⟩ := hy2
  obtain ⟨⟨ak2, ck2, rfl, _, _⟩, _, _⟩ := hk2
  obtain ⟨⟨ai2, ci2, rfl, _, _⟩, _⟩ := hv2
  clear hTa hTb hb hb2
  have HW0 := hide (Bw.start w (vcs t (.slice ay t.y.length cy) (.slice ak t.ks.length ck) (.slice ai t.is.length ci)) (vcs u (.slice ay2 u.y.length cy2) (.slice ak2 u.ks.length ck2) (.slice ai2 u.is.length ci2)))
  have HA := hide (fun j x (h : (lcs t.l)[j]? = some x) => lk_in HW0.out.a h)
  have HBb := hide (fun j x (h : (lcs u.l)[j]? = some x) => lk_in HW0.out.c h)
  have a0 : ((w.alloc (.cells (vcs t (.slice ay t.y.length cy) (.slice ak t.ks.length ck) (.slice ai t.is.length ci)) 38)).alloc (.cells (vcs u (.slice ay2 u.y.length cy2) (.slice ak2 u.ks.length ck2) (.slice ai2 u.is.length ci2)) 38)).cell? ⟨w.heap.size, 0, none⟩ = some (.int .i64 t.k) := blk_cell HW0.out.a rfl
  have b0 : ((w.alloc (.cells (vcs t (.slice ay t.y.length cy) (.slice ak t.ks.length ck) (.slice ai t.is.length ci)) 38)).alloc (.cells (vcs u (.slice ay2 u.y.length cy2) (.slice ak2 u.ks.length ck2) (.slice ai2 u.is.length ci2)) 38)).cell? ⟨w.heap.size + 1, 0, none⟩ = some (.int .i64 u.k) := blk_cell HW0.out.c rfl
  have a1 : ((w.alloc (.cells (vcs t (.slice ay t.y.length cy) (.slice ak t.ks.length ck) (.slice ai t.is.length ci)) 38)).alloc (.cells (vcs u (.slice ay2 u.y.length cy2) (.slice ak2 u.ks.length ck2) (.slice ai2 u.is.length ci2)) 38)).cell? ⟨w.heap.size, 1, none⟩ = some (.bool t.f) := blk_cell HW0.out.a rfl
  have b1 : ((w.alloc (.cells (vcs t (.slice ay t.y.length cy) (.slice ak t.ks.length ck) (.slice ai t.is.length ci)) 38)).alloc (.cells (vcs u (.slice ay2 u.y.length cy2) (.slice ak2 u.ks.length ck2) (.slice ai2 u.is.length ci2)) 38)).cell? ⟨w.heap.size + 1, 1, none⟩ = some (.bool u.f) := blk_cell HW0.out.c rfl
  have a2 : ((w.alloc (.cells (vcs t (.slice ay t.y.length cy) (.slice ak t.ks.length ck) (.slice ai t.is.length ci)) 38)).alloc (.cells (vcs u (.slice ay2 u.y.length cy2) (.slice ak2 u.ks.length ck2) (.slice ai2 u.is.length ci2)) 38)).cell? ⟨w.heap.size, 2, none⟩ = some (.bool t.g) := blk_cell HW0.out.a rfl
  have b2 : ((w.alloc (.cells (vcs t (.slice ay t.y.length cy) (.slice ak t.ks.length ck) (.slice ai t.is.length ci)) 38)).alloc (.cells (vcs u (.slice ay2 u.y.length cy2) (.slice ak2 u.ks.length ck2) (.slice ai2 u.is.length ci2)) 38)).cell? ⟨w.heap.size + 1, 2, none⟩ = some (.bool u.g) := blk_cell HW0.out.c rfl
  have a3 : ((w.alloc (.cells (vcs t (.slice ay t.y.length cy) (.slice ak t.ks.length ck) (.slice ai t.is.length ci)) 38)).alloc (.cells (vcs u (.slice ay2 u.y.length cy2) (.slice ak2 u.ks.length ck2) (.slice ai2 u.is.length ci2)) 38)).cell? ⟨w.heap.size, 3, none⟩ = some (.int .u64 (t.n : Nat)) := blk_cell HW0.out.a rfl
  have b3 : ((w.alloc (.cells (vcs t (.slice ay t.y.length cy) (.slice ak t.ks.length ck) (.slice ai t.is.length ci)) 38)).alloc (.cells (vcs u (.slice ay2 u.y.length cy2) (.slice ak2 u.ks.length ck2) (.slice ai2 u.is.length ci2)) 38)).cell? ⟨w.heap.size + 1, 3, none⟩ = some (.int .u64 (u.n : Nat)) := blk_cell HW0.out.c rfl
  have a4 : ((w.alloc (.cells (vcs t (.slice ay t.y.length cy) (.slice ak t.ks.length ck) (.slice ai t.is.length ci)) 38)).alloc (.cells (vcs u (.slice ay2 u.y.length cy2) (.slice ak2 u.ks.length ck2) (.slice ai2 u.is.length ci2)) 38)).cell? ⟨w.heap.size, 4, none⟩ = some (.int .u64 (t.b : Nat)) := blk_cell HW0.out.a rfl
  have b4 : ((w.alloc (.cells (vcs t (.slice ay t.y.length cy) (.slice ak t.ks.length ck) (.slice ai t.is.length ci)) 38)).alloc (.cells (vcs u (.slice ay2 u.y.length cy2) (.slice ak2 u.ks.length ck2) (.slice ai2 u.is.length ci2)) 38)).cell? ⟨w.heap.size + 1, 4, none⟩ = some (.int .u64 (u.b : Nat)) := blk_cell HW0.out.c rfl
  have a5 : ((w.alloc (.cells (vcs t (.slice ay t.y.length cy) (.slice ak t.ks.length ck) (.slice ai t.is.length ci)) 38)).alloc (.cells (vcs u (.slice ay2 u.y.length cy2) (.slice ak2 u.ks.length ck2) (.slice ai2 u.is.length ci2)) 38)).cell? ⟨w.heap.size, 5, none⟩ = some (.string t.s) := blk_cell HW0.out.a rfl
  have b5 : ((w.alloc (.cells (vcs t (.slice ay t.y.length cy) (.slice ak t.ks.length ck) (.slice ai t.is.length ci)) 38)).alloc (.cells (vcs u (.slice ay2 u.y.length cy2) (.slice ak2 u.ks.length ck2) (.slice ai2 u.is.length ci2)) 38)).cell? ⟨w.heap.size + 1, 5, none⟩ = some (.string u.s) := blk_cell HW0.out.c rfl
  have a6 : ((w.alloc (.cells (vcs t (.slice ay t.y.length cy) (.slice ak t.ks.length ck) (.slice ai t.is.length ci)) 38)).alloc (.cells (vcs u (.slice ay2 u.y.length cy2) (.slice ak2 u.ks.length ck2) (.slice ai2 u.is.length ci2)) 38)).cell? ⟨w.heap.size, 6, none⟩ = some (.slice ay t.y.length cy) := blk_cell HW0.out.a rfl
  have b6 : ((w.alloc (.cells (vcs t (.slice ay t.y.length cy) (.slice ak t.ks.length ck) (.slice ai t.is.length ci)) 38)).alloc (.cells (vcs u (.slice ay2 u.y.length cy2) (.slice ak2 u.ks.length ck2) (.slice ai2 u.is.length ci2)) 38)).cell? ⟨w.heap.size + 1, 6, none⟩ = some (.slice ay2 u.y.length cy2) := blk_cell HW0.out.c rfl
  have a12 : ((w.alloc (.cells (vcs t (.slice ay t.y.length cy) (.slice ak t.ks.length ck) (.slice ai t.is.length ci)) 38)).alloc (.cells (vcs u (.slice ay2 u.y.length cy2) (.slice ak2 u.ks.length ck2) (.slice ai2 u.is.length ci2)) 38)).cell? ⟨w.heap.size, 12, none⟩ = some (.slice ai t.is.length ci) := blk_cell HW0.out.a rfl
  have b12 : ((w.alloc (.cells (vcs t (.slice ay t.y.length cy) (.slice ak t.ks.length ck) (.slice ai t.is.length ci)) 38)).alloc (.cells (vcs u (.slice ay2 u.y.length cy2) (.slice ak2 u.ks.length ck2) (.slice ai2 u.is.length ci2)) 38)).cell? ⟨w.heap.size + 1, 12, none⟩ = some (.slice ai2 u.is.length ci2) := blk_cell HW0.out.c rfl
  generalize hca : vcs t (.slice ay t.y.length cy) (.slice ak t.ks.length ck) (.slice ai t.is.length ci) = ca at *
  generalize hcb : vcs u (.slice ay2 u.y.length cy2) (.slice ak2 u.ks.length ck2) (.slice ai2 u.is.length ci2) = cb at *
  have HCA := hide hca
  have HCB := hide hcb
  clear hca hcb
  by_cases h9a : t.k = 9
  · as_aux_lemma =>
    have h0 : ¬ t.k = u.k := fun e => h9 ⟨h9a, e ▸ h9a⟩
    have n9 : (t.k == 9) = true := by rw [h9a]; rfl
    have n9b : (u.k == 9) = false := beq_eq_false_iff_ne.2 (fun e => h9 ⟨h9a, e⟩)
    have HN : Hid (R = false) := by show _ = _; rw [HR.out]; simp [h0]
    have k0 : (t.k == u.k) = false := beq_eq_false_iff_ne.2 h0
    clear h0 h9a h9
    go_enter Tryd.func35, Tryd.ntmps35
    go_wp2_with fail
    go_ret
    exact ⟨by rw [HN.out]; rfl, HW0.out.b⟩
  have n9 : (t.k == 9) = false := beq_eq_false_iff_ne.2 h9a
  clear h9 h9a
  by_cases h0 : t.k = u.k
  case neg => as_aux_lemma =>
    have HN : Hid (R = false) := by show _ = _; rw [HR.out]; simp [h0]
    have k0 : (t.k == u.k) = false := beq_eq_false_iff_ne.2 h0
    clear h0
    go_enter Tryd.func35, Tryd.ntmps35
    go_wp2_with fail
    go_ret
    exact ⟨by rw [HN.out]; rfl, HW0.out.b⟩
  have k0 : (t.k == u.k) = true := beq_iff_eq.2 h0
  have H0 := hide h0
  clear h0
  by_cases h1 : t.f = u.f
  case neg => as_aux_lemma =>
    have HN : Hid (R = false) := by show _ = _; rw [HR.out]; simp [h1]
    have k1 : (t.f == u.f) = false := beq_eq_false_iff_ne.2 h1
    clear h1
    go_enter Tryd.func35, Tryd.ntmps35
    go_wp2_with fail
    go_ret
    exact ⟨by rw [HN.out]; rfl, HW0.out.b⟩
  have k1 : (t.f == u.f) = true := beq_iff_eq.2 h1
  have H1 := hide h1
  clear h1
  by_cases h2 : t.g = u.g
  case neg => as_aux_lemma =>
    have HN : Hid (R = false) := by show _ = _; rw [HR.out]; simp [h2]
    have k2 : (t.g == u.g) = false := beq_eq_false_iff_ne.2 h2
    clear h2
    go_enter Tryd.func35, Tryd.ntmps35
    go_wp2_with fail
    go_ret
    exact ⟨by rw [HN.out]; rfl, HW0.out.b⟩
  have k2 : (t.g == u.g) = true := beq_iff_eq.2 h2
  have H2 := hide h2
  clear h2
  by_cases h3 : t.n = u.n
  case neg => as_aux_lemma =>
    have HN : Hid (R = false) := by show _ = _; rw [HR.out]; simp [h3]
    have k3 : ((t.n : Int) == (u.n : Int)) = false := beq_eq_false_iff_ne.2 (by omega)
    clear h3
    go_enter Tryd.func35, Tryd.ntmps35
    go_wp2_with fail
    go_ret
    exact ⟨by rw [HN.out]; rfl, HW0.out.b⟩
  have k3 : ((t.n : Int) == (u.n : Int)) = true := beq_iff_eq.2 (by omega)
  have H3 := hide h3
  clear h3
  by_cases h4 : t.b = u.b
  case neg => as_aux_lemma =>
    have HN : Hid (R = false) := by show _ = _; rw [HR.out]; simp [h4]
    have k4 : ((t.b : Int) == (u.b : Int)) = false := beq_eq_false_iff_ne.2 (by omega)
    clear h4
    go_enter Tryd.func35, Tryd.ntmps35
    go_wp2_with fail
    go_ret
    exact ⟨by rw [HN.out]; rfl, HW0.out.b⟩
  have k4 : ((t.b : Int) == (u.b : Int)) = true := beq_iff_eq.2 (by omega)
  have H4 := hide h4
  clear h4
  by_cases h5 : t.s = u.s
  case neg => as_aux_lemma =>
    have HN : Hid (R = false) := by show _ = _; rw [HR.out]; simp [h5]
    have k5 : (t.s.toList == u.s.toList) = false := str_beq_no h5
    clear h5
    go_enter Tryd.func35, Tryd.ntmps35
    go_wp2_with fail
    go_ret
    exact ⟨by rw [HN.out]; rfl, HW0.out.b⟩
  have k5 : (t.s.toList == u.s.toList) = true := by rw [h5]; exact beq_self_eq_true _
  have H5 := hide h5
  clear h5
  by_cases h6 : t.l = u.l
  case neg => as_aux_lemma =>
    have HN : Hid (R = false) := by show _ = _; rw [HR.out]; simp [h6]
    have HEQ : Hid (∀ wx : World, (Op.equalIn 10000 36 (.agg (lcs t.l)) (.agg (lcs u.l))).run Tryd.prog wx = .ok false wx) := fun wx => by have h := eqlk wx HD1.out HD2.out; rw [decide_eq_false h6] at h; exact h
    clear h6
    go_enter Tryd.func35, Tryd.ntmps35
    go_wp2_with (first
      | (refine wpList_lkAt rfl rfl w.heap.size 7 t.l rfl HA.out ?_)
      | (refine wpList_lkAt rfl rfl (w.heap.size + 1) 7 u.l rfl HBb.out ?_)
      | (refine wpList_eqlk rfl rfl _ _ false rfl rfl (HEQ.out _) ?_))
    go_ret
    exact ⟨by rw [HN.out]; rfl, HW0.out.b⟩
  have HEQ : Hid (∀ wx : World, (Op.equalIn 10000 36 (.agg (lcs t.l)) (.agg (lcs u.l))).run Tryd.prog wx = .ok true wx) := fun wx => by have h := eqlk wx HD1.out HD2.out; rw [decide_eq_true h6] at h; exact h
  have H6 := hide h6
  clear h6
  go_enter Tryd.func35, Tryd.ntmps35
  go_wp2_with (first
    | (refine wpList_lkAt rfl rfl w.heap.size 7 t.l rfl HA.out ?_)
    | (refine wpList_lkAt rfl rfl (w.heap.size + 1) 7 u.l rfl HBb.out ?_)
    | (refine wpList_eqlk rfl rfl _ _ true rfl rfl (HEQ.out _) ?_))
  clear a0 a1 a2 a3 a4 a5 a6 a12 b0 b1 b2 b3 b4 b5 b6 b12
  generalize (w.alloc (.cells ca 38)).alloc (.cells cb 38) = w2 at *
  refine (alikeE_any w2 _ _ t.y u.y (HY.out.move (keep_below HW0.out.b)) (HY2.out.move (keep_below HW0.out.b))).mono ?_
  rintro e w3 ⟨rfl, hb3⟩
  have HW3 := hide (HW0.out.next hb3)
  clear hb3 HW0 HA HBb HEQ
  by_cases h7 : t.y = u.y
  case neg => as_aux_lemma =>
    have HN : Hid (R = false) := by show _ = _; rw [HR.out]; simp [h7]
    rw [decide_eq_false h7]
    clear h7
    go_wp2_with fail
    go_ret
    exact ⟨by rw [HN.out]; rfl, HW3.out.b⟩
  rw [decide_eq_true h7]
  have HRR : Hid (R = alk (eqx t u) (List.range t.is.length) (List.range u.is.length)) := by show _ = _; rw [HR.out]; simp [H0.out, H1.out, H2.out, H3.out, H4.out, H5.out, H6.out, h7]
  clear h7
  have a12 : w3.cell? ⟨w.heap.size, 12, none⟩ = some (.slice ai t.is.length ci) := blk_cell HW3.out.a (by rw [← HCA.out]; rfl)
  have b12 : w3.cell? ⟨w.heap.size + 1, 12, none⟩ = some (.slice ai2 u.is.length ci2) := blk_cell HW3.out.c (by rw [← HCB.out]; rfl)
  go_wp2_with fail
  refine (alikeV_any 35 #[] HEG.out w3 _ _ t.is u.is (eqx t u) (HV.out.move (keep_below HW3.out.b)) (HV2.out.move (keep_below HW3.out.b)) (fun wx hbx i p q c1 c2 hp hq h1 h2 => ?_)).mono ?_
  · rw [eqx_at hp hq]
    exact HIH.out p (List.mem_of_getElem? hp) q wx c1 c2 h1 h2 (Nat.le_trans (tmuchL_mem (List.mem_of_getElem? hp)) HMA.out) (Nat.le_trans (tmuchL_mem (List.mem_of_getElem? hq)) HMB.out)
  rintro e w5 ⟨rfl, hb5⟩
  have HB5 : Hid (Below w.heap.size w w5) := HW3.out.b.trans (hb5.mono HW3.out.b.size)
  rw [← HRR.out]
  clear hb5 a12 b12
  go_wp2_with fail
  go_ret
  exact ⟨rfl, HB5.out⟩
theorem equal6_any (a : Tv) : EqC a := by
  have h : ∀ N, ∀ t : Tv, SizeOf.sizeOf t = N → EqC t := by
    intro N
    induction N using Nat.strongRecOn with
    | _ N ih =>
      intro t hN b w ca cb h1 h2 h3 h4
      have ih' : ∀ u ∈ t.is, EqC u := fun u hu => ih _ (by rw [← hN]; exact Tv.is_lt hu) u rfl
      by_cases h : t.k = 9 ∧ b.k = 9
      · exact equal_map t b ih' h.1 h.2 w ca cb h1 h2 h3 h4
      · exact equal_rest t b ih' h w ca cb h1 h2 h3 h4
  exact h _ a rfl
theorem ordp_srp (ks : List ByteArray) (n : Nat) : Srp ks n (ordp ks n) := by
  by_cases hn0 : 0 < n
  · let inst : Inhabited (Fin n) := ⟨⟨0, hn0⟩⟩
    have hod : ordp ks n = (ordF ks n).toList.map Fin.val := by
      unfold ordp
      rw [dif_pos hn0]
    have hds : (List.finRange n).toArray.size = n := by simp
    have hpd : Go.Sort.PermIn 0 (List.finRange n).toArray.size (List.finRange n).toArray (ordF ks n) ∧ Go.Sort.SortedIn (Go.Proofs.ltOf (kcf ks n)) 0 (List.finRange n).toArray.size (ordF ks n) := Go.Sort.pdq_sorts (Go.Proofs.ltOf (kcf ks n)) (kcf_swo ks n) (List.finRange n).toArray 0 (List.finRange n).toArray.size (Lib.bitLen (List.finRange n).toArray.size) true true (Nat.zero_le _) (Nat.le_refl _) (Or.inl rfl)
    generalize ordF ks n = d' at *
    obtain ⟨hp, hs⟩ := hpd
    rw [hds] at hp hs
    have hd' : d'.size = n := by rw [hp.1, hds]
    have hperm : d'.toList.Perm (List.finRange n) := by
      have h := hp.2.2
      have e1 : d'.extract 0 n = d' := by
        have h2 : d'.extract 0 d'.size = d' := by simp
        rw [hd'] at h2
        exact h2
      have e2 : (List.finRange n).toArray.extract 0 n = (List.finRange n).toArray := by
        have h2 : (List.finRange n).take n = List.finRange n := List.take_of_length_le (by simp)
        simp [h2]
      rw [e1, e2] at h
      exact h
    rw [hod]
    refine ⟨?_, fun i j p q hij h1 h2 => ?_⟩
    · have h := hperm.map Fin.val
      have e : (List.finRange n).map Fin.val = List.range n := by
        apply List.ext_getElem?
        intro j
        by_cases hj : j < n
        · simp [hj]
        · rw [List.getElem?_eq_none (by simpa using hj), List.getElem?_eq_none (by simpa using hj)]
      rw [e] at h
      exact h
    · have hjl : j < d'.size := by
        have := (List.getElem?_eq_some_iff.1 h2).1
        simpa using this
      have hil : i < d'.size := by omega
      simp [hil] at h1
      simp [hjl] at h2
      have hl := hs i j (Nat.zero_le _) hij (by omega)
      rw [kcf_lt, getElem!_pos d' i hil, getElem!_pos d' j hjl, h1, h2] at hl
      exact hl
  · have e : n = 0 := by omega
    subst e
    exact ⟨by simp [ordp], fun i j p q _ h => by simp [ordp] at h⟩
/-- Of trees: equal, whatever the order of entries. -/
theorem eqf_teq (a : Tv) : ∀ b, Trk a → Trk b → (eqf a b = true ↔ Teq a b) := by
  have h : ∀ N, ∀ t : Tv, SizeOf.sizeOf t = N → ∀ b, Trk t → Trk b → (eqf t b = true ↔ Teq t b) := by
    intro N
    induction N using Nat.strongRecOn with
    | _ N ih =>
      intro a hN b ha hb
      have ih' : ∀ u ∈ a.is, ∀ v, Trk u → Trk v → (eqf u v = true ↔ Teq u v) := fun u hu => ih _ (by rw [← hN]; exact Tv.is_lt hu) u rfl
      by_cases h9 : a.k = 9 ∧ b.k = 9
      · obtain ⟨h1, h2⟩ := h9
        have spa := ordp_srp a.ks (min a.ks.length a.is.length)
        have spb := ordp_srp b.ks (min b.ks.length b.is.length)
        rw [eqf_map h1 h2, alk_iff, teq_map ha hb h1 h2 spa spb]
        refine and_congr_right fun _ => ⟨fun h i p q hp hq => ?_, fun h i p q hp hq => ?_⟩
        · have hx := h i p q hp hq
          unfold eqk at hx
          rw [Bool.and_eq_true, decide_eq_true_iff] at hx
          refine ⟨hx.1, fun u v hu hv => ?_⟩
          have hy := hx.2
          rw [eqx_at hu hv] at hy
          exact (ih' u (List.mem_of_getElem? hu) v (ha.i u (List.mem_of_getElem? hu)) (hb.i v (List.mem_of_getElem? hv))).1 hy
        · have hx := h i p q hp hq
          have l1 := spa.lt p (List.mem_of_getElem? hp)
          have l2 := spb.lt q (List.mem_of_getElem? hq)
          have hu := List.getElem?_eq_getElem (show p < a.is.length by omega)
          have hv := List.getElem?_eq_getElem (show q < b.is.length by omega)
          unfold eqk
          rw [Bool.and_eq_true, decide_eq_true_iff, eqx_at hu hv]
          exact ⟨hx.1, (ih' _ (List.mem_of_getElem? hu) _ (ha.i _ (List.mem_of_getElem? hu)) (hb.i _ (List.mem_of_getElem? hv))).2 (hx.2 _ _ hu hv)⟩
      · rw [eqf_rest h9]
        simp only [Bool.and_eq_true, decide_eq_true_iff, alk_iff]
        constructor
        · rintro ⟨e0, e1, e2, e3, e4, e5, e6, e7, e8, e9⟩
          have ka : a.k ≠ 9 := fun e => h9 ⟨e, e0 ▸ e⟩
          refine teq_rest ka ⟨e0.symm, e1.symm, e2.symm, e3.symm, e4.symm, e5.symm, e7.symm, e6.symm⟩ (ha.e ka) (hb.e (by rw [← e0]; exact ka)) (by simpa using e8) (fun i u v hu hv => ?_)
          have l1 := (List.getElem?_eq_some_iff.1 hu).1
          have l2 := (List.getElem?_eq_some_iff.1 hv).1
          have hx := e9 i i i (List.getElem?_range l1) (List.getElem?_range l2)
          rw [eqx_at hu hv] at hx
          exact (ih' u (List.mem_of_getElem? hu) v (ha.i u (List.mem_of_getElem? hu)) (hb.i v (List.mem_of_getElem? hv))).1 hx
        · intro ht
          have tp := teq_top ht
          have ka : a.k ≠ 9 := fun e => h9 ⟨e, tp.k.trans e⟩
          obtain ⟨n1, i1⟩ := teq_items ka ht
          refine ⟨tp.k.symm, tp.f.symm, tp.g.symm, tp.n.symm, tp.b.symm, tp.s.symm, tp.l.symm, tp.y.symm, by simpa using n1, fun i x y hx hy => ?_⟩
          have l1 := (List.getElem?_eq_some_iff.1 hx).1
          have l2 := (List.getElem?_eq_some_iff.1 hy).1
          simp at l1 l2
          rw [List.getElem?_range l1] at hx
          rw [List.getElem?_range l2] at hy
          injection hx with hx
          injection hy with hy
          subst hx
          subst hy
          have hu := List.getElem?_eq_getElem l1
          have hv := List.getElem?_eq_getElem l2
          rw [eqx_at hu hv]
          exact (ih' _ (List.mem_of_getElem? hu) _ (ha.i _ (List.mem_of_getElem? hu)) (hb.i _ (List.mem_of_getElem? hv))).2 (i1 i _ _ hu hv)
  exact h _ a rfl
end
section
open Go.RowKit Go
theorem sorted6_any (t : Tv) : AgainC 15 SrtR t := by
  have h : ∀ N, ∀ t : Tv, SizeOf.sizeOf t = N → AgainC 15 SrtR t := by
    intro N
    induction N using Nat.strongRecOn with
    | _ N ih => exact fun t hN => sorted_step t (fun u hu => ih _ (by rw [← hN]; exact Tv.is_lt hu) u rfl)
  exact h _ t rfl
end
end Go.Proofs.YtglbllkmhedlfaaDoor
