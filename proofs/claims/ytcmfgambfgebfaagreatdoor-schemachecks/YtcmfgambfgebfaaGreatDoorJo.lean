import Derived.Test.YtcmfgambfgebfaaGreatDoorJg
import Derived.Test.YtcmfgambfgebfaaGreatDoorJn
import Derived.Test.YtcmfgambfgebfaaGreatDoorJh
import Derived.Test.YtcmfgambfgebfaaGreatDoorJb
import Derived.Test.YtcmfgambfgebfaaGreatDoorJa
import Derived.Test.YtcmfgambfgebfaaGreatDoorJd
import Derived.Laws.AppendOwnNone
import Derived.Test.YtcmfgambfgebfaaGreatDoorJf
import Derived.Test.YtcmfgambfgebfaaGreatDoorJm
namespace Go.Proofs.YtcmfgambfgebfaaGreatDoor
section
open Go.RowKit Go
/-! ### together, Check: the reference's -/
/-- Every known name has an end. -/
def Ends (l : List Tp) : Prop := ∀ s, (fnd l s).2 = true → (flr l s).2.2 = true
theorem flr_none {l : List Tp} {s : ByteArray} (hp : plc l s = none) : (flr l s).2.2 = true := by
  unfold flr
  rw [fwr_none hp]
theorem ends_of {l : List Tp} (h : ∀ (i : Nat) (t : Tp), l[i]? = some t → (flr l t.n).2.2 = true) : Ends l := fun s _ => by
  cases hp : plc l s with
  | none => exact flr_none hp
  | some i =>
    obtain ⟨t, ht, hn⟩ := plc_lt hp
    rw [← hn]
    exact h i t ht
set_option maxRecDepth 1000000 in
set_option maxHeartbeats 2000000 in
theorem together11_any (w : World) (v : Value) (l : List Tp) (hv : TSl w v l) (hS : Shrt l) (F : Fst l) (hE : Ends l) (i : Nat) (t : Tp) (ht : l[i]? = some t) : Calls Tryz.prog 24 #[v, .int .i64 (i : Nat)] w fun e w' => e = .returned (.int .i64 (tgt l t : Nat)) ∧ Below w.heap.size w w' := by
  have hmax := hv.max
  have HV := hide hv
  have hil : i < l.length := (List.getElem?_eq_some_iff.1 ht).1
  obtain ⟨⟨a, cap, rfl, hn, hcl⟩, _⟩ := hv
  obtain ⟨b, off, rfl, hcc⟩ := hcl.resolve_left (fun h => by rw [h] at hil; simp at hil)
  obtain ⟨c, hc, hcell⟩ := hcc i t ht
  have HTI := hide hc
  obtain ⟨⟨vf, vc, vw, rfl, ⟨⟨af, cf, rfl, -, -⟩, -⟩, ⟨⟨ac, cc, rfl, -, -⟩, -⟩, ⟨⟨aw, cw, rfl, -, -⟩, -, -⟩⟩, -⟩ := hc
  unfold tpc at hcell HTI
  have HCL := hide hcell
  have HF := hide F
  have HEN := hide hE
  have HSH := hide (hS t (List.mem_of_getElem? ht))
  have HRK : Hid (∀ r ∈ rfs t, (fnd l r.n).2 = true) := F.ref t (List.mem_of_getElem? ht)
  have HTG : Hid (tgt l t = if (rfs t).any (fun r => r.z && (flo l r.n).2) then 118 else if t.k = 8 ∧ kap l [] t.cs = false then 116 else 0) := rfl
  have gi : (i : Int) < (l.length : Int) := by omega
  have HIT := hide infoTp
  have HAT : Hid (∀ w, (isAgg 45).run Tryz.prog w = .ok true w) := aggTp
  have HCE : Hid (∀ x ∈ t.cs, (flr l x.n).2.2 = true ∧ (fnd l x.n).2 = true) := fun x hx => by
    have h1 := HRK.out ⟨x.n, false⟩ (by
      unfold rfs
      rw [List.mem_append]
      exact .inr (List.mem_map.2 ⟨x, hx, rfl⟩))
    exact ⟨HEN.out _ h1, h1⟩
  clear hn hcc hcell F hE hS ht hil
  go_enter Tryz.func24, Tryz.ntmps24
  go_wp2_with (refine wpList_aggAt rfl rfl HIT.out HAT.out b (off + i * 9) #[.string t.n, .int .i64 t.k, .int .i64 t.lo, .int .i64 t.hi, .string t.r.n, .bool t.r.z, .slice af t.fs.length cf, .slice ac t.cs.length cc, .slice aw t.ws.length cw] rfl rfl HCL.out ?_)
  refine (refs11_any w t _ HTI.out HSH.out.1 HSH.out.2.1).mono ?_
  rintro e w1 ⟨vr, rfl, hP⟩
  have HB1 := hide hP.out.2
  have hR := hP.out.1
  clear hP
  obtain ⟨⟨ar, cr, rfl, _, hrf⟩, hrm⟩ := hR
  have HRF := hide hrf
  clear hrf
  have HV1 : Hid (TSl w1 (.slice (some ⟨b, off, none⟩) l.length cap) l) := TSl.mv HV.out (keep_below HB1.out)
  have HTI1 := hide (HTI.out.move (keep_below HB1.out))
  have HCL1 : Hid (∀ j u, (#[.string t.n, .int .i64 t.k, .int .i64 t.lo, .int .i64 t.hi, .string t.r.n, .bool t.r.z, .slice af t.fs.length cf, .slice ac t.cs.length cc, .slice aw t.ws.length cw] : Array Value)[j]? = some u → w1.cell? ⟨b, off + i * 9 + j, none⟩ = some u) := fun j u hj => keep_below HB1.out _ _ (HCL.out j u hj)
  clear HV HTI HCL
  go_wp2_with fail
  go_loopw [6] (fun vi wx => ∃ (m : Nat), m ≤ (rfs t).length ∧ vi = .int .i64 (m : Nat) ∧ wx = w1 ∧ Hid (∀ j r, j < m → (rfs t)[j]? = some r → (r.z && (flo l r.n).2) = false)) (fun vi _ => (rfs t).length - (intOf vi).toNat)
  case atStart => exact ⟨0, by omega, rfl, rfl, fun j _ hj => absurd hj (by omega)⟩
  case round =>
    obtain ⟨m, hm, rfl, hww, HN⟩ := hrel
    have hww := hww.symm
    subst hww
    by_cases hlt : m < (rfs t).length
    · have g1 : (m : Int) < ((rfs t).length : Int) := by omega
      obtain ⟨r, hr⟩ : ∃ r, (rfs t)[m]? = some r := ⟨(rfs t)[m], List.getElem?_eq_getElem hlt⟩
      obtain ⟨b2, off2, rfl, hcc⟩ := HRF.out.resolve_left (fun h => by rw [h] at hlt; simp at hlt)
      obtain ⟨c, ⟨rfl, _⟩, hcell⟩ := hcc m r hr
      have q0 := hcell 0 (.string r.n) rfl
      have q1 := hcell 1 (.bool r.z) rfl
      rw [Nat.add_zero] at q0
      have HFO := hide (follow11_any w1 _ l HV1.out r.n)
      have HFF := hide (flo_flr HF.out r.n)
      rw [HEN.out r.n (HRK.out r (List.mem_of_getElem? hr))] at HFO
      have HY : Hid ((r.z && (flo l r.n).2) = true → tgt l t = 118) := fun h => by
        rw [HTG.out, if_pos]
        rw [List.any_eq_true]
        exact ⟨r, List.mem_of_getElem? hr, h⟩
      have HNX : Hid ((r.z && (flo l r.n).2) = false → ∀ j r, j < m + 1 → (rfs t)[j]? = some r → (r.z && (flo l r.n).2) = false) := fun h j r' hj hr' => by
        by_cases e : j = m
        · subst e
          rw [hr] at hr'
          rw [← Option.some.inj hr']
          exact h
        · exact HN.out j r' (by omega) hr'
      rw [HFF.out] at HY HNX
      clear hcc hcell hr HN HFF
      simp only at HY
      generalize r.z = rz at *
      generalize (flr l r.n).2.1 = Z at *
      generalize (flr l r.n).1 = E at *
      cases rz with
      | false => as_aux_lemma =>
        have HN2 := hide (HNX.out rfl)
        clear HNX HY
        go_wp2_with (go_at_call 23; refine HFO.out.mono ?_; rintro e wq ⟨rfl, hwq⟩; have hwq := hwq.symm; subst hwq)
        go_roundw
        case rel => exact ⟨m + 1, by omega, by go_num, trivial, HN2⟩
        case measure => simp [intOf]; omega
      | true =>
        cases Z with
        | false => as_aux_lemma =>
          have HN2 := hide (HNX.out rfl)
          clear HNX HY
          go_wp2_with (go_at_call 23; refine HFO.out.mono ?_; rintro e wq ⟨rfl, hwq⟩; have hwq := hwq.symm; subst hwq)
          go_roundw
          case rel => exact ⟨m + 1, by omega, by go_num, trivial, HN2⟩
          case measure => simp [intOf]; omega
        | true => as_aux_lemma =>
          have HR := hide (HY.out rfl)
          clear HNX HY
          go_wp2_with (go_at_call 23; refine HFO.out.mono ?_; rintro e wq ⟨rfl, hwq⟩; have hwq := hwq.symm; subst hwq)
          go_ret
          exact ⟨by rw [HR.out] <;> rfl, HB1.out⟩
    · have g1 : ¬ (m : Int) < ((rfs t).length : Int) := by omega
      have HNA : Hid (((rfs t).any (fun r => r.z && (flo l r.n).2)) = false) := by
        show _ = _
        rw [List.any_eq_false]
        intro r hr
        obtain ⟨j, hj, e⟩ := List.getElem_of_mem hr
        rw [HN.out j r (by omega) (by rw [List.getElem?_eq_getElem hj, e])]
        decide
      rw [HNA.out, if_neg (by decide)] at HTG
      have qk := HCL1.out 1 (.int .i64 t.k) rfl
      clear HN HNA HRF
      by_cases h8 : t.k = 8
      · have g8 : (t.k == 8) = true := beq_iff_eq.2 h8
        have HKI := hide (kinded11_any w1 _ l HV1.out HF.out t _ HTI1.out HCE.out)
        cases hk : kap l [] t.cs with
        | true => as_aux_lemma =>
          have HR : Hid (tgt l t = 0) := by show _ = _; rw [HTG.out, if_neg (fun h => by rw [hk] at h; exact absurd h.2 (by decide))]
          rw [hk] at HKI
          clear h8 hk HTG
          go_wp2_with (first
            | (refine wpList_aggAt rfl rfl HIT.out HAT.out b (off + i * 9) #[.string t.n, .int .i64 t.k, .int .i64 t.lo, .int .i64 t.hi, .string t.r.n, .bool t.r.z, .slice af t.fs.length cf, .slice ac t.cs.length cc, .slice aw t.ws.length cw] rfl rfl HCL1.out ?_)
            | (go_at_call 55; refine HKI.out.mono ?_; rintro e w2 ⟨rfl, hb2⟩))
          go_ret
          exact ⟨by rw [HR.out] <;> rfl, HB1.out.trans (hb2.mono HB1.out.size)⟩
        | false => as_aux_lemma =>
          have HR : Hid (tgt l t = 116) := by show _ = _; rw [HTG.out, if_pos ⟨h8, hk⟩]
          rw [hk] at HKI
          clear h8 hk HTG
          go_wp2_with (first
            | (refine wpList_aggAt rfl rfl HIT.out HAT.out b (off + i * 9) #[.string t.n, .int .i64 t.k, .int .i64 t.lo, .int .i64 t.hi, .string t.r.n, .bool t.r.z, .slice af t.fs.length cf, .slice ac t.cs.length cc, .slice aw t.ws.length cw] rfl rfl HCL1.out ?_)
            | (go_at_call 55; refine HKI.out.mono ?_; rintro e w2 ⟨rfl, hb2⟩))
          go_ret
          exact ⟨by rw [HR.out] <;> rfl, HB1.out.trans (hb2.mono HB1.out.size)⟩
      · as_aux_lemma =>
        have g8 : (t.k == 8) = false := beq_eq_false_iff_ne.2 h8
        have HR : Hid (tgt l t = 0) := by show _ = _; rw [HTG.out, if_neg (fun h => h8 h.1)]
        clear h8 HTG
        go_wp2_with fail
        go_ret
        exact ⟨by rw [HR.out] <;> rfl, HB1.out⟩
set_option maxRecDepth 1000000 in
set_option maxHeartbeats 2000000 in
theorem rcheck11_any (w : World) (v : Value) (l : List Tp) (hv : TSl w v l) (hS : Shrt l) : Calls Tryz.prog 8 #[v] w fun e w' => e = .returned (.tuple #[.int .i64 ((chk11 l).1 : Nat), .int .i64 ((chk11 l).2 : Nat)]) ∧ Below w.heap.size w w' := by
  have hmax := hv.max
  have HV := hide hv
  have HSH := hide hS
  obtain ⟨⟨a, cap, rfl, hn, hcl⟩, _⟩ := hv
  have HNM : Hid (∀ (j : Nat) (u : Tp) (wy : World), l[j]? = some u → Below w.heap.size w wy → ∃ b off, a = some ⟨b, off, none⟩ ∧ wy.cell? ⟨b, off + j * 9, none⟩ = some (.string u.n)) := fun j u wy hu hb => by
    rcases hcl with h | ⟨b, off, ea, h⟩
    · rw [h] at hu; cases hu
    · obtain ⟨c, ⟨⟨vf, vc, vw, rfl, _⟩, _⟩, hcell⟩ := h j u hu
      exact ⟨b, off, ea, keep_below hb _ _ (by have := hcell 0 (.string u.n) rfl; rw [Nat.add_zero] at this; exact this)⟩
  clear hn hcl hS
  go_enter Tryz.func8, Tryz.ntmps8
  by_cases h64 : 64 < l.length
  · as_aux_lemma =>
    have g0 : (64 : Int) < (l.length : Int) := by omega
    have HR := hide (chk_many h64)
    clear h64
    go_wp2_with fail
    go_ret2
    exact ⟨by rw [HR.out] <;> rfl, Below.refl _ _⟩
  have g0 : ¬ (64 : Int) < (l.length : Int) := by omega
  have H64 : Hid (¬ 64 < l.length) := h64
  clear h64
  go_wp2_with fail
  clear g0
  go_loopw [4] (fun vi wx => ∃ (i : Nat), i ≤ l.length ∧ vi = .int .i64 (i : Nat) ∧ Hid (Below w.heap.size w wx) ∧ Hid (∀ j u, j < i → l[j]? = some u → aln l j u = 0)) (fun vi _ => l.length - (intOf vi).toNat)
  case atStart => exact ⟨0, by omega, rfl, Below.refl _ _, fun j _ hj => absurd hj (by omega)⟩
  case round =>
    obtain ⟨i, hi, rfl, HBz1, HN⟩ := hrel
    by_cases hlt : i < l.length
    · have g1 : (i : Int) < (l.length : Int) := by omega
      obtain ⟨t, ht⟩ : ∃ t, l[i]? = some t := ⟨l[i], List.getElem?_eq_getElem hlt⟩
      have HA := hide (alone11_any wr _ l (TSl.mv HV.out (keep_below HBz1.out)) HSH.out i t ht)
      by_cases h0 : aln l i t = 0
      · as_aux_lemma =>
        have HN2 : Hid (∀ j u, j < i + 1 → l[j]? = some u → aln l j u = 0) := fun j u hj hu => by
          by_cases e : j = i
          · subst e
            rw [ht] at hu
            rw [← Option.some.inj hu]
            exact h0
          · exact HN.out j u (by omega) hu
        rw [h0] at HA
        clear h0 ht HN
        go_wp2_with (go_at_call 22; refine HA.out.mono ?_; rintro e w2 ⟨rfl, hb2⟩)
        have HB2 : Hid (Below w.heap.size w w2) := HBz1.out.trans (hb2.mono HBz1.out.size)
        clear hb2 HBz1
        go_roundw
        case rel => exact ⟨i + 1, by omega, by go_num, HB2, HN2⟩
        case measure => simp [intOf]; omega
      · as_aux_lemma =>
        have HR := hide (chk_hit H64.out (k := 0) (by omega) ht h0 (fun k' _ _ hk => absurd hk (by omega)) HN.out)
        have HR2 : Hid (chk11 l = (aln l i t, i)) := HR.out
        obtain ⟨E, hE⟩ : ∃ E, aln l i t = E := ⟨_, rfl⟩
        rw [hE] at HA HR2 h0
        have gE : ((E : Int) != 0) = true := by rw [bne_iff_ne]; omega
        clear h0 ht HN hE HR
        go_wp2_with (go_at_call 22; refine HA.out.mono ?_; rintro e w2 ⟨rfl, hb2⟩)
        go_ret2
        exact ⟨by rw [HR2.out] <;> rfl, HBz1.out.trans (hb2.mono HBz1.out.size)⟩
    · have g1 : ¬ (i : Int) < (l.length : Int) := by omega
      have HAL : Hid (∀ j u, l[j]? = some u → aln l j u = 0) := fun j u hu => HN.out j u (by have := (List.getElem?_eq_some_iff.1 hu).1; omega) hu
      have HF := hide (aln_fst HAL.out)
      clear HN
      go_wp2_with fail
      go_loopw [6] (fun vi wx => ∃ (m : Nat), m ≤ l.length ∧ vi = .int .i64 (m : Nat) ∧ Hid (Below w.heap.size w wx) ∧ Hid (∀ j u, j < m → l[j]? = some u → rng l u = 0)) (fun vi _ => l.length - (intOf vi).toNat)
      case atStart => exact ⟨0, by omega, rfl, HBz1, fun j _ hj => absurd hj (by omega)⟩
      case round =>
        rename World => wq
        obtain ⟨m, hm, rfl, HB3, HN⟩ := hrel
        clear HBz1
        by_cases hlt2 : m < l.length
        · have g2 : (m : Int) < (l.length : Int) := by omega
          obtain ⟨t, ht⟩ : ∃ t, l[m]? = some t := ⟨l[m], List.getElem?_eq_getElem hlt2⟩
          obtain ⟨b, off, rfl, qn⟩ := HNM.out m t wq ht HB3.out
          have HFO := hide (follow11_any wq _ l (TSl.mv HV.out (keep_below HB3.out)) t.n)
          have HRG := hide (rng_flr HF.out ht)
          obtain ⟨z, hz⟩ : ∃ z, (flr l t.n).2.2 = z := ⟨_, rfl⟩
          rw [hz] at HFO HRG
          clear hz
          cases z with
          | true => as_aux_lemma =>
            have HN2 : Hid (∀ j u, j < m + 1 → l[j]? = some u → rng l u = 0) := fun j u hj hu => by
              by_cases e : j = m
              · subst e
                rw [ht] at hu
                rw [← Option.some.inj hu]
                exact HRG.out
              · exact HN.out j u (by omega) hu
            clear ht HN HRG
            go_wp2_with (go_at_call 23; refine HFO.out.mono ?_; rintro e w2 ⟨rfl, hwq⟩; have hwq := hwq.symm; subst hwq)
            go_roundw
            case rel => exact ⟨m + 1, by omega, by go_num, HB3, HN2⟩
            case measure => simp [intOf]; omega
          | false => as_aux_lemma =>
            have h1 : rng l t = 117 := HRG.out
            have HR : Hid (chk11 l = (117, m)) := by
              have h := chk_hit H64.out (k := 1) (by omega) ht (show rng l t ≠ 0 by rw [h1]; decide) (fun k' j u hk hu => by
                have e : k' = 0 := by omega
                subst e
                exact HAL.out j u hu) HN.out
              show _ = _
              rw [h]
              show (rng l t, m) = _
              rw [h1]
            clear ht HN HRG h1
            go_wp2_with (go_at_call 23; refine HFO.out.mono ?_; rintro e w2 ⟨rfl, hwq⟩; have hwq := hwq.symm; subst hwq)
            go_ret2
            exact ⟨by rw [HR.out] <;> rfl, HB3.out⟩
        · have g2 : ¬ (m : Int) < (l.length : Int) := by omega
          have HRL : Hid (∀ j u, l[j]? = some u → rng l u = 0) := fun j u hu => HN.out j u (by have := (List.getElem?_eq_some_iff.1 hu).1; omega) hu
          have HEN : Hid (Ends l) := ends_of (fun j u hu => by
            have h1 := HRL.out j u hu
            rw [rng_flr HF.out hu] at h1
            cases hz : (flr l u.n).2.2 with
            | true => rfl
            | false => rw [hz] at h1; exact absurd h1 (by decide))
          clear HN
          go_wp2_with fail
          go_loopw [10] (fun vi wx => ∃ (n : Nat), n ≤ l.length ∧ vi = .int .i64 (n : Nat) ∧ Hid (Below w.heap.size w wx) ∧ Hid (∀ j u, j < n → l[j]? = some u → tgt l u = 0)) (fun vi _ => l.length - (intOf vi).toNat)
          case atStart => exact ⟨0, by omega, rfl, HB3, fun j _ hj => absurd hj (by omega)⟩
          case round =>
            rename World => ws
            obtain ⟨n, hnl, rfl, HB4, HN⟩ := hrel
            clear HB3
            by_cases hlt3 : n < l.length
            · have g3 : (n : Int) < (l.length : Int) := by omega
              obtain ⟨t, ht⟩ : ∃ t, l[n]? = some t := ⟨l[n], List.getElem?_eq_getElem hlt3⟩
              have HA := hide (together11_any ws _ l (TSl.mv HV.out (keep_below HB4.out)) HSH.out HF.out HEN.out n t ht)
              by_cases h0 : tgt l t = 0
              · as_aux_lemma =>
                have HN2 : Hid (∀ j u, j < n + 1 → l[j]? = some u → tgt l u = 0) := fun j u hj hu => by
                  by_cases e : j = n
                  · subst e
                    rw [ht] at hu
                    rw [← Option.some.inj hu]
                    exact h0
                  · exact HN.out j u (by omega) hu
                rw [h0] at HA
                clear h0 ht HN
                go_wp2_with (go_at_call 24; refine HA.out.mono ?_; rintro e w2 ⟨rfl, hb2⟩)
                have HB2 : Hid (Below w.heap.size w w2) := HB4.out.trans (hb2.mono HB4.out.size)
                clear hb2 HB4
                go_roundw
                case rel => exact ⟨n + 1, by omega, by go_num, HB2, HN2⟩
                case measure => simp [intOf]; omega
              · as_aux_lemma =>
                have HR : Hid (chk11 l = (tgt l t, n)) := chk_hit H64.out (k := 2) (by omega) ht h0 (fun k' j u hk hu => by
                  rcases (show k' = 0 ∨ k' = 1 by omega) with rfl | rfl
                  · exact HAL.out j u hu
                  · exact HRL.out j u hu) HN.out
                obtain ⟨E, hE⟩ : ∃ E, tgt l t = E := ⟨_, rfl⟩
                rw [hE] at HA HR h0
                have gE : ((E : Int) != 0) = true := by rw [bne_iff_ne]; omega
                clear h0 ht HN hE
                go_wp2_with (go_at_call 24; refine HA.out.mono ?_; rintro e w2 ⟨rfl, hb2⟩)
                go_ret2
                exact ⟨by rw [HR.out] <;> rfl, HB4.out.trans (hb2.mono HB4.out.size)⟩
            · as_aux_lemma =>
              have g3 : ¬ (n : Int) < (l.length : Int) := by omega
              have HTL : Hid (∀ j u, l[j]? = some u → tgt l u = 0) := fun j u hu => HN.out j u (by have := (List.getElem?_eq_some_iff.1 hu).1; omega) hu
              have HR := hide (chk_ok H64.out (fun k' j u hk hu => by
                rcases (show k' = 0 ∨ k' = 1 ∨ k' = 2 by omega) with rfl | rfl | rfl
                · exact HAL.out j u hu
                · exact HRL.out j u hu
                · exact HTL.out j u hu))
              clear HN
              go_wp2_with fail
              go_ret2
              exact ⟨by rw [HR.out] <;> rfl, HB4.out⟩
end
section
open Go.RowKit Go
theorem Lts.cell {w : World} {base g cap : Nat} {ks : List ByteArray} (h : w.ownsRow base 9 1 (.slice (some ⟨g, 0, none⟩) (ks.length + 9) cap) (ks.length + 9) (sv (ks ++ List.replicate 9 mk9))) : (∀ j s, ks[j]? = some s → w.cell? ⟨g, j, none⟩ = some (.string s)) ∧ (∀ j, j < 9 → w.cell? ⟨g, ks.length + j, none⟩ = some (.string mk9)) ∧ ks.length + 9 ≤ cap := by
  refine ⟨fun j s hj => ?_, fun j hj => ?_, ?_⟩
  · refine (own_cell h (sv_get ?_)).1
    rw [List.getElem?_append_left (List.getElem?_eq_some_iff.1 hj).1]
    exact hj
  · refine (own_cell h (sv_get ?_)).1
    rw [List.getElem?_append_right (by omega), Nat.add_sub_cancel_left, List.getElem?_replicate_of_lt hj]
  · rcases h.2 with ⟨hv, _⟩ | ⟨g', cap', cur, hv, _, _, h1, _⟩
    · cases hv
    · injection hv with _ _ e
      subst e
      exact h1
theorem str_ne (s : ByteArray) : (s.toList != s.toList) = false := by simp
set_option maxRecDepth 1000000 in
set_option maxHeartbeats 400000 in
theorem backTexts_any {w : World} {base : Nat} {v : Value} {ks : List ByteArray} (h : Lts w base v ks) (u : Value) (hu : SSl w u ks) :
    Calls Tryz.prog 58 #[v, u] w fun e w' => e = .returned (.bool true) ∧ Below w.heap.size w w' := by
  obtain ⟨⟨g, cap, rfl, ho⟩, hlen, _⟩ := h
  obtain ⟨hc1, hc2, hcap⟩ := Lts.cell ho
  have HC1 := hide hc1
  have HC2 := hide hc2
  obtain ⟨⟨au, cu, rfl, _, hf⟩, _, _⟩ := hu
  have HF := hide hf
  have hcap2 : (ks.length : Int) + 9 ≤ (cap : Int) := by omega
  clear ho hc1 hc2 hf hcap
  go_enter Tryz.func58, Tryz.ntmps58
  go_wp2_with fail
  go_loopw [5] (fun ii wx => ∃ i : Nat, i ≤ ks.length ∧ ii = .int .i64 (i : Nat) ∧ Hid (Below w.heap.size w wx)) (fun ii _ => ks.length - (intOf ii).toNat)
  case atStart => exact ⟨0, by omega, rfl, Below.refl _ _⟩
  case round =>
    obtain ⟨i, hi, rfl, HBw⟩ := hrel
    by_cases hlt : i < ks.length
    · as_aux_lemma =>
      have g1 : (i : Int) < (ks.length : Int) := by omega
      obtain ⟨s, hs⟩ : ∃ s, ks[i]? = some s := ⟨ks[i], List.getElem?_eq_getElem hlt⟩
      obtain ⟨b, off, rfl, hcc⟩ := HF.out.resolve_left (fun h => by rw [h] at hlt; simp at hlt)
      have c1 := keep_below HBw.out _ _ (HC1.out i s hs)
      have c2 := keep_below HBw.out _ _ (hcc i s hs)
      have hne := str_ne s
      clear hcc hs
      go_wp2_with fail
      go_region
      go_wp2_with fail
      have HB2 : Hid (Below w.heap.size w wr.drew) := HBw.out.drew
      go_roundw
      case rel => exact ⟨i + 1, by omega, by go_num, HB2⟩
      case measure => simp [intOf]; omega
    · have g1 : ¬ (i : Int) < (ks.length : Int) := by omega
      go_wp2_with fail
      go_loopw [7] (fun ii wx => ∃ j : Nat, j ≤ 9 ∧ ii = .int .i64 ((ks.length + j : Nat) : Int) ∧ Hid (Below w.heap.size w wx)) (fun ii _ => ks.length + 9 - (intOf ii).toNat)
      case atStart => exact ⟨0, by omega, by simp, HBw⟩
      case round => as_aux_lemma =>
        rename World => wz
        obtain ⟨j, hj, rfl, HBz⟩ := hrel
        clear HBw
        by_cases hlt2 : j < 9
        · have g2 : ((ks.length + j : Nat) : Int) < (ks.length : Int) + 9 := by omega
          have g3 : (0 : Int) ≤ ((ks.length + j : Nat) : Int) := by omega
          have c1 := keep_below HBz.out _ _ (HC2.out j hlt2)
          have hne := str_ne mk9
          unfold mk9 at c1 hne
          have hkj : ks.length + j + 1 = ks.length + (j + 1) := by omega
          have hm : ks.length + j ≤ 100009 := by omega
          have HK : Hid (∀ x, x = ks.length + j → x + 1 = ks.length + (j + 1)) := fun x e => by rw [e]; exact hkj
          have HLM : Hid (ks.length + j < ks.length + 9) := by show _ < _; omega
          go_wp2_with fail
          go_roundw
          case rel => exact ⟨j + 1, by omega, by go_num, HBz⟩
          case measure => simp [intOf]; omega
        · have g2 : ¬ ((ks.length + j : Nat) : Int) < (ks.length : Int) + 9 := by omega
          go_wp2_with fail
          go_ret
          exact ⟨rfl, HBz.out⟩
end
section
open Go.RowKit

end
section
open Go.RowKit Go
set_option maxRecDepth 1000000 in
set_option maxHeartbeats 1000000 in
/-- OverTexts: a row of texts is written over. -/
theorem overTexts_any {w : World} {base g cap m n : Nat} {xs : List Value} (h : w.ownsRow base 9 1 (.slice (some ⟨g, 0, none⟩) m cap) m xs) (hn : n ≤ m) (hm : m ≤ 1000000) :
    Calls Tryz.prog 64 #[.slice (some ⟨g, 0, none⟩) n cap] w fun e w' => e = .returned (.tuple #[]) ∧ Kp (fun k => k = g) w w' := by
  have HH := hide h
  have HN := hide hn
  clear h
  go_enter Tryz.func64, Tryz.ntmps64
  go_wp2_with fail
  go_loopw [2] (fun i wr => ∃ k : Nat, k ≤ n ∧ i = .int .i64 k ∧ Hid (∃ ys, wr.ownsRow base 9 1 (.slice (some ⟨g, 0, none⟩) m cap) m ys ∧ Kp (fun q => q = g) w wr)) (fun i _ => n - (intOf i).toNat)
  case atStart => exact ⟨0, Nat.zero_le _, rfl, xs, HH.out, Kp.refl _ _⟩
  case round =>
    rename World => wr
    obtain ⟨k, hk, rfl, HR⟩ := hrel
    obtain ⟨ys, hown, hkp⟩ := HR.out
    have HO := hide hown
    have HK := hide hkp
    have hyl : ys.length = m := by have := hown.1; omega
    clear hown hkp HR
    by_cases hlt : k < n
    · have hlt' : (k : Int) < (n : Int) := by omega
      obtain ⟨y, hy⟩ : ∃ y, ys[k]? = some y := ⟨_, List.getElem?_eq_getElem (show k < ys.length by have := HN.out; omega)⟩
      obtain ⟨cg, fg⟩ := own_cell HO.out hy
      have HR2 : Hid (∃ zs, (wr.setCell ⟨g, k, none⟩ (.string ⟨#[111, 118, 101, 114]⟩)).ownsRow base 9 1 (.slice (some ⟨g, 0, none⟩) m cap) m zs ∧ Kp (fun q => q = g) w (wr.setCell ⟨g, k, none⟩ (.string ⟨#[111, 118, 101, 114]⟩))) := ⟨_, own_set _ HO.out, HK.out.setCell _ _ (fun _ => rfl)⟩
      clear hyl hy
      go_wp2_with fail
      go_roundw
      case rel => exact ⟨k + 1, by omega, by go_num, HR2⟩
      case measure => simp [intOf]; omega
    · have hlt' : ¬ (k : Int) < (n : Int) := by omega
      go_wp2_with fail
      go_end0
      exact ⟨rfl, HK.out⟩
end
section
open Go.RowKit Go
/-! ### Rows of structs, lent -/
theorem gfl_cells2 {w : World} {k b off : Nat} (hk : 0 < k) {L : List (Array Value)} (hl : ∀ c ∈ L, c.size = k) (h : ∀ (i : Nat) (c : Array Value), L[i]? = some c → ∀ j u, c[j]? = some u → w.cell? ⟨b, off + i * k + j, none⟩ = some u) : ∀ (j : Nat) (u : Value), (gfl L)[j]? = some u → w.cell? ⟨b, off + j, none⟩ = some u := fun j u hu => by
  have hj := (List.getElem?_eq_some_iff.1 hu).1
  rw [gfl_len hl] at hj
  have hi : j / k < L.length := (Nat.div_lt_iff_lt_mul hk).2 hj
  have hL : L[j / k]? = some L[j / k] := List.getElem?_eq_getElem hi
  have hs := hl _ (List.getElem_mem hi)
  have hr : j % k < (L[j / k]).size := by rw [hs]; exact Nat.mod_lt _ hk
  have hc : (L[j / k])[j % k]? = some (L[j / k])[j % k] := Array.getElem?_eq_getElem hr
  have hg := gfl_get hl _ _ _ _ hL hc
  have e : j / k * k + j % k = j := by rw [Nat.mul_comm]; exact Nat.div_add_mod j k
  rw [e, hu] at hg
  have h2 := h _ _ hL _ _ hc
  rw [Nat.add_assoc, e] at h2
  rw [Option.some.inj hg]
  exact h2
/-- append of a whole row behind another. -/
theorem append_gs {ops : Array Oper} {rest : List Oper} {o : Oper} {a : Act} {Q : Exit → Act → World → Prop} {w : World} {S T : TypeId} {z : Value} {k by' : Nat} (hI : (Tryz.prog.info? T).map (fun i => (i.zero, i.size, i.bytes)) = some (some z, k, by')) (hS : Tryz.prog.underlying S = some (.slice T)) (hzs : z.cells.size = k) (hk : 0 < k) (hby : by' ≤ 1000) (hgd : o.guard = none) {s x : Operand}
    (ho : o.op = .call { callee := .builtin .append, args := #[s, x], argTypes := #[S, S] }) {B : Nat} {v : Value} {L M : List (Array Value)} {ad : Option Addr} {c : Nat} (hs : a.eval s = v) (hown : w.ownsRow B T k v L.length (gfl L)) (hx : a.eval x = .slice ad M.length c) (hl : ∀ c ∈ M, c.size = k) (h1 : ∀ u ∈ gfl M, u.oneCell' = true) (hlen : L.length + M.length ≤ 1000000) (hc0 : ad = none → c = 0)
    (hc : M = [] ∨ ∃ b off, ad = some ⟨b, off, none⟩ ∧ ∀ (i : Nat) (d : Array Value), M[i]? = some d → ∀ j u, d[j]? = some u → w.cell? ⟨b, off + i * k + j, none⟩ = some u) (hbase : B ≤ w.heap.size)
    (h : ∀ v' w', w'.ownsRow B T k v' (L.length + M.length) (gfl (L ++ M)) → w.grownBy w' v.ownBlock → wpList Tryz.prog ops Q rest (a.put o.dst v') w') : wpList Tryz.prog ops Q (o :: rest) a w := by
  obtain ⟨i, hi, hz0, hz1, hz2⟩ := info_ex hI
  have hb : (L.length + M.length) * by' ≤ 140737488355328 := by
    have : (L.length + M.length) * by' ≤ 1000000 * 1000 := Nat.mul_le_mul (by omega) hby
    omega
  cases ad with
  | none =>
    have h0 : M = [] := hc.resolve_right (fun ⟨_, _, e, _⟩ => by cases e)
    subst h0
    have e0 := hc0 rfl
    subst e0
    refine wpList_append_own_none hgd s x S ho B T i k hS hi v L.length (gfl L) hs hown hx (h v w ?_ ⟨rfl, rfl, rfl, Nat.le_refl _, fun _ _ _ => rfl⟩)
    simpa using hown
  | some ad =>
    have hnews : ∀ j u, (gfl M)[j]? = some u → w.cell? (ad.add j) = some u := fun j u hu => by
      rcases hc with e | ⟨b, off, e, hc⟩
      · rw [e] at hu; cases hu
      · have e' := Option.some.inj e
        subst e'
        rw [addrO]
        exact gfl_cells2 hk hl hc j u hu
    exact wpList_append_own_at w hgd s x S ho B T i z k by' hS hi hz0 hz1 hz2 hzs hk v L.length (gfl L) hs hown ad M.length c (gfl M) hx (gfl_len hl) hnews h1 (by unfold maxLen; omega) hb hbase fun v' w' h2 h3 _ _ => h v' w' (by rw [gfl_app]; exact h2) h3
/-- A row of structs lent: nine marks stand behind it. -/
structure Lgs (T k : Nat) (mk : Array Value) (w : World) (base : Nat) (v : Value) (L : List (Array Value)) : Prop where
  own : ∃ g cap, v = .slice (some ⟨g, 0, none⟩) L.length cap ∧ w.ownsRow base T k (.slice (some ⟨g, 0, none⟩) (L.length + 9) cap) (L.length + 9) (gfl (L ++ List.replicate 9 mk))
  siz : ∀ c ∈ L, c.size = k
  mks : mk.size = k
theorem Lgs.next {T k : Nat} {mk : Array Value} {w w' : World} {base : Nat} {v : Value} {L : List (Array Value)} (h : Lgs T k mk w base v L) (hb : Below w.heap.size w w') : Lgs T k mk w' base v L := by
  obtain ⟨⟨g, cap, hv, ho⟩, h1, h2⟩ := h
  exact ⟨⟨g, cap, hv, (Kp.of_below (S := fun _ => False) hb).owns ho (fun _ _ hf => hf)⟩, h1, h2⟩
theorem Lgs.all {T k : Nat} {mk : Array Value} {w : World} {base : Nat} {v : Value} {L : List (Array Value)} (h : Lgs T k mk w base v L) : ∀ c ∈ L ++ List.replicate 9 mk, c.size = k := fun c hc => by
  rcases List.mem_append.1 hc with hc | hc
  · exact h.siz c hc
  · rw [List.eq_of_mem_replicate hc]
    exact h.mks
/-- One struct of a row is written over. -/
theorem gfl_set {k : Nat} : ∀ {L : List (Array Value)}, (∀ c ∈ L, c.size = k) → ∀ (j : Nat) (c' : Array Value), j < L.length → c'.size = k → ∀ (X : List Value), (splice (gfl L ++ X) (j * k) c'.toList).take (L.length * k) = gfl (L.set j c')
  | [], _, j, _, h, _, _ => by simp at h
  | c :: r, hL, 0, c', _, hc, X => by
    have h1 : c.size = k := hL c (List.mem_cons_self ..)
    have e1 : gfl (c :: r) = c.toList ++ gfl r := by simp [gfl]
    have e2 : gfl ((c :: r).set 0 c') = c'.toList ++ gfl r := by simp [gfl]
    have h2 := gfl_len (l := r) (fun d hd => hL d (List.mem_cons_of_mem _ hd))
    rw [e1, e2]
    unfold splice
    have l1 : c.toList.length = k := by simpa using h1
    have l2 : c'.toList.length = k := by simpa using hc
    rw [Nat.zero_mul, List.take_zero, List.nil_append, Nat.zero_add, l2, List.append_assoc, List.drop_append_of_le_length (by omega), List.drop_of_length_le (by omega), List.nil_append, List.length_cons, List.take_append, l2, Nat.succ_mul, List.take_of_length_le (by omega)]
    congr 1
    rw [show r.length * k + k - k = (gfl r).length by omega, List.take_append_of_le_length (by omega), List.take_length]
  | c :: r, hL, j + 1, c', hj, hc, X => by
    have h1 : c.size = k := hL c (List.mem_cons_self ..)
    have ih := gfl_set (L := r) (fun d hd => hL d (List.mem_cons_of_mem _ hd)) j c' (by simpa using hj) hc X
    have e1 : gfl (c :: r) = c.toList ++ gfl r := by simp [gfl]
    have e2 : gfl ((c :: r).set (j + 1) c') = c.toList ++ gfl (r.set j c') := by simp [gfl]
    have l1 : c.toList.length = k := by simpa using h1
    have hsp : splice (c.toList ++ (gfl r ++ X)) ((j + 1) * k) c'.toList = c.toList ++ splice (gfl r ++ X) (j * k) c'.toList := by
      have hk : (j + 1) * k = c.toList.length + j * k := by rw [Nat.succ_mul]; omega
      unfold splice
      rw [hk, List.take_length_add_append, Nat.add_assoc, List.drop_length_add_append, List.append_assoc]
    rw [e1, e2, ← ih, List.append_assoc, hsp]
    have hk2 : (c :: r).length * k = c.toList.length + r.length * k := by rw [List.length_cons, Nat.succ_mul]; omega
    rw [hk2, List.take_length_add_append]
theorem own_partG {w w' : World} {B T k g n cap : Nat} {L : List (Array Value)} {cur : Array Value} {j : Nat} {c' : Array Value} (h : w.ownsRow B T k (.slice (some ⟨g, 0, none⟩) n cap) n (gfl L)) (hL : L.length = n) (hsz : ∀ c ∈ L, c.size = k) (hg : w.heap[g]? = some (.cells cur T (0, 0))) (hj : j < n) (hc : c'.size = k)
    (hw : w'.heap[g]? = some (.cells (splice cur.toList (j * k) c'.toList).toArray T (0, 0))) : w'.ownsRow B T k (.slice (some ⟨g, 0, none⟩) n cap) n (gfl (L.set j c')) := by
  rcases h.2 with ⟨hv, _⟩ | ⟨g', cap', cur', hv, hb, hg', h1, h2, h3, h4⟩
  · cases hv
  injection hv with e1 e2 e3
  injection e1 with e1
  injection e1 with e1 _ _
  subst e1
  subst e3
  rw [hg'] at hg
  injection hg with hg
  injection hg with hg _ _
  subst hg
  have hlk := gfl_len hsz
  have hlc : cur'.toList.length = cap * k := by simpa using h3
  have hcl : c'.toList.length = k := by simpa using hc
  have hs2 : ∀ c ∈ L.set j c', c.size = k := fun d hd => by
    rcases List.mem_or_eq_of_mem_set hd with e | e
    · exact hsz d e
    · rw [e]; exact hc
  have hjk : j * k + k ≤ cap * k := by
    rw [← Nat.succ_mul]
    exact Nat.mul_le_mul_right k (by omega)
  refine ⟨by rw [gfl_len hs2, List.length_set, hL], .inr ⟨g, cap, _, rfl, hb, hw, h1, h2, ?_, ?_⟩⟩
  · rw [List.size_toArray, length_splice _ _ _ (by omega), hlc]
  · have e : cur'.toList = gfl L ++ cur'.toList.drop (n * k) := by
      conv => lhs; rw [← List.take_append_drop (n * k) cur'.toList, h4]
    rw [e, List.toList_toArray]
    have := gfl_set hsz j c' (by omega) hc (cur'.toList.drop (n * k))
    rw [hL] at this
    exact this
/-- The block of an owned row. -/
theorem own_cur {w : World} {B T k g n cap : Nat} {xs : List Value} (h : w.ownsRow B T k (.slice (some ⟨g, 0, none⟩) n cap) n xs) : ∃ cur, w.heap[g]? = some (.cells cur T (0, 0)) ∧ n * k ≤ cur.size := by
  rcases h.2 with ⟨e, _⟩ | ⟨g', cap', cur, e, _, h1, h2, _, h3, _⟩
  · cases e
  · injection e with e1 e2 e3
    injection e1 with e1
    injection e1 with e1 _ _
    subst e1
    exact ⟨cur, h1, by rw [h3]; exact Nat.mul_le_mul_right k h2⟩
/-- A row of structs as a row of their cells. -/
theorem gsl_row {α : Type} {n : Nat} {P : World → α → Array Value → Prop} {f : α → Array Value} (hP : ∀ w x c, P w x c → c = f x) {w : World} {v : Value} {xs : List α} (h : GSl n P w v xs) : ∃ a cap, v = .slice a (xs.map f).length cap ∧ (a = none → cap = 0) ∧ ((xs.map f) = [] ∨ ∃ b off, a = some ⟨b, off, none⟩ ∧ ∀ (i : Nat) (d : Array Value), (xs.map f)[i]? = some d → ∀ j u, d[j]? = some u → w.cell? ⟨b, off + i * n + j, none⟩ = some u) := by
  obtain ⟨⟨a, cap, hv, hcap, hform⟩, _⟩ := h
  refine ⟨a, cap, by rw [List.length_map]; exact hv, hcap.2, ?_⟩
  rcases hform with h | ⟨b, off, e, h⟩
  · exact .inl (by rw [h]; rfl)
  · refine .inr ⟨b, off, e, fun i d hd j u hu => ?_⟩
    rw [List.getElem?_map] at hd
    cases hx : xs[i]? with
    | none => rw [hx] at hd; cases hd
    | some x =>
      rw [hx] at hd
      injection hd with hd
      subst hd
      obtain ⟨c, hcx, hcell⟩ := h i x hx
      rw [hP _ _ _ hcx] at hcell
      exact hcell j u hu
end
section
open Go.RowKit Go
/-! ### LendFields -/
theorem infoF4 : (Tryz.prog.info? 77).map (fun i => (i.zero, i.size, i.bytes)) = some (some (.agg #[.string ⟨#[]⟩, .string ⟨#[]⟩, .string ⟨#[]⟩, .bool false, .bool false]), 5, 64) := by kernel_rfl
def mkF : Array Value := #[.string ⟨#[109, 97, 114, 107]⟩, .string ⟨#[]⟩, .string ⟨#[]⟩, .bool false, .bool false]
theorem mkF_one : ∀ u ∈ mkF.toList, u.oneCell' = true := fun u hu => by
  simp only [mkF, List.mem_cons, List.not_mem_nil, or_false] at hu
  rcases hu with rfl | rfl | rfl | rfl | rfl <;> rfl
theorem fdc_one (x : Fd) : ∀ u ∈ (fdc x).toList, u.oneCell' = true := fun u hu => by
  simp only [fdc, List.mem_cons, List.not_mem_nil, or_false] at hu
  rcases hu with rfl | rfl | rfl | rfl | rfl <;> rfl
set_option maxRecDepth 1000000 in
set_option maxHeartbeats 1000000 in
theorem lendF_row (w : World) (a : Option Addr) (cap : Nat) (L : List (Array Value)) (hl : ∀ c ∈ L, c.size = 5) (h1 : ∀ u ∈ gfl L, u.oneCell' = true) (hlen : L.length ≤ 1000) (hc0 : a = none → cap = 0) (hc : L = [] ∨ ∃ b off, a = some ⟨b, off, none⟩ ∧ ∀ (i : Nat) (d : Array Value), L[i]? = some d → ∀ j u, d[j]? = some u → w.cell? ⟨b, off + i * 5 + j, none⟩ = some u) :
    Calls Tryz.prog 33 #[.slice a L.length cap] w fun e w' => ∃ v', e = .returned v' ∧ Lgs 77 5 mkF w' w.heap.size v' L ∧ Below w.heap.size w w' := by
  obtain ⟨i9, hi, hz0, hz1, hz2⟩ := info_ex infoF4
  have HL := hide hl
  have H1 := hide h1
  have HC0 := hide hc0
  obtain ⟨w0, hmk, hown0, hgr0⟩ := run_make_own (P := Tryz.prog) w w.heap.size 41 77 i9 (.agg #[.string ⟨#[]⟩, .string ⟨#[]⟩, .string ⟨#[]⟩, .bool false, .bool false]) 5 Tryz.underlying41 hi hz0 hz1 .i64 .i64 (L.length + 9) (by rw [hz2]; omega) (by unfold maxLen; omega) (Nat.le_refl _)
  have ec : ((L.length + 9 : Nat) : Int) = (L.length : Int) + 9 := by omega
  rw [ec] at hmk
  clear ec hi hz0 hz1 hz2
  have hbel0 : Below w.heap.size w w0 := (Below.refl _ _).grown hgr0 (Nat.le_refl _) (fun _ h => by cases h)
  have HC : Hid (L = [] ∨ ∃ b off, a = some ⟨b, off, none⟩ ∧ ∀ (i : Nat) (d : Array Value), L[i]? = some d → ∀ j u, d[j]? = some u → w0.cell? ⟨b, off + i * 5 + j, none⟩ = some u) := by
    rcases hc with h | ⟨b, off, e, h⟩
    · exact .inl h
    · exact .inr ⟨b, off, e, fun i d hd j u hu => keep_below hbel0 _ _ (h i d hd j u hu)⟩
  generalize hB : w.heap.size = B at *
  have HBe := hide hB
  clear hB hgr0 hc hl h1 hc0
  have HO0 : Hid (w0.ownsRow B 77 5 _ ([] : List (Array Value)).length (gfl [])) := hown0
  clear hown0
  have HBL0 := hide hbel0
  clear hbel0
  go_enter Tryz.func33, Tryz.ntmps33
  go_wp2_with (at_builtin; refine append_gs infoF4 Tryz.underlying41 rfl (by decide) (by decide) rfl rfl (L := []) (M := L) rfl HO0.out rfl HL.out H1.out ?b1 HC0.out HC.out ?b2 ?_)
  case b1 => simp; omega
  case b2 => have := HBL0.out.size; have := HBe.out; omega
  intro v1 w1 hown1 hgr1
  have hbel1 : Below B w w1 := HBL0.out.grown hgr1 (by have := HBL0.out.size; have := HBe.out; omega) (fun q hq => (HO0.out.lt q hq).1)
  have HO1 : Hid (w1.ownsRow B 77 5 v1 (L ++ List.replicate 0 mkF).length (gfl (L ++ List.replicate 0 mkF))) := by
    show World.ownsRow _ _ _ _ _ _ _
    rw [List.replicate_zero, List.append_nil]
    simpa using hown1
  clear hgr1 HO0 HBL0 hmk HC hown1
  have HBL1 := hide hbel1
  clear hbel1
  obtain ⟨a1, n1, c1, rfl⟩ : ∃ a n c, v1 = .slice a n c := by obtain ⟨a, c, h, _⟩ := own_formG HO1.out; exact ⟨a, _, c, h⟩
  go_wp2_with fail
  go_loopw [3, 4] (fun v i wr => ∃ (k : Nat) (a0 : Option Addr) (n0 c0 : Nat), k ≤ 9 ∧ v = .slice a0 n0 c0 ∧ i = .int .i64 k ∧ Hid (wr.ownsRow B 77 5 (.slice a0 n0 c0) (L ++ List.replicate k mkF).length (gfl (L ++ List.replicate k mkF))) ∧ Hid (Below B w wr)) (fun _ i _ => 9 - (intOf i).toNat)
  case atStart => exact ⟨0, _, _, _, by omega, rfl, rfl, HO1, HBL1⟩
  case round =>
    obtain ⟨k, a0, n0, c0, hk, rfl, rfl, HO, HBL⟩ := hrel
    clear HO1 HBL1
    by_cases hlt : k < 9
    · as_aux_lemma =>
      have hlt' : (k : Int) < 9 := by omega
      have HR : Hid ((L ++ List.replicate k mkF) ++ [mkF] = L ++ List.replicate (k + 1) mkF) := by show _ = _; rw [List.replicate_succ', List.append_assoc]
      have HOA := hide (HO.out.alloc (.cells mkF 77))
      have HBA : Hid (B ≤ (wr.alloc (.cells mkF 77)).heap.size) := by show _ ≤ _; have h1 := HBL.out.size; have h2 := HBe.out; simp; omega
      have HLN : Hid ((L ++ List.replicate k mkF).length ≤ 1000000) := by show _ ≤ _; simp; omega
      have HBB : Hid (∀ w' : World, (wr.alloc (.cells mkF 77)).grownBy w' (Value.slice a0 n0 c0).ownBlock → Below B w w') := fun w' hg => (HBL.out.alloc (by have := HBL.out.size; have := HBe.out; omega) _).grown hg HBA.out (fun q hq => (HO.out.lt q hq).1)
      have HAP : Hid (∀ (ops : Array Oper) (rest : List Oper) (o : Oper) (ac : Act) (Q : Exit → Act → World → Prop) (s y : Operand), o.guard = none → o.op = .call { callee := .builtin .append, args := #[s, y], argTypes := #[41, 41] } → ac.eval s = .slice a0 n0 c0 → ac.eval y = .slice (some ⟨wr.heap.size, 0, none⟩) 1 1 → (∀ v' w', w'.ownsRow B 77 5 v' (L ++ List.replicate (k + 1) mkF).length (gfl (L ++ List.replicate (k + 1) mkF)) → Below B w w' → wpList Tryz.prog ops Q rest (ac.put o.dst v') w') → wpList Tryz.prog ops Q (o :: rest) ac (wr.alloc (.cells mkF 77))) := fun ops rest o ac Q s y h1 h2 h3 h4 h5 =>
        append_g infoF4 Tryz.underlying41 rfl (by decide) (by decide) h1 h2 h3 HOA.out h4 (heap_alloc_new wr _) rfl mkF_one HLN.out HBA.out (fun v' w' h6 h7 _ => h5 v' w' (by rw [← HR.out, List.length_append]; exact h6) (HBB.out w' h7))
      clear HOA HBA HLN HBB HO HBL
      go_wp2_with (first
        | (refine row1 infoF4 Tryz.underlying41 (by decide) (by decide) rfl rfl rfl (c := mkF) rfl rfl ?_)
        | (refine HAP.out _ _ _ _ _ _ _ rfl rfl rfl rfl ?_; intro v' w' hr' hb'))
      obtain ⟨a2, n2, c2, rfl⟩ : ∃ a n c, v' = .slice a n c := by obtain ⟨a, c, h, _⟩ := own_formG hr'; exact ⟨a, _, c, h⟩
      have HR' := hide hr'
      have HB' := hide hb'
      clear hr' hb'
      go_wp2_with fail
      go_roundw
      case rel => exact ⟨k + 1, _, _, _, by omega, rfl, by go_num, HR', HB'⟩
      case measure => simp [intOf]; omega
    · as_aux_lemma =>
      have hlt' : ¬ (k : Int) < 9 := by omega
      have hk9 : k = 9 := by omega
      have ho := HO.out
      rw [hk9, List.length_append, List.length_replicate] at ho
      rcases id ho.2 with ⟨_, h0⟩ | ⟨g, cap', cur, hv, -, -, h1, -⟩
      · omega
      injection hv with e1 e2 e3
      subst e1
      subst e2
      subst e3
      have HO2 := hide ho
      have h2' : L.length ≤ c0 := by omega
      clear ho HO hlt h1 cur
      subst hk9
      go_wp2_with fail
      go_ret
      exact ⟨_, rfl, ⟨⟨g, c0, rfl, HO2.out⟩, HL.out, rfl⟩, HBL.out⟩
theorem lendF_any (w : World) (v : Value) (xs : List Fd) (hv : FSl w v xs) (hlen : xs.length ≤ 1000) : Calls Tryz.prog 33 #[v] w fun e w' => ∃ v', e = .returned v' ∧ Lgs 77 5 mkF w' w.heap.size v' (xs.map fdc) ∧ Below w.heap.size w w' := by
  obtain ⟨a, cap, rfl, h0, hc⟩ := gsl_row (f := fdc) (fun _ _ _ h => h.1) hv
  exact lendF_row w a cap _ (fun c hc => by obtain ⟨x, _, rfl⟩ := List.mem_map.1 hc; rfl) (fun u hu => by
    obtain ⟨c, hc, hu⟩ := List.mem_flatMap.1 hu
    obtain ⟨x, _, rfl⟩ := List.mem_map.1 hc
    exact fdc_one x u hu) (by rw [List.length_map]; exact hlen) h0 hc
/-! ### LendCases -/
theorem infoC4 : (Tryz.prog.info? 102).map (fun i => (i.zero, i.size, i.bytes)) = some (some (.agg #[.string ⟨#[]⟩, .string ⟨#[]⟩]), 2, 32) := by kernel_rfl
def mkC : Array Value := #[.string ⟨#[]⟩, .string ⟨#[109, 97, 114, 107]⟩]
theorem mkC_one : ∀ u ∈ mkC.toList, u.oneCell' = true := fun u hu => by
  simp only [mkC, List.mem_cons, List.not_mem_nil, or_false] at hu
  rcases hu with rfl | rfl <;> rfl
theorem czc_one (x : Cz) : ∀ u ∈ (czc x).toList, u.oneCell' = true := fun u hu => by
  simp only [czc, List.mem_cons, List.not_mem_nil, or_false] at hu
  rcases hu with rfl | rfl <;> rfl
set_option maxRecDepth 1000000 in
set_option maxHeartbeats 1000000 in
theorem lendC_row (w : World) (a : Option Addr) (cap : Nat) (L : List (Array Value)) (hl : ∀ c ∈ L, c.size = 2) (h1 : ∀ u ∈ gfl L, u.oneCell' = true) (hlen : L.length ≤ 1000) (hc0 : a = none → cap = 0) (hc : L = [] ∨ ∃ b off, a = some ⟨b, off, none⟩ ∧ ∀ (i : Nat) (d : Array Value), L[i]? = some d → ∀ j u, d[j]? = some u → w.cell? ⟨b, off + i * 2 + j, none⟩ = some u) :
    Calls Tryz.prog 34 #[.slice a L.length cap] w fun e w' => ∃ v', e = .returned v' ∧ Lgs 102 2 mkC w' w.heap.size v' L ∧ Below w.heap.size w w' := by
  obtain ⟨i9, hi, hz0, hz1, hz2⟩ := info_ex infoC4
  have HL := hide hl
  have H1 := hide h1
  have HC0 := hide hc0
  obtain ⟨w0, hmk, hown0, hgr0⟩ := run_make_own (P := Tryz.prog) w w.heap.size 42 102 i9 (.agg #[.string ⟨#[]⟩, .string ⟨#[]⟩]) 2 Tryz.underlying42 hi hz0 hz1 .i64 .i64 (L.length + 9) (by rw [hz2]; omega) (by unfold maxLen; omega) (Nat.le_refl _)
  have ec : ((L.length + 9 : Nat) : Int) = (L.length : Int) + 9 := by omega
  rw [ec] at hmk
  clear ec hi hz0 hz1 hz2
  have hbel0 : Below w.heap.size w w0 := (Below.refl _ _).grown hgr0 (Nat.le_refl _) (fun _ h => by cases h)
  have HC : Hid (L = [] ∨ ∃ b off, a = some ⟨b, off, none⟩ ∧ ∀ (i : Nat) (d : Array Value), L[i]? = some d → ∀ j u, d[j]? = some u → w0.cell? ⟨b, off + i * 2 + j, none⟩ = some u) := by
    rcases hc with h | ⟨b, off, e, h⟩
    · exact .inl h
    · exact .inr ⟨b, off, e, fun i d hd j u hu => keep_below hbel0 _ _ (h i d hd j u hu)⟩
  generalize hB : w.heap.size = B at *
  have HBe := hide hB
  clear hB hgr0 hc hl h1 hc0
  have HO0 : Hid (w0.ownsRow B 102 2 _ ([] : List (Array Value)).length (gfl [])) := hown0
  clear hown0
  have HBL0 := hide hbel0
  clear hbel0
  go_enter Tryz.func34, Tryz.ntmps34
  go_wp2_with (at_builtin; refine append_gs infoC4 Tryz.underlying42 rfl (by decide) (by decide) rfl rfl (L := []) (M := L) rfl HO0.out rfl HL.out H1.out ?b1 HC0.out HC.out ?b2 ?_)
  case b1 => simp; omega
  case b2 => have := HBL0.out.size; have := HBe.out; omega
  intro v1 w1 hown1 hgr1
  have hbel1 : Below B w w1 := HBL0.out.grown hgr1 (by have := HBL0.out.size; have := HBe.out; omega) (fun q hq => (HO0.out.lt q hq).1)
  have HO1 : Hid (w1.ownsRow B 102 2 v1 (L ++ List.replicate 0 mkC).length (gfl (L ++ List.replicate 0 mkC))) := by
    show World.ownsRow _ _ _ _ _ _ _
    rw [List.replicate_zero, List.append_nil]
    simpa using hown1
  clear hgr1 HO0 HBL0 hmk HC hown1
  have HBL1 := hide hbel1
  clear hbel1
  obtain ⟨a1, n1, c1, rfl⟩ : ∃ a n c, v1 = .slice a n c := by obtain ⟨a, c, h, _⟩ := own_formG HO1.out; exact ⟨a, _, c, h⟩
  go_wp2_with fail
  go_loopw [3, 4] (fun v i wr => ∃ (k : Nat) (a0 : Option Addr) (n0 c0 : Nat), k ≤ 9 ∧ v = .slice a0 n0 c0 ∧ i = .int .i64 k ∧ Hid (wr.ownsRow B 102 2 (.slice a0 n0 c0) (L ++ List.replicate k mkC).length (gfl (L ++ List.replicate k mkC))) ∧ Hid (Below B w wr)) (fun _ i _ => 9 - (intOf i).toNat)
  case atStart => exact ⟨0, _, _, _, by omega, rfl, rfl, HO1, HBL1⟩
  case round =>
    obtain ⟨k, a0, n0, c0, hk, rfl, rfl, HO, HBL⟩ := hrel
    clear HO1 HBL1
    by_cases hlt : k < 9
    · as_aux_lemma =>
      have hlt' : (k : Int) < 9 := by omega
      have HR : Hid ((L ++ List.replicate k mkC) ++ [mkC] = L ++ List.replicate (k + 1) mkC) := by show _ = _; rw [List.replicate_succ', List.append_assoc]
      have HOA := hide (HO.out.alloc (.cells mkC 102))
      have HBA : Hid (B ≤ (wr.alloc (.cells mkC 102)).heap.size) := by show _ ≤ _; have h1 := HBL.out.size; have h2 := HBe.out; simp; omega
      have HLN : Hid ((L ++ List.replicate k mkC).length ≤ 1000000) := by show _ ≤ _; simp; omega
      have HBB : Hid (∀ w' : World, (wr.alloc (.cells mkC 102)).grownBy w' (Value.slice a0 n0 c0).ownBlock → Below B w w') := fun w' hg => (HBL.out.alloc (by have := HBL.out.size; have := HBe.out; omega) _).grown hg HBA.out (fun q hq => (HO.out.lt q hq).1)
      have HAP : Hid (∀ (ops : Array Oper) (rest : List Oper) (o : Oper) (ac : Act) (Q : Exit → Act → World → Prop) (s y : Operand), o.guard = none → o.op = .call { callee := .builtin .append, args := #[s, y], argTypes := #[42, 42] } → ac.eval s = .slice a0 n0 c0 → ac.eval y = .slice (some ⟨wr.heap.size, 0, none⟩) 1 1 → (∀ v' w', w'.ownsRow B 102 2 v' (L ++ List.replicate (k + 1) mkC).length (gfl (L ++ List.replicate (k + 1) mkC)) → Below B w w' → wpList Tryz.prog ops Q rest (ac.put o.dst v') w') → wpList Tryz.prog ops Q (o :: rest) ac (wr.alloc (.cells mkC 102))) := fun ops rest o ac Q s y h1 h2 h3 h4 h5 =>
        append_g infoC4 Tryz.underlying42 rfl (by decide) (by decide) h1 h2 h3 HOA.out h4 (heap_alloc_new wr _) rfl mkC_one HLN.out HBA.out (fun v' w' h6 h7 _ => h5 v' w' (by rw [← HR.out, List.length_append]; exact h6) (HBB.out w' h7))
      clear HOA HBA HLN HBB HO HBL
      go_wp2_with (first
        | (refine row1 infoC4 Tryz.underlying42 (by decide) (by decide) rfl rfl rfl (c := mkC) rfl rfl ?_)
        | (refine HAP.out _ _ _ _ _ _ _ rfl rfl rfl rfl ?_; intro v' w' hr' hb'))
      obtain ⟨a2, n2, c2, rfl⟩ : ∃ a n c, v' = .slice a n c := by obtain ⟨a, c, h, _⟩ := own_formG hr'; exact ⟨a, _, c, h⟩
      have HR' := hide hr'
      have HB' := hide hb'
      clear hr' hb'
      go_wp2_with fail
      go_roundw
      case rel => exact ⟨k + 1, _, _, _, by omega, rfl, by go_num, HR', HB'⟩
      case measure => simp [intOf]; omega
    · as_aux_lemma =>
      have hlt' : ¬ (k : Int) < 9 := by omega
      have hk9 : k = 9 := by omega
      have ho := HO.out
      rw [hk9, List.length_append, List.length_replicate] at ho
      rcases id ho.2 with ⟨_, h0⟩ | ⟨g, cap', cur, hv, -, -, h1, -⟩
      · omega
      injection hv with e1 e2 e3
      subst e1
      subst e2
      subst e3
      have HO2 := hide ho
      have h2' : L.length ≤ c0 := by omega
      clear ho HO hlt h1 cur
      subst hk9
      go_wp2_with fail
      go_ret
      exact ⟨_, rfl, ⟨⟨g, c0, rfl, HO2.out⟩, HL.out, rfl⟩, HBL.out⟩
theorem lendC_any (w : World) (v : Value) (xs : List Cz) (hv : CSl w v xs) (hlen : xs.length ≤ 1000) : Calls Tryz.prog 34 #[v] w fun e w' => ∃ v', e = .returned v' ∧ Lgs 102 2 mkC w' w.heap.size v' (xs.map czc) ∧ Below w.heap.size w w' := by
  obtain ⟨a, cap, rfl, h0, hc⟩ := gsl_row (f := czc) (fun _ _ _ h => h.1) hv
  exact lendC_row w a cap _ (fun c hc => by obtain ⟨x, _, rfl⟩ := List.mem_map.1 hc; rfl) (fun u hu => by
    obtain ⟨c, hc, hu⟩ := List.mem_flatMap.1 hu
    obtain ⟨x, _, rfl⟩ := List.mem_map.1 hc
    exact czc_one x u hu) (by rw [List.length_map]; exact hlen) h0 hc
end
section
open Go.RowKit Go
/-! ### OverFields -/
def ovF : Array Value := #[.string ⟨#[111, 118, 101, 114]⟩, .string ⟨#[]⟩, .string ⟨#[]⟩, .bool false, .bool false]
theorem ovF_one : ∀ u ∈ ovF.toList, u.oneCell' = true := fun u hu => by
  simp only [ovF, List.mem_cons, List.not_mem_nil, or_false] at hu
  rcases hu with rfl | rfl | rfl | rfl | rfl <;> rfl
set_option maxRecDepth 1000000 in
set_option maxHeartbeats 1000000 in
theorem overF_any {w : World} {base g cap m n : Nat} {L : List (Array Value)} (h : w.ownsRow base 77 5 (.slice (some ⟨g, 0, none⟩) m cap) m (gfl L)) (hL : L.length = m) (hs : ∀ c ∈ L, c.size = 5) (hn : n ≤ m) (hm : m ≤ 1000000) :
    Calls Tryz.prog 62 #[.slice (some ⟨g, 0, none⟩) n cap] w fun e w' => e = .returned (.tuple #[]) ∧ Kp (fun k => k = g) w w' := by
  have HH := hide h
  have HN := hide hn
  have HL := hide hL
  have HS := hide hs
  clear h hL hs
  go_enter Tryz.func62, Tryz.ntmps62
  go_wp2_with fail
  go_loopw [2] (fun i wr => ∃ k : Nat, k ≤ n ∧ i = .int .i64 k ∧ Hid (∃ L', wr.ownsRow base 77 5 (.slice (some ⟨g, 0, none⟩) m cap) m (gfl L') ∧ L'.length = m ∧ (∀ c ∈ L', c.size = 5) ∧ Kp (fun q => q = g) w wr)) (fun i _ => n - (intOf i).toNat)
  case atStart => exact ⟨0, Nat.zero_le _, rfl, L, HH.out, HL.out, HS.out, Kp.refl _ _⟩
  case round =>
    rename World => wr
    obtain ⟨k, hk, rfl, HR⟩ := hrel
    obtain ⟨L', hown, hl', hs', hkp⟩ := HR.out
    by_cases hlt : k < n
    · have hlt' : (k : Int) < (n : Int) := by omega
      obtain ⟨cur, hcur, hcz⟩ := own_cur hown
      have HNX : Hid (∀ w6 : World, w6.heap[g]? = some (.cells (splice cur.toList (k * 5) ovF.toList).toArray 77 (0, 0)) → Kp (fun q => q = g) wr w6 → ∃ L', w6.ownsRow base 77 5 (.slice (some ⟨g, 0, none⟩) m cap) m (gfl L') ∧ L'.length = m ∧ (∀ c ∈ L', c.size = 5) ∧ Kp (fun q => q = g) w w6) := fun w6 h6 hk6 =>
        ⟨_, own_partG (c' := ovF) (j := k) hown hl' hs' hcur (by have := HN.out; omega) rfl h6, by rw [List.length_set]; exact hl', fun d hd => by
          rcases List.mem_or_eq_of_mem_set hd with e | e
          · exact hs' d e
          · rw [e]; rfl, hkp.trans hk6 (fun _ _ e => e)⟩
      have HC5 : Hid (wr.heap[g]? = some (.cells cur.toList.toArray 77 (0, 0))) := hcur
      have HLT : Hid (k * 5 + 5 ≤ cur.toList.length) := by
        have h1 := HN.out
        have h2 : (k + 1) * 5 ≤ m * 5 := Nat.mul_le_mul_right _ (by omega)
        show _ ≤ _
        rw [Array.length_toList]
        omega
      clear hown hl' hs' hkp hcur hcz HR
      go_wp2_with (refine wpList_storePart rfl rfl g (k * 5) cur.toList ovF.toList 77 rfl rfl HC5.out infoFd HLT.out ovF_one ?_)
      intro w6 h6 hk6
      have HI6 := hide (HNX.out w6 h6.out hk6.out)
      clear h6 hk6 HNX
      go_wp2_with fail
      go_roundw
      case rel => exact ⟨k + 1, by omega, by go_num, HI6⟩
      case measure => simp [intOf]; omega
    · have hlt' : ¬ (k : Int) < (n : Int) := by omega
      have HK := hide hkp
      clear hown hl' hs' hkp HR
      go_wp2_with fail
      go_end0
      exact ⟨rfl, HK.out⟩
/-! ### OverCases -/
def ovC : Array Value := #[.string ⟨#[]⟩, .string ⟨#[111, 118, 101, 114]⟩]
theorem ovC_one : ∀ u ∈ ovC.toList, u.oneCell' = true := fun u hu => by
  simp only [ovC, List.mem_cons, List.not_mem_nil, or_false] at hu
  rcases hu with rfl | rfl <;> rfl
set_option maxRecDepth 1000000 in
set_option maxHeartbeats 1000000 in
theorem overC_any {w : World} {base g cap m n : Nat} {L : List (Array Value)} (h : w.ownsRow base 102 2 (.slice (some ⟨g, 0, none⟩) m cap) m (gfl L)) (hL : L.length = m) (hs : ∀ c ∈ L, c.size = 2) (hn : n ≤ m) (hm : m ≤ 1000000) :
    Calls Tryz.prog 63 #[.slice (some ⟨g, 0, none⟩) n cap] w fun e w' => e = .returned (.tuple #[]) ∧ Kp (fun k => k = g) w w' := by
  have HH := hide h
  have HN := hide hn
  have HL := hide hL
  have HS := hide hs
  clear h hL hs
  go_enter Tryz.func63, Tryz.ntmps63
  go_wp2_with fail
  go_loopw [2] (fun i wr => ∃ k : Nat, k ≤ n ∧ i = .int .i64 k ∧ Hid (∃ L', wr.ownsRow base 102 2 (.slice (some ⟨g, 0, none⟩) m cap) m (gfl L') ∧ L'.length = m ∧ (∀ c ∈ L', c.size = 2) ∧ Kp (fun q => q = g) w wr)) (fun i _ => n - (intOf i).toNat)
  case atStart => exact ⟨0, Nat.zero_le _, rfl, L, HH.out, HL.out, HS.out, Kp.refl _ _⟩
  case round =>
    rename World => wr
    obtain ⟨k, hk, rfl, HR⟩ := hrel
    obtain ⟨L', hown, hl', hs', hkp⟩ := HR.out
    by_cases hlt : k < n
    · have hlt' : (k : Int) < (n : Int) := by omega
      obtain ⟨cur, hcur, hcz⟩ := own_cur hown
      have HNX : Hid (∀ w6 : World, w6.heap[g]? = some (.cells (splice cur.toList (k * 2) ovC.toList).toArray 102 (0, 0)) → Kp (fun q => q = g) wr w6 → ∃ L', w6.ownsRow base 102 2 (.slice (some ⟨g, 0, none⟩) m cap) m (gfl L') ∧ L'.length = m ∧ (∀ c ∈ L', c.size = 2) ∧ Kp (fun q => q = g) w w6) := fun w6 h6 hk6 =>
        ⟨_, own_partG (c' := ovC) (j := k) hown hl' hs' hcur (by have := HN.out; omega) rfl h6, by rw [List.length_set]; exact hl', fun d hd => by
          rcases List.mem_or_eq_of_mem_set hd with e | e
          · exact hs' d e
          · rw [e]; rfl, hkp.trans hk6 (fun _ _ e => e)⟩
      have HC5 : Hid (wr.heap[g]? = some (.cells cur.toList.toArray 102 (0, 0))) := hcur
      have HLT : Hid (k * 2 + 2 ≤ cur.toList.length) := by
        have h1 := HN.out
        have h2 : (k + 1) * 2 ≤ m * 2 := Nat.mul_le_mul_right _ (by omega)
        show _ ≤ _
        rw [Array.length_toList]
        omega
      clear hown hl' hs' hkp hcur hcz HR
      go_wp2_with (refine wpList_storePart rfl rfl g (k * 2) cur.toList ovC.toList 102 rfl rfl HC5.out infoCz HLT.out ovC_one ?_)
      intro w6 h6 hk6
      have HI6 := hide (HNX.out w6 h6.out hk6.out)
      clear h6 hk6 HNX
      go_wp2_with fail
      go_roundw
      case rel => exact ⟨k + 1, by omega, by go_num, HI6⟩
      case measure => simp [intOf]; omega
    · have hlt' : ¬ (k : Int) < (n : Int) := by omega
      have HK := hide hkp
      clear hown hl' hs' hkp HR
      go_wp2_with fail
      go_end0
      exact ⟨rfl, HK.out⟩
end
section
open Go.RowKit Go
/-! ### Fields and cases compared -/
theorem eqfd (w : World) (f : Fd) : (Op.equalIn 10000 77 (.agg (fdc f)) (.agg (fdc f))).run Tryz.prog w = .ok true w := by
  have u4 := Tryz.underlying4
  have u9 := Tryz.underlying9
  have a4 := Tryz.isAgg4
  have a9 := Tryz.isAgg9
  have z4 := Tryz.sizeOf4
  have z9 := Tryz.sizeOf9
  have hS : Tryz.prog.underlying 77 = some (.struct (Tryz.prog.fieldsOf 77)) := by kernel_rfl
  have hp : Tryz.prog.stoodInHeld 77 = false := by kernel_rfl
  have hS2 : Tryz.prog.underlying 40 = some (.struct (Tryz.prog.fieldsOf 40)) := by kernel_rfl
  have hp2 : Tryz.prog.stoodInHeld 40 = false := by kernel_rfl
  have e1 := str_yes f.n
  have e2 := str_yes f.k
  have e3 := str_yes f.r.n
  have hR : ∀ w, (Op.equalIn 9999 40 (.agg #[.string f.r.n, .bool f.r.z]) (.agg #[.string f.r.n, .bool f.r.z])).run Tryz.prog w = .ok true w := fun w => by
    rw [show (9999 : Nat) = 9998 + 1 from rfl, run_equalIn_agg w 9998 40 _ _ hS2 hp2]
    simp only [Program.fieldsOf, Tryz.underlying40]
    go_simp
  unfold fdc
  rw [show (10000 : Nat) = 9999 + 1 from rfl, run_equalIn_agg w 9999 77 _ _ hS hp]
  simp only [Program.fieldsOf, Tryz.underlying77]
  go_simp
theorem eqgF : Tryz.prog.eqGuardType Tryz.prog.depth 77 = false := by kernel_rfl
theorem eqcz (w : World) (c : Cz) : (Op.equalIn 10000 102 (.agg (czc c)) (.agg (czc c))).run Tryz.prog w = .ok true w := by
  have u9 := Tryz.underlying9
  have a9 := Tryz.isAgg9
  have z9 := Tryz.sizeOf9
  have hS : Tryz.prog.underlying 102 = some (.struct (Tryz.prog.fieldsOf 102)) := by kernel_rfl
  have hp : Tryz.prog.stoodInHeld 102 = false := by kernel_rfl
  have e1 := str_yes c.n
  have e2 := str_yes c.k
  unfold czc
  rw [show (10000 : Nat) = 9999 + 1 from rfl, run_equalIn_agg w 9999 102 _ _ hS hp]
  simp only [Program.fieldsOf, Tryz.underlying102]
  go_simp
theorem eqgC : Tryz.prog.eqGuardType Tryz.prog.depth 102 = false := by kernel_rfl
/-- != of two structs that are alike. -/
theorem exec_neG {T : TypeId} (hg : Tryz.prog.eqGuardType Tryz.prog.depth T = false) {o : Oper} {a : Act} {x y : Operand} {T2 : TypeId} {A : Array Value} {w : World} (ho : o.op = .binOp .neq T x y T2) (hx : a.eval x = .agg A) (hy : a.eval y = .agg A) (he : (Op.equalIn 10000 T (.agg A) (.agg A)).run Tryz.prog w = .ok true w) : (execOp a.eval o).run Tryz.prog w = .ok (.value (.bool false)) w := by
  unfold execOp
  simp only [ho, Sem.run_bind, hx, hy, run_eqGuard_agg w _ T x y A A hg, run_neq_struct, he, Result.andThen_ok]
  rfl
theorem qstep_ex11 {C : World → Prop} {ops : Array Oper} {o : Oper} {a : Act} {K : Act → Prop} (hgd : Region.wanted o (yielded ops a.tmps) = true) (v : Value) (hx : ∀ w, C w → (execOp a.eval o).run Tryz.prog w = .ok (.value v) w)
    (h : K (a.put o.dst v)) : if Region.wanted o (yielded ops a.tmps) = true then o.quiet Tryz.prog a C K else K (a.put o.dst undef) := by
  rw [if_pos hgd]
  refine ⟨v, fun w hC => ?_, h⟩
  unfold Oper.quietAt
  rw [hx w hC]
  exact ⟨rfl, rfl⟩
/-- What stands in a lent row. -/
theorem Lgs.at {T k : Nat} {mk : Array Value} {w : World} {base g cap : Nat} {L : List (Array Value)} (ho : w.ownsRow base T k (.slice (some ⟨g, 0, none⟩) (L.length + 9) cap) (L.length + 9) (gfl (L ++ List.replicate 9 mk))) (hs : ∀ c ∈ L ++ List.replicate 9 mk, c.size = k) : (∀ (i : Nat) (c : Array Value), L[i]? = some c → ∀ j u, c[j]? = some u → w.cell? ⟨g, i * k + j, none⟩ = some u) ∧ (∀ i, i < 9 → ∀ j u, mk[j]? = some u → w.cell? ⟨g, (L.length + i) * k + j, none⟩ = some u) ∧ L.length + 9 ≤ cap := by
  have h9 : (L ++ List.replicate 9 mk).length = L.length + 9 := by simp
  rw [← h9] at ho
  refine ⟨fun i c hi j u hu => ?_, fun i hi j u hu => ?_, ?_⟩
  · have := own_elt ho hs (i := i) (c := c) (by rw [List.getElem?_append_left (List.getElem?_eq_some_iff.1 hi).1]; exact hi) j u hu
    rw [Nat.zero_add] at this
    exact this
  · have := own_elt ho hs (i := L.length + i) (c := mk) (by rw [List.getElem?_append_right (by omega), Nat.add_sub_cancel_left, List.getElem?_replicate_of_lt hi]) j u hu
    rw [Nat.zero_add] at this
    exact this
  · rcases ho.2 with ⟨hv, _⟩ | ⟨g', cap', cur, hv, _, _, h1, _⟩
    · cases hv
    · injection hv with _ _ e
      subst e
      omega
/-! ### BackFields -/
set_option maxRecDepth 1000000 in
set_option maxHeartbeats 1000000 in
theorem backF_any {w : World} {base : Nat} {v : Value} {xs : List Fd} (h : Lgs 77 5 mkF w base v (xs.map fdc)) (u : Value) (hu : FSl w u xs) (hlen : xs.length ≤ 100000) :
    Calls Tryz.prog 56 #[v, u] w fun e w' => e = .returned (.bool true) ∧ Below w.heap.size w w' := by
  obtain ⟨⟨g, cap, rfl, ho⟩, hs, hm⟩ := h
  obtain ⟨hc1, hc2, hcap⟩ := Lgs.at ho (fun c hc => by
    rcases List.mem_append.1 hc with hc | hc
    · exact hs c hc
    · rw [List.eq_of_mem_replicate hc]; exact hm)
  rw [List.length_map] at hc2 hcap ⊢
  have HC1 : Hid (∀ (i : Nat) (x : Fd), xs[i]? = some x → ∀ j y, (fdc x)[j]? = some y → w.cell? ⟨g, i * 5 + j, none⟩ = some y) := fun i x hx j y hy => hc1 i (fdc x) (by rw [List.getElem?_map, hx]; rfl) j y hy
  have HC2 := hide hc2
  obtain ⟨⟨au, cu, rfl, _, hf⟩, _⟩ := hu
  have HF := hide hf
  have hcap2 : (xs.length : Int) + 9 ≤ (cap : Int) := by omega
  have HI := hide infoFd
  have HA : Hid (∀ w, (isAgg 77).run Tryz.prog w = .ok true w) := aggFd
  have HEQ : Hid (∀ (w : World) (x : Fd), (Op.equalIn 10000 77 (.agg (fdc x)) (.agg (fdc x))).run Tryz.prog w = .ok true w) := eqfd
  have HMK : Hid (mkF = fdc ⟨⟨#[109, 97, 114, 107]⟩, ⟨#[]⟩, ⟨⟨#[]⟩, false⟩, false⟩) := rfl
  clear ho hc1 hc2 hf hcap hs hm
  go_enter Tryz.func56, Tryz.ntmps56
  go_wp2_with fail
  go_loopw [5] (fun ii wx => ∃ i : Nat, i ≤ xs.length ∧ ii = .int .i64 (i : Nat) ∧ Hid (Below w.heap.size w wx)) (fun ii _ => xs.length - (intOf ii).toNat)
  case atStart => exact ⟨0, by omega, rfl, Below.refl _ _⟩
  case round =>
    obtain ⟨i, hi, rfl, HBw⟩ := hrel
    by_cases hlt : i < xs.length
    · as_aux_lemma =>
      have g1 : (i : Int) < (xs.length : Int) := by omega
      obtain ⟨x, hx⟩ : ∃ x, xs[i]? = some x := ⟨xs[i], List.getElem?_eq_getElem hlt⟩
      obtain ⟨b, off, rfl, hcc⟩ := HF.out.resolve_left (fun h => by rw [h] at hlt; simp at hlt)
      have HQ1 : Hid (∀ w', (∃ t : Ext wr, w' = t.w') → ∀ j y, (fdc x)[j]? = some y → w'.cell? ⟨g, i * 5 + j, none⟩ = some y) := fun w' ⟨t, e⟩ j y hy => by
        rw [e]
        exact keep_below t.h _ _ (keep_below HBw.out _ _ (HC1.out i x hx j y hy))
      have HQ2 : Hid (∀ w', (∃ t : Ext wr, w' = t.w') → ∀ j y, (fdc x)[j]? = some y → w'.cell? ⟨b, off + i * 5 + j, none⟩ = some y) := fun w' ⟨t, e⟩ j y hy => by
        rw [e]
        obtain ⟨c, ⟨rfl, _⟩, hcell⟩ := hcc i x hx
        exact keep_below t.h _ _ (keep_below HBw.out _ _ (hcell j y hy))
      clear hcc hx HC1 HC2 HMK
      go_wp2_with fail
      refine region_ext (by kernel_rfl) (by kernel_rfl) ?_
      repeat (
        with_reducible refine wpQuiet_step (fun K hK => ?_)
        first
          | (refine qstep_ex11 rfl (.agg (fdc x)) (fun w' hw' => exec_aggAt HI.out HA.out rfl (g := g) (off := i * 5) rfl rfl (HQ1.out w' hw')) (hK _ ?_); clear hK K)
          | (refine qstep_ex11 rfl (.agg (fdc x)) (fun w' hw' => exec_aggAt HI.out HA.out rfl (g := b) (off := off + i * 5) rfl rfl (HQ2.out w' hw')) (hK _ ?_); clear hK K)
          | (refine qstep_ex11 rfl (.bool false) (fun w' hw' => exec_neG eqgF rfl (A := fdc x) rfl rfl (HEQ.out w' x)) (hK _ ?_); clear hK K)
          | (go_simp
             with_reducible refine hK _ ?_
             clear hK K))
      refine wpQuiet_nil ?_
      rintro _ ⟨tq, rfl⟩
      have HB2 : Hid (Below w.heap.size w tq.w') := HBw.out.trans (tq.h.mono HBw.out.size)
      clear HQ1 HQ2
      go_wp2_with fail
      go_roundw
      case rel => exact ⟨i + 1, by omega, by go_num, HB2⟩
      case measure => simp [intOf]; omega
    · have g1 : ¬ (i : Int) < (xs.length : Int) := by omega
      go_wp2_with fail
      go_loopw [7] (fun ii wx => ∃ j : Nat, j ≤ 9 ∧ ii = .int .i64 ((xs.length + j : Nat) : Int) ∧ Hid (Below w.heap.size w wx)) (fun ii _ => xs.length + 9 - (intOf ii).toNat)
      case atStart => exact ⟨0, by omega, by simp, HBw⟩
      case round => as_aux_lemma =>
        rename World => wz
        obtain ⟨j, hj, rfl, HBz⟩ := hrel
        clear HBw
        by_cases hlt2 : j < 9
        · obtain ⟨p, hp⟩ : ∃ p, p = xs.length + j := ⟨_, rfl⟩
          have HQ3 : Hid (∀ m y, (#[.string ⟨#[109, 97, 114, 107]⟩, .string ⟨#[]⟩, .string ⟨#[]⟩, .bool false, .bool false] : Array Value)[m]? = some y → wz.cell? ⟨g, p * 5 + m, none⟩ = some y) := fun m y hy => by
            rw [hp]
            exact keep_below HBz.out _ _ (HC2.out j hlt2 m y hy)
          have HEM := hide (HEQ.out wz ⟨⟨#[109, 97, 114, 107]⟩, ⟨#[]⟩, ⟨⟨#[]⟩, false⟩, false⟩)
          unfold fdc at HEM
          rw [← hp]
          have g2 : (p : Int) < (xs.length : Int) + 9 := by omega
          have g3 : (0 : Int) ≤ (p : Int) := by omega
          have hm : p ≤ 100009 := by omega
          have HP := hide hp
          clear hp HC1 HC2 HF
          go_wp2_with (first
            | (refine wpList_aggAt rfl rfl HI.out HA.out g (p * 5) #[.string ⟨#[109, 97, 114, 107]⟩, .string ⟨#[]⟩, .string ⟨#[]⟩, .bool false, .bool false] rfl rfl HQ3.out ?_)
            | (refine wpList_ex rfl (exec_neG eqgF rfl (A := #[.string ⟨#[109, 97, 114, 107]⟩, .string ⟨#[]⟩, .string ⟨#[]⟩, .bool false, .bool false]) rfl rfl HEM.out) ?_))
          go_roundw
          case rel => exact ⟨j + 1, by omega, by have := HP.out; first | (go_num; done) | (rw [this]; go_num) | (congr 1; omega), HBz⟩
          case measure => have := HP.out; simp [intOf]; omega
        · have g2 : ¬ ((xs.length + j : Nat) : Int) < (xs.length : Int) + 9 := by omega
          go_wp2_with fail
          go_ret
          exact ⟨rfl, HBz.out⟩
/-! ### BackCases -/
set_option maxRecDepth 1000000 in
set_option maxHeartbeats 1000000 in
theorem backC_any {w : World} {base : Nat} {v : Value} {xs : List Cz} (h : Lgs 102 2 mkC w base v (xs.map czc)) (u : Value) (hu : CSl w u xs) (hlen : xs.length ≤ 100000) :
    Calls Tryz.prog 57 #[v, u] w fun e w' => e = .returned (.bool true) ∧ Below w.heap.size w w' := by
  obtain ⟨⟨g, cap, rfl, ho⟩, hs, hm⟩ := h
  obtain ⟨hc1, hc2, hcap⟩ := Lgs.at ho (fun c hc => by
    rcases List.mem_append.1 hc with hc | hc
    · exact hs c hc
    · rw [List.eq_of_mem_replicate hc]; exact hm)
  rw [List.length_map] at hc2 hcap ⊢
  have HC1 : Hid (∀ (i : Nat) (x : Cz), xs[i]? = some x → ∀ j y, (czc x)[j]? = some y → w.cell? ⟨g, i * 2 + j, none⟩ = some y) := fun i x hx j y hy => hc1 i (czc x) (by rw [List.getElem?_map, hx]; rfl) j y hy
  have HC2 := hide hc2
  obtain ⟨⟨au, cu, rfl, _, hf⟩, _⟩ := hu
  have HF := hide hf
  have hcap2 : (xs.length : Int) + 9 ≤ (cap : Int) := by omega
  have HI := hide infoCz
  have HA : Hid (∀ w, (isAgg 102).run Tryz.prog w = .ok true w) := aggCz
  have HEQ : Hid (∀ (w : World) (x : Cz), (Op.equalIn 10000 102 (.agg (czc x)) (.agg (czc x))).run Tryz.prog w = .ok true w) := eqcz
  have HMK : Hid (mkC = czc ⟨⟨#[]⟩, ⟨#[109, 97, 114, 107]⟩⟩) := rfl
  clear ho hc1 hc2 hf hcap hs hm
  go_enter Tryz.func57, Tryz.ntmps57
  go_wp2_with fail
  go_loopw [5] (fun ii wx => ∃ i : Nat, i ≤ xs.length ∧ ii = .int .i64 (i : Nat) ∧ Hid (Below w.heap.size w wx)) (fun ii _ => xs.length - (intOf ii).toNat)
  case atStart => exact ⟨0, by omega, rfl, Below.refl _ _⟩
  case round =>
    obtain ⟨i, hi, rfl, HBw⟩ := hrel
    by_cases hlt : i < xs.length
    · as_aux_lemma =>
      have g1 : (i : Int) < (xs.length : Int) := by omega
      obtain ⟨x, hx⟩ : ∃ x, xs[i]? = some x := ⟨xs[i], List.getElem?_eq_getElem hlt⟩
      obtain ⟨b, off, rfl, hcc⟩ := HF.out.resolve_left (fun h => by rw [h] at hlt; simp at hlt)
      have HQ1 : Hid (∀ w', (∃ t : Ext wr, w' = t.w') → ∀ j y, (czc x)[j]? = some y → w'.cell? ⟨g, i * 2 + j, none⟩ = some y) := fun w' ⟨t, e⟩ j y hy => by
        rw [e]
        exact keep_below t.h _ _ (keep_below HBw.out _ _ (HC1.out i x hx j y hy))
      have HQ2 : Hid (∀ w', (∃ t : Ext wr, w' = t.w') → ∀ j y, (czc x)[j]? = some y → w'.cell? ⟨b, off + i * 2 + j, none⟩ = some y) := fun w' ⟨t, e⟩ j y hy => by
        rw [e]
        obtain ⟨c, ⟨rfl, _⟩, hcell⟩ := hcc i x hx
        exact keep_below t.h _ _ (keep_below HBw.out _ _ (hcell j y hy))
      clear hcc hx HC1 HC2 HMK
      go_wp2_with fail
      refine region_ext (by kernel_rfl) (by kernel_rfl) ?_
      repeat (
        with_reducible refine wpQuiet_step (fun K hK => ?_)
        first
          | (refine qstep_ex11 rfl (.agg (czc x)) (fun w' hw' => exec_aggAt HI.out HA.out rfl (g := g) (off := i * 2) rfl rfl (HQ1.out w' hw')) (hK _ ?_); clear hK K)
          | (refine qstep_ex11 rfl (.agg (czc x)) (fun w' hw' => exec_aggAt HI.out HA.out rfl (g := b) (off := off + i * 2) rfl rfl (HQ2.out w' hw')) (hK _ ?_); clear hK K)
          | (refine qstep_ex11 rfl (.bool false) (fun w' hw' => exec_neG eqgC rfl (A := czc x) rfl rfl (HEQ.out w' x)) (hK _ ?_); clear hK K)
          | (go_simp
             with_reducible refine hK _ ?_
             clear hK K))
      refine wpQuiet_nil ?_
      rintro _ ⟨tq, rfl⟩
      have HB2 : Hid (Below w.heap.size w tq.w') := HBw.out.trans (tq.h.mono HBw.out.size)
      clear HQ1 HQ2
      go_wp2_with fail
      go_roundw
      case rel => exact ⟨i + 1, by omega, by go_num, HB2⟩
      case measure => simp [intOf]; omega
    · have g1 : ¬ (i : Int) < (xs.length : Int) := by omega
      go_wp2_with fail
      go_loopw [7] (fun ii wx => ∃ j : Nat, j ≤ 9 ∧ ii = .int .i64 ((xs.length + j : Nat) : Int) ∧ Hid (Below w.heap.size w wx)) (fun ii _ => xs.length + 9 - (intOf ii).toNat)
      case atStart => exact ⟨0, by omega, by simp, HBw⟩
      case round => as_aux_lemma =>
        rename World => wz
        obtain ⟨j, hj, rfl, HBz⟩ := hrel
        clear HBw
        by_cases hlt2 : j < 9
        · obtain ⟨p, hp⟩ : ∃ p, p = xs.length + j := ⟨_, rfl⟩
          have HQ3 : Hid (∀ m y, (#[.string ⟨#[]⟩, .string ⟨#[109, 97, 114, 107]⟩] : Array Value)[m]? = some y → wz.cell? ⟨g, p * 2 + m, none⟩ = some y) := fun m y hy => by
            rw [hp]
            exact keep_below HBz.out _ _ (HC2.out j hlt2 m y hy)
          have HEM := hide (HEQ.out wz ⟨⟨#[]⟩, ⟨#[109, 97, 114, 107]⟩⟩)
          unfold czc at HEM
          rw [← hp]
          have g2 : (p : Int) < (xs.length : Int) + 9 := by omega
          have g3 : (0 : Int) ≤ (p : Int) := by omega
          have hm : p ≤ 100009 := by omega
          have HP := hide hp
          clear hp HC1 HC2 HF
          go_wp2_with (first
            | (refine wpList_aggAt rfl rfl HI.out HA.out g (p * 2) #[.string ⟨#[]⟩, .string ⟨#[109, 97, 114, 107]⟩] rfl rfl HQ3.out ?_)
            | (refine wpList_ex rfl (exec_neG eqgC rfl (A := #[.string ⟨#[]⟩, .string ⟨#[109, 97, 114, 107]⟩]) rfl rfl HEM.out) ?_))
          go_roundw
          case rel => exact ⟨j + 1, by omega, by have := HP.out; first | (go_num; done) | (rw [this]; go_num) | (congr 1; omega), HBz⟩
          case measure => have := HP.out; simp [intOf]; omega
        · have g2 : ¬ ((xs.length + j : Nat) : Int) < (xs.length : Int) + 9 := by omega
          go_wp2_with fail
          go_ret
          exact ⟨rfl, HBz.out⟩
end
section
open Go.RowKit Go
theorem gfl_cells {w : World} {k b off : Nat} (hk : 0 < k) {L : List (Array Value)} (hl : ∀ c ∈ L, c.size = k) (h : ∀ (i : Nat) (c : Array Value), L[i]? = some c → ∀ j u, c[j]? = some u → w.cell? ⟨b, off + i * k + j, none⟩ = some u) : ∀ (j : Nat) (u : Value), (gfl L)[j]? = some u → w.cell? ⟨b, off + j, none⟩ = some u := fun j u hu => by
  have hj := (List.getElem?_eq_some_iff.1 hu).1
  rw [gfl_len hl] at hj
  have hi : j / k < L.length := (Nat.div_lt_iff_lt_mul hk).2 hj
  have hL : L[j / k]? = some L[j / k] := List.getElem?_eq_getElem hi
  have hs := hl _ (List.getElem_mem hi)
  have hr : j % k < (L[j / k]).size := by rw [hs]; exact Nat.mod_lt _ hk
  have hc : (L[j / k])[j % k]? = some (L[j / k])[j % k] := Array.getElem?_eq_getElem hr
  have hg := gfl_get hl _ _ _ _ hL hc
  have e : j / k * k + j % k = j := by rw [Nat.mul_comm]; exact Nat.div_add_mod j k
  rw [e, hu] at hg
  have h2 := h _ _ hL _ _ hc
  rw [Nat.add_assoc, e] at h2
  rw [Option.some.inj hg]
  exact h2
/-- append of a whole row onto nothing. -/
theorem append_all {ops : Array Oper} {rest : List Oper} {o : Oper} {a : Act} {Q : Exit → Act → World → Prop} {w : World} {S T : TypeId} {z : Value} {k by' : Nat} (hI : (Tryz.prog.info? T).map (fun i => (i.zero, i.size, i.bytes)) = some (some z, k, by')) (hS : Tryz.prog.underlying S = some (.slice T)) (hzs : z.cells.size = k) (hk : 0 < k) (hby : by' ≤ 1000) (hgd : o.guard = none) {s x : Operand}
    (ho : o.op = .call { callee := .builtin .append, args := #[s, x], argTypes := #[S, S] }) {L : List (Array Value)} {ad : Option Addr} {c : Nat} (hs : a.eval s = .slice none 0 0) (hx : a.eval x = .slice ad L.length c) (hl : ∀ c ∈ L, c.size = k) (h1 : ∀ u ∈ gfl L, u.oneCell' = true) (hlen : L.length ≤ 1000000) (hc0 : ad = none → c = 0)
    (hc : L = [] ∨ ∃ b off, ad = some ⟨b, off, none⟩ ∧ ∀ (i : Nat) (d : Array Value), L[i]? = some d → ∀ j u, d[j]? = some u → w.cell? ⟨b, off + i * k + j, none⟩ = some u)
    (h : ∀ v' w', w'.ownsRow w.heap.size T k v' L.length (gfl L) → Below w.heap.size w w' → wpList Tryz.prog ops Q rest (a.put o.dst v') w') : wpList Tryz.prog ops Q (o :: rest) a w := by
  obtain ⟨i, hi, hz0, hz1, hz2⟩ := info_ex hI
  have hb : (0 + L.length) * by' ≤ 140737488355328 := by
    have : (0 + L.length) * by' ≤ 1000000 * 1000 := Nat.mul_le_mul (by omega) hby
    omega
  have hbel : ∀ w' : World, w.grownBy w' (Value.ownBlock (.slice none 0 0)) → Below w.heap.size w w' := fun w' hg => (kp_grown hg).below (Nat.le_refl _) (fun q e => by cases e)
  cases ad with
  | none =>
    have h0 : L = [] := hc.resolve_right (fun ⟨_, _, e, _⟩ => by cases e)
    subst h0
    have e0 := hc0 rfl
    subst e0
    refine wpList_append_own_none hgd s x S ho w.heap.size T i k hS hi (.slice none 0 0) 0 [] hs (World.ownsRow_nil _ _ _ _) hx ?_
    exact h _ w (World.ownsRow_nil _ _ _ _) (Below.refl _ _)
  | some ad =>
    have hnews : ∀ j u, (gfl L)[j]? = some u → w.cell? (ad.add j) = some u := fun j u hu => by
      rcases hc with e | ⟨b, off, e, hc⟩
      · rw [e] at hu; cases hu
      · have e' := Option.some.inj e
        subst e'
        rw [addrO]
        exact gfl_cells hk hl hc j u hu
    refine wpList_append_own_at w hgd s x S ho w.heap.size T i z k by' hS hi hz0 hz1 hz2 hzs hk (.slice none 0 0) 0 [] hs (World.ownsRow_nil _ _ _ _) ad L.length c (gfl L) hx (gfl_len hl) hnews h1 (by unfold maxLen; omega) hb (Nat.le_refl _) fun v' w' h2 h3 _ _ => ?_
    exact h v' w' (by rw [Nat.zero_add] at h2; exact h2) (hbel w' h3)
theorem infoF3 : (Tryz.prog.info? 77).map (fun i => (i.zero, i.size, i.bytes)) = some (some (.agg #[.string ⟨#[]⟩, .string ⟨#[]⟩, .string ⟨#[]⟩, .bool false, .bool false]), 5, 64) := by kernel_rfl
set_option maxRecDepth 1000000 in
set_option maxHeartbeats 1000000 in
theorem copiedF_any (w : World) (v : Value) (xs : List Fd) (hv : FSl w v xs) (hn : xs.length ≤ 1000000) : Calls Tryz.prog 59 #[v] w fun e w' => ∃ v', e = .returned v' ∧ Hid (FSl w' v' xs ∧ Below w.heap.size w w' ∧ ∀ q, v'.ownBlock = some q → w.heap.size ≤ q) := by
  have HV := hide hv
  obtain ⟨⟨a, cap, rfl, hcap, hform⟩, hmax⟩ := hv
  have HN := hide hn
  have HC : Hid ((xs.map fdc) = [] ∨ ∃ b off, a = some ⟨b, off, none⟩ ∧ ∀ (i : Nat) (d : Array Value), (xs.map fdc)[i]? = some d → ∀ j u, d[j]? = some u → w.cell? ⟨b, off + i * 5 + j, none⟩ = some u) := by
    rcases hform with h | ⟨b, off, e, h⟩
    · exact .inl (by rw [h]; rfl)
    · refine .inr ⟨b, off, e, fun i d hd j u hu => ?_⟩
      rw [List.getElem?_map] at hd
      cases hx : xs[i]? with
      | none => rw [hx] at hd; cases hd
      | some x =>
        rw [hx] at hd
        injection hd with hd
        subst hd
        obtain ⟨c, ⟨hcx, _⟩, hcell⟩ := h i x hx
        subst hcx
        exact hcell j u hu
  have HL : Hid (∀ c ∈ xs.map fdc, c.size = 5) := fun c hc => by obtain ⟨x, _, rfl⟩ := List.mem_map.1 hc; rfl
  have H1 : Hid (∀ u ∈ gfl (xs.map fdc), u.oneCell' = true) := fun u hu => by
    obtain ⟨c, hc, hu⟩ := List.mem_flatMap.1 hu
    obtain ⟨x, _, rfl⟩ := List.mem_map.1 hc
    simp only [fdc, List.mem_cons, List.not_mem_nil, or_false] at hu
    rcases hu with rfl | rfl | rfl | rfl | rfl <;> rfl
  have HC0 := hide hcap.2
  have HLE : Hid ((xs.map fdc).length = xs.length) := by show _ = _; rw [List.length_map]
  have HAP : Hid (∀ (ops : Array Oper) (rest : List Oper) (o : Oper) (ac : Act) (Q : Exit → Act → World → Prop) (s y : Operand), o.guard = none → o.op = .call { callee := .builtin .append, args := #[s, y], argTypes := #[41, 41] } → ac.eval s = .slice none 0 0 → ac.eval y = .slice a xs.length cap → (∀ v' w', w'.ownsRow w.heap.size 77 5 v' (xs.map fdc).length (gfl (xs.map fdc)) → Below w.heap.size w w' → wpList Tryz.prog ops Q rest (ac.put o.dst v') w') → wpList Tryz.prog ops Q (o :: rest) ac w) := fun ops rest o ac Q s y h1 h2 h3 h4 h5 => append_all infoF3 Tryz.underlying41 rfl (by decide) (by decide) h1 h2 h3 (by rw [HLE.out]; exact h4) HL.out H1.out (by rw [HLE.out]; exact HN.out) HC0.out HC.out h5
  clear hform hcap hn
  go_enter Tryz.func59, Tryz.ntmps59
  go_wp2_with (refine HAP.out _ _ _ _ _ _ _ rfl rfl rfl rfl ?_; intro v' w' ho hb)
  go_ret
  refine ⟨_, rfl, ?_, hb, fun q e => (ho.lt q e).1⟩
  exact own_gsl (xs := xs) ho HL.out HLE.out HV.out.max (fun i x c hx hc => by
    rw [List.getElem?_map, hx] at hc
    injection hc with hc
    subst hc
    rcases HV.out.form with ⟨_, _, _, _, h | ⟨b, off, _, h⟩⟩
    · rw [h] at hx; cases hx
    · obtain ⟨c', hP, _⟩ := h i x hx
      exact ⟨rfl, hP.2⟩)

theorem infoC3 : (Tryz.prog.info? 102).map (fun i => (i.zero, i.size, i.bytes)) = some (some (.agg #[.string ⟨#[]⟩, .string ⟨#[]⟩]), 2, 32) := by kernel_rfl
set_option maxRecDepth 1000000 in
set_option maxHeartbeats 1000000 in
theorem copiedC_any (w : World) (v : Value) (xs : List Cz) (hv : CSl w v xs) (hn : xs.length ≤ 1000000) : Calls Tryz.prog 60 #[v] w fun e w' => ∃ v', e = .returned v' ∧ Hid (CSl w' v' xs ∧ Below w.heap.size w w' ∧ ∀ q, v'.ownBlock = some q → w.heap.size ≤ q) := by
  have HV := hide hv
  obtain ⟨⟨a, cap, rfl, hcap, hform⟩, hmax⟩ := hv
  have HN := hide hn
  have HC : Hid ((xs.map czc) = [] ∨ ∃ b off, a = some ⟨b, off, none⟩ ∧ ∀ (i : Nat) (d : Array Value), (xs.map czc)[i]? = some d → ∀ j u, d[j]? = some u → w.cell? ⟨b, off + i * 2 + j, none⟩ = some u) := by
    rcases hform with h | ⟨b, off, e, h⟩
    · exact .inl (by rw [h]; rfl)
    · refine .inr ⟨b, off, e, fun i d hd j u hu => ?_⟩
      rw [List.getElem?_map] at hd
      cases hx : xs[i]? with
      | none => rw [hx] at hd; cases hd
      | some x =>
        rw [hx] at hd
        injection hd with hd
        subst hd
        obtain ⟨c, ⟨hcx, _⟩, hcell⟩ := h i x hx
        subst hcx
        exact hcell j u hu
  have HL : Hid (∀ c ∈ xs.map czc, c.size = 2) := fun c hc => by obtain ⟨x, _, rfl⟩ := List.mem_map.1 hc; rfl
  have H1 : Hid (∀ u ∈ gfl (xs.map czc), u.oneCell' = true) := fun u hu => by
    obtain ⟨c, hc, hu⟩ := List.mem_flatMap.1 hu
    obtain ⟨x, _, rfl⟩ := List.mem_map.1 hc
    simp only [czc, List.mem_cons, List.not_mem_nil, or_false] at hu
    rcases hu with rfl | rfl <;> rfl
  have HC0 := hide hcap.2
  have HLE : Hid ((xs.map czc).length = xs.length) := by show _ = _; rw [List.length_map]
  have HAP : Hid (∀ (ops : Array Oper) (rest : List Oper) (o : Oper) (ac : Act) (Q : Exit → Act → World → Prop) (s y : Operand), o.guard = none → o.op = .call { callee := .builtin .append, args := #[s, y], argTypes := #[42, 42] } → ac.eval s = .slice none 0 0 → ac.eval y = .slice a xs.length cap → (∀ v' w', w'.ownsRow w.heap.size 102 2 v' (xs.map czc).length (gfl (xs.map czc)) → Below w.heap.size w w' → wpList Tryz.prog ops Q rest (ac.put o.dst v') w') → wpList Tryz.prog ops Q (o :: rest) ac w) := fun ops rest o ac Q s y h1 h2 h3 h4 h5 => append_all infoC3 Tryz.underlying42 rfl (by decide) (by decide) h1 h2 h3 (by rw [HLE.out]; exact h4) HL.out H1.out (by rw [HLE.out]; exact HN.out) HC0.out HC.out h5
  clear hform hcap hn
  go_enter Tryz.func60, Tryz.ntmps60
  go_wp2_with (refine HAP.out _ _ _ _ _ _ _ rfl rfl rfl rfl ?_; intro v' w' ho hb)
  go_ret
  refine ⟨_, rfl, ?_, hb, fun q e => (ho.lt q e).1⟩
  exact own_gsl (xs := xs) ho HL.out HLE.out HV.out.max (fun i x c hx hc => by
    rw [List.getElem?_map, hx] at hc
    injection hc with hc
    subst hc
    rcases HV.out.form with ⟨_, _, _, _, h | ⟨b, off, _, h⟩⟩
    · rw [h] at hx; cases hx
    · obtain ⟨c', hP, _⟩ := h i x hx
      exact ⟨rfl, hP.2⟩)

theorem infoS3 : (Tryz.prog.info? 9).map (fun i => (i.zero, i.size, i.bytes)) = some (some (.string ⟨#[]⟩), 1, 16) := by kernel_rfl
set_option maxRecDepth 1000000 in
set_option maxHeartbeats 1000000 in
theorem copiedS_any (w : World) (v : Value) (xs : List ByteArray) (hv : SSl w v xs) (hn : xs.length ≤ 1000000) : Calls Tryz.prog 61 #[v] w fun e w' => ∃ v', e = .returned v' ∧ Hid (SSl w' v' xs ∧ Below w.heap.size w w' ∧ ∀ q, v'.ownBlock = some q → w.heap.size ≤ q) := by
  have HV := hide hv
  obtain ⟨⟨a, cap, rfl, hcap, hform⟩, hmax, _⟩ := hv
  have HN := hide hn
  have HC : Hid ((xs.map (fun s => #[Value.string s])) = [] ∨ ∃ b off, a = some ⟨b, off, none⟩ ∧ ∀ (i : Nat) (d : Array Value), (xs.map (fun s => #[Value.string s]))[i]? = some d → ∀ j u, d[j]? = some u → w.cell? ⟨b, off + i * 1 + j, none⟩ = some u) := by
    rcases hform with h | ⟨b, off, e, h⟩
    · exact .inl (by rw [h]; rfl)
    · refine .inr ⟨b, off, e, fun i d hd j u hu => ?_⟩
      rw [List.getElem?_map] at hd
      cases hx : xs[i]? with
      | none => rw [hx] at hd; cases hd
      | some x =>
        rw [hx] at hd
        injection hd with hd
        subst hd
        rcases j with _ | j
        · have e1 : u = .string x := by simpa using hu.symm
          subst e1
          rw [Nat.mul_one, Nat.add_zero]
          exact h i x hx
        · simp at hu
  have HL : Hid (∀ c ∈ xs.map (fun s => #[Value.string s]), c.size = 1) := fun c hc => by obtain ⟨x, _, rfl⟩ := List.mem_map.1 hc; rfl
  have H1 : Hid (∀ u ∈ gfl (xs.map (fun s => #[Value.string s])), u.oneCell' = true) := fun u hu => by
    obtain ⟨c, hc, hu⟩ := List.mem_flatMap.1 hu
    obtain ⟨x, _, rfl⟩ := List.mem_map.1 hc
    simp only [List.mem_cons, List.not_mem_nil, or_false] at hu
    rw [hu]; rfl
  have HC0 := hide hcap.2
  have HLE : Hid ((xs.map (fun s => #[Value.string s])).length = xs.length) := by show _ = _; rw [List.length_map]
  have HAP : Hid (∀ (ops : Array Oper) (rest : List Oper) (o : Oper) (ac : Act) (Q : Exit → Act → World → Prop) (s y : Operand), o.guard = none → o.op = .call { callee := .builtin .append, args := #[s, y], argTypes := #[43, 43] } → ac.eval s = .slice none 0 0 → ac.eval y = .slice a xs.length cap → (∀ v' w', w'.ownsRow w.heap.size 9 1 v' (xs.map (fun s => #[Value.string s])).length (gfl (xs.map (fun s => #[Value.string s]))) → Below w.heap.size w w' → wpList Tryz.prog ops Q rest (ac.put o.dst v') w') → wpList Tryz.prog ops Q (o :: rest) ac w) := fun ops rest o ac Q s y h1 h2 h3 h4 h5 => append_all infoS3 Tryz.underlying43 rfl (by decide) (by decide) h1 h2 h3 (by rw [HLE.out]; exact h4) HL.out H1.out (by rw [HLE.out]; exact HN.out) HC0.out HC.out h5
  clear hform hcap hn
  go_enter Tryz.func61, Tryz.ntmps61
  go_wp2_with (refine HAP.out _ _ _ _ _ _ _ rfl rfl rfl rfl ?_; intro v' w' ho hb)
  go_ret
  refine ⟨_, rfl, ?_, hb, fun q e => (ho.lt q e).1⟩
  have hg := own_gsl (P := fun _ s c => c = #[Value.string s]) (xs := xs) ho HL.out HLE.out HV.out.max (fun i x c hx hc => by
    rw [List.getElem?_map, hx] at hc
    injection hc with hc
    exact hc.symm)
  obtain ⟨⟨a', cap', hv', hc', hf'⟩, hm'⟩ := hg
  refine ⟨⟨a', cap', hv', hc', ?_⟩, hm', HV.out.size⟩
  rcases hf' with h | ⟨b, off, e, h⟩
  · exact .inl h
  · refine .inr ⟨b, off, e, fun j s hs => ?_⟩
    obtain ⟨c, rfl, hcell⟩ := h j s hs
    have := hcell 0 (.string s) rfl
    rw [Nat.mul_one, Nat.add_zero] at this
    exact this
end
end Go.Proofs.YtcmfgambfgebfaaGreatDoor
