import Derived.Test.YtcmfgambfgebfaaGreatDoorJd
namespace Go.Proofs.YtcmfgambfgebfaaGreatDoor
section
open Go.RowKit Go
/-! ### BuiltIn, Named -/
def bltn : List ByteArray := [⟨#[97, 110, 121]⟩, ⟨#[98, 111, 111, 108]⟩, ⟨#[98, 121, 116, 101, 115]⟩, ⟨#[102, 108, 111, 97, 116]⟩, ⟨#[105, 110, 116]⟩, ⟨#[108, 105, 110, 107]⟩, ⟨#[110, 117, 108, 108]⟩, ⟨#[115, 105, 110, 103, 108, 101]⟩, ⟨#[116, 101, 120, 116]⟩]
theorem bltn_own : bltn.all (fun s => (ownK s).isSome) = true := by decide
theorem own_bltn : owns.all (fun p => memb bltn p.1) = true := by decide
theorem memb_bltn (s : ByteArray) : memb bltn s = (ownK s).isSome := by
  rw [Bool.eq_iff_iff, memb_iff]
  constructor
  · intro h
    exact List.all_eq_true.1 bltn_own s h
  · intro h
    unfold ownK at h
    rw [Option.isSome_map] at h
    obtain ⟨p, hp⟩ := Option.isSome_iff_exists.1 h
    have h1 := List.mem_of_find?_eq_some hp
    have h2 : p.1 = s := by simpa using List.find?_some hp
    rw [← h2]
    exact memb_iff.1 (List.all_eq_true.1 own_bltn p h1)
set_option maxRecDepth 1000000 in
theorem builtIn11_any (w : World) : Calls Tryz.prog 49 #[] w fun e w' => ∃ v, e = .returned v ∧ SSl w' v bltn ∧ Below w.heap.size w w' := by
  go_enter Tryz.func49, Tryz.ntmps49
  go_wp2_with fail
  go_ret
  refine ⟨_, rfl, ⟨⟨_, 9, rfl, ⟨Nat.le_refl _, fun h => by cases h⟩, .inr ⟨w.heap.size, 0, rfl, fun j s hs => ?_⟩⟩, by decide, fun s hs => ?_⟩, below_alloc4 w _⟩
  · rw [Nat.zero_add]
    refine blk_cell (heap_alloc_new w _) ?_
    show (bltn.map Value.string).toArray[j]? = _
    rw [List.getElem?_toArray, List.getElem?_map, hs]
    rfl
  · have h : bltn.all (fun s => decide (s.size ≤ 140737488351232)) = true := by decide
    exact of_decide_eq_true (List.all_eq_true.1 h s hs)
def lttr (c : Nat) : Bool := decide (97 ≤ c ∧ c ≤ 122) || decide (65 ≤ c ∧ c ≤ 90) || decide (48 ≤ c ∧ c ≤ 57)
set_option maxRecDepth 1000000 in
set_option maxHeartbeats 1000000 in
theorem named11_any (w : World) (s : ByteArray) : Calls Tryz.prog 47 #[.string s] w fun e w' => e = .returned (.bool (nbl s)) ∧ w' = w := by
  have hnot : ∀ (x : Bool) (w : World), (Op.unary .not (.bool x)).run Tryz.prog w = .ok (.bool (!x)) w := fun _ _ => rfl
  by_cases h0 : 0 < s.size
  · by_cases h64 : s.size ≤ 64
    · have g1 : ¬ (s.size : Int) < 1 := by omega
      have g2 : ¬ (64 : Int) < s.size := by omega
      go_enter Tryz.func47, Tryz.ntmps47
      go_wp2_with fail
      clear g1 g2
      go_loopw [3] (fun vi wx => ∃ i : Nat, i ≤ s.size ∧ vi = .int .i64 (i : Nat) ∧ wx = w ∧ Hid (∀ j (h : j < s.size), j < i → nby s[j].toNat = true)) (fun vi _ => s.size - (intOf vi).toNat)
      case atStart => exact ⟨0, by omega, rfl, rfl, fun j _ hj => absurd hj (by omega)⟩
      case round =>
        obtain ⟨i, hi, rfl, hw, HN⟩ := hrel
        subst hw
        by_cases hlt : i < s.size
        · have g1 : (i : Int) < (s.size : Int) := by omega
          go_upto_region 7 with fail
          go_cut [5] from 23 to 58 (fun a wx => a = .bool (lttr s[i].toNat) ∧ wx = wr)
          case first =>
            by_cases w0 : 97 ≤ s[i].toNat ∧ s[i].toNat ≤ 122
            · have HL : Hid (lttr s[i].toNat = true) := by show _ = _; unfold lttr; simp only [Bool.or_eq_true, decide_eq_true_eq]; omega
              have g2 : ((97 : Int) ≤ ((s[i].toNat : Nat) : Int)) := by omega
              have g3 : (((s[i].toNat : Nat) : Int) ≤ (122 : Int)) := by omega
              clear w0
              go_wp2_with fail
              go_meet
              case rel => exact ⟨by rw [HL.out], rfl⟩
            by_cases w1 : 65 ≤ s[i].toNat ∧ s[i].toNat ≤ 90
            · have HL : Hid (lttr s[i].toNat = true) := by show _ = _; unfold lttr; simp only [Bool.or_eq_true, decide_eq_true_eq]; omega
              have g2 : ¬ ((97 : Int) ≤ ((s[i].toNat : Nat) : Int)) := by omega
              have g3 : ((65 : Int) ≤ ((s[i].toNat : Nat) : Int)) := by omega
              have g4 : (((s[i].toNat : Nat) : Int) ≤ (90 : Int)) := by omega
              clear w0 w1
              go_wp2_with fail
              go_meet
              case rel => exact ⟨by rw [HL.out], rfl⟩
            by_cases w2 : 48 ≤ s[i].toNat ∧ s[i].toNat ≤ 57
            · have HL : Hid (lttr s[i].toNat = true) := by show _ = _; unfold lttr; simp only [Bool.or_eq_true, decide_eq_true_eq]; omega
              have g2 : ¬ ((97 : Int) ≤ ((s[i].toNat : Nat) : Int)) := by omega
              have g3 : ¬ ((65 : Int) ≤ ((s[i].toNat : Nat) : Int)) := by omega
              have g4 : ((48 : Int) ≤ ((s[i].toNat : Nat) : Int)) := by omega
              have g5 : (((s[i].toNat : Nat) : Int) ≤ (57 : Int)) := by omega
              clear w0 w1 w2
              go_wp2_with fail
              go_meet
              case rel => exact ⟨by rw [HL.out], rfl⟩
            by_cases w3 : 122 < s[i].toNat
            · have HL : Hid (lttr s[i].toNat = false) := by show _ = _; unfold lttr; simp only [Bool.or_eq_false_iff, decide_eq_false_iff_not]; omega
              have g2 : ((97 : Int) ≤ ((s[i].toNat : Nat) : Int)) := by omega
              have g3 : ¬ (((s[i].toNat : Nat) : Int) ≤ (122 : Int)) := by omega
              have g4 : ((65 : Int) ≤ ((s[i].toNat : Nat) : Int)) := by omega
              have g5 : ¬ (((s[i].toNat : Nat) : Int) ≤ (90 : Int)) := by omega
              have g6 : ((48 : Int) ≤ ((s[i].toNat : Nat) : Int)) := by omega
              have g7 : ¬ (((s[i].toNat : Nat) : Int) ≤ (57 : Int)) := by omega
              clear w0 w1 w2 w3
              go_wp2_with fail
              go_meet
              case rel => exact ⟨by rw [HL.out], rfl⟩
            by_cases w4 : 90 < s[i].toNat
            · have HL : Hid (lttr s[i].toNat = false) := by show _ = _; unfold lttr; simp only [Bool.or_eq_false_iff, decide_eq_false_iff_not]; omega
              have g2 : ¬ ((97 : Int) ≤ ((s[i].toNat : Nat) : Int)) := by omega
              have g3 : ((65 : Int) ≤ ((s[i].toNat : Nat) : Int)) := by omega
              have g4 : ¬ (((s[i].toNat : Nat) : Int) ≤ (90 : Int)) := by omega
              have g5 : ((48 : Int) ≤ ((s[i].toNat : Nat) : Int)) := by omega
              have g6 : ¬ (((s[i].toNat : Nat) : Int) ≤ (57 : Int)) := by omega
              clear w0 w1 w2 w3 w4
              go_wp2_with fail
              go_meet
              case rel => exact ⟨by rw [HL.out], rfl⟩
            by_cases w5 : 57 < s[i].toNat
            · have HL : Hid (lttr s[i].toNat = false) := by show _ = _; unfold lttr; simp only [Bool.or_eq_false_iff, decide_eq_false_iff_not]; omega
              have g2 : ¬ ((97 : Int) ≤ ((s[i].toNat : Nat) : Int)) := by omega
              have g3 : ¬ ((65 : Int) ≤ ((s[i].toNat : Nat) : Int)) := by omega
              have g4 : ((48 : Int) ≤ ((s[i].toNat : Nat) : Int)) := by omega
              have g5 : ¬ (((s[i].toNat : Nat) : Int) ≤ (57 : Int)) := by omega
              clear w0 w1 w2 w3 w4 w5
              go_wp2_with fail
              go_meet
              case rel => exact ⟨by rw [HL.out], rfl⟩
            have HL : Hid (lttr s[i].toNat = false) := by show _ = _; unfold lttr; simp only [Bool.or_eq_false_iff, decide_eq_false_iff_not]; omega
            have g2 : ¬ ((97 : Int) ≤ ((s[i].toNat : Nat) : Int)) := by omega
            have g3 : ¬ ((65 : Int) ≤ ((s[i].toNat : Nat) : Int)) := by omega
            have g4 : ¬ ((48 : Int) ≤ ((s[i].toNat : Nat) : Int)) := by omega
            clear w0 w1 w2 w3 w4 w5
            go_wp2_with fail
            go_meet
            case rel => exact ⟨by rw [HL.out], rfl⟩
          case rest =>
            obtain ⟨rfl, hww⟩ := hcut
            have hww := hww.symm
            subst hww
            have HNB : Hid (nby s[i].toNat = (lttr s[i].toNat || decide (s[i].toNat = 45) || decide (s[i].toNat = 46) || decide (s[i].toNat = 95))) := rfl
            have key : ∀ {b : Bool}, nby s[i].toNat = b → Hid (b = true → ∀ j (h : j < s.size), j < i + 1 → nby s[j].toNat = true) := fun hb h j hj hji => by
              by_cases e : j = i
              · subst e
                rw [hb, h]
              · exact HN.out j hj (by omega)
            have kno : nby s[i].toNat = false → Hid (nbl s = false) := fun hb => by
              show _ = _
              unfold nbl
              rw [Bool.and_eq_false_iff]
              refine .inr ?_
              rw [← Bool.not_eq_true]
              intro hall
              have h1 := List.all_eq_true.1 hall s[i] (by
                rw [ByteArray.getElem_eq_getElem_data]
                exact Array.mem_toList_iff.2 (Array.getElem_mem _))
              rw [hb] at h1
              cases h1
            cases hL : lttr s[i].toNat
            · by_cases c45 : s[i].toNat = 45
              · have HK := key (b := true) (by rw [HNB.out, hL, decide_eq_true c45]; rfl)
                have m1 : (((s[i].toNat : Nat) : Int) != 45) = false := by rw [bne_eq_false_iff_eq]; omega
                clear c45
                clear key kno HNB HN
                go_wp2_with fail
                go_roundw
                case rel => exact ⟨i + 1, by omega, by go_num, trivial, HK.out rfl⟩
                case measure => simp [intOf]; omega
              have m1 : (((s[i].toNat : Nat) : Int) != 45) = true := by rw [bne_iff_ne]; omega
              by_cases c46 : s[i].toNat = 46
              · have HK := key (b := true) (by rw [HNB.out, hL, decide_eq_false c45, decide_eq_true c46]; rfl)
                have m2 : (((s[i].toNat : Nat) : Int) != 46) = false := by rw [bne_eq_false_iff_eq]; omega
                clear c45 c46
                clear key kno HNB HN
                go_wp2_with fail
                go_roundw
                case rel => exact ⟨i + 1, by omega, by go_num, trivial, HK.out rfl⟩
                case measure => simp [intOf]; omega
              have m2 : (((s[i].toNat : Nat) : Int) != 46) = true := by rw [bne_iff_ne]; omega
              by_cases c95 : s[i].toNat = 95
              · have HK := key (b := true) (by rw [HNB.out, hL, decide_eq_false c45, decide_eq_false c46, decide_eq_true c95]; rfl)
                have m3 : (((s[i].toNat : Nat) : Int) != 95) = false := by rw [bne_eq_false_iff_eq]; omega
                clear c45 c46 c95
                clear key kno HNB HN
                go_wp2_with fail
                go_roundw
                case rel => exact ⟨i + 1, by omega, by go_num, trivial, HK.out rfl⟩
                case measure => simp [intOf]; omega
              have m3 : (((s[i].toNat : Nat) : Int) != 95) = true := by rw [bne_iff_ne]; omega
              have HK := kno (by rw [HNB.out, hL, decide_eq_false c45, decide_eq_false c46, decide_eq_false c95]; rfl)
              clear key kno HNB HN c45 c46 c95
              go_wp2_with fail
              go_ret
              exact ⟨by rw [HK.out]; rfl, rfl⟩
            · have HK := key (b := true) (by rw [HNB.out, hL]; rfl)
              clear key kno HNB HN
              go_wp2_with fail
              go_roundw
              case rel => exact ⟨i + 1, by omega, by go_num, trivial, HK.out rfl⟩
              case measure => simp [intOf]; omega
        · have g1 : ¬ (i : Int) < (s.size : Int) := by omega
          have HR : Hid (nbl s = true) := by
            show _ = _
            unfold nbl
            rw [decide_eq_true h0, decide_eq_true h64, Bool.true_and, Bool.true_and, List.all_eq_true]
            intro c hc
            obtain ⟨j, hj, e⟩ := List.getElem_of_mem hc
            have hj2 : j < s.size := by simpa using hj
            have h1 := HN.out j hj2 (by omega)
            rw [← e]
            exact h1
          go_wp2_with fail
          go_ret
          exact ⟨by rw [HR.out]; rfl, rfl⟩
    · have g1 : ¬ (s.size : Int) < 1 := by omega
      have g2 : (64 : Int) < s.size := by omega
      have HR : Hid (nbl s = false) := by show _ = _; unfold nbl; rw [decide_eq_false h64, Bool.and_false, Bool.false_and]
      clear h0 h64
      go_enter Tryz.func47, Tryz.ntmps47
      go_wp2_with fail
      go_ret
      exact ⟨by rw [HR.out]; rfl, rfl⟩
  · have g1 : (s.size : Int) < 1 := by omega
    have HR : Hid (nbl s = false) := by show _ = _; unfold nbl; rw [decide_eq_false h0, Bool.false_and, Bool.false_and]
    clear h0
    go_enter Tryz.func47, Tryz.ntmps47
    go_wp2_with fail
    go_ret
    exact ⟨by rw [HR.out]; rfl, rfl⟩
end
section
open Go.RowKit Go
/-! ### Follow, the reference's -/
def fwr (l : List Tp) : Nat → ByteArray → Bool → ByteArray × Bool × Bool
  | 0, _, _ => (⟨#[]⟩, false, false)
  | k + 1, s, z => match plc l s with
    | none => (s, z || (decide (s = nAny) || decide (s = nNull)), true)
    | some i => if (l.getD i ztp).k = 1 then fwr l k (l.getD i ztp).r.n (z || (l.getD i ztp).r.z) else (s, z, true)
def flr (l : List Tp) (s : ByteArray) : ByteArray × Bool × Bool := fwr l (l.length + 1) s false
theorem fwr_none {l : List Tp} {k : Nat} {s : ByteArray} {z : Bool} (h : plc l s = none) : fwr l (k + 1) s z = (s, z || (decide (s = nAny) || decide (s = nNull)), true) := by rw [fwr, h]
theorem fwr_end {l : List Tp} {k i : Nat} {s : ByteArray} {z : Bool} {t : Tp} (h : plc l s = some i) (ht : l[i]? = some t) (hk : t.k ≠ 1) : fwr l (k + 1) s z = (s, z, true) := by
  rw [fwr, h]
  simp only [List.getD, ht, Option.getD_some]
  rw [if_neg hk]
theorem fwr_on {l : List Tp} {k i : Nat} {s : ByteArray} {z : Bool} {t : Tp} (h : plc l s = some i) (ht : l[i]? = some t) (hk : t.k = 1) : fwr l (k + 1) s z = fwr l k t.r.n (z || t.r.z) := by
  rw [fwr, h]
  simp only [List.getD, ht, Option.getD_some]
  rw [if_pos hk]
theorem strB (s t : ByteArray) : (s.toList == t.toList) = decide (s = t) := by
  by_cases h : s = t
  · subst h
    rw [str_yes, decide_eq_true rfl]
  · rw [str_no h, decide_eq_false h]
set_option maxRecDepth 1000000 in
set_option maxHeartbeats 1000000 in
theorem follow11_any (w : World) (v : Value) (l : List Tp) (hv : TSl w v l) (s : ByteArray) : Calls Tryz.prog 23 #[v, .string s] w fun e w' => e = .returned (.tuple #[.string (flr l s).1, .bool (flr l s).2.1, .bool (flr l s).2.2]) ∧ w' = w := by
  have hmax := hv.max
  have HV := hide hv
  obtain ⟨⟨a, cap, rfl, hn, hc⟩, _⟩ := hv
  have HC := hide hc
  clear hc hn
  go_enter Tryz.func23, Tryz.ntmps23
  go_wp2_with fail
  go_loopw [1, 7, 8] (fun vs vz vi wx => ∃ (i : Nat) (s' : ByteArray) (z : Bool), i ≤ l.length + 1 ∧ vs = .string s' ∧ vz = .bool z ∧ vi = .int .i64 (i : Nat) ∧ wx = w ∧ Hid (flr l s = fwr l (l.length + 1 - i) s' z)) (fun _ _ vi _ => l.length + 1 - (intOf vi).toNat)
  case atStart => exact ⟨0, s, false, by omega, rfl, rfl, rfl, rfl, rfl⟩
  case round =>
    obtain ⟨i, s', z, hi, rfl, rfl, rfl, hw, HF⟩ := hrel
    subst hw
    have HP := hide (place11_any wr (.slice a l.length cap) l HV.out s')
    by_cases hlt : i < l.length + 1
    · have g1 : (i : Int) ≤ (l.length : Int) := by omega
      have HS : Hid (l.length + 1 - i = (l.length + 1 - (i + 1)) + 1) := by show _ = _; omega
      rw [HS.out] at HF
      cases hp : plc l s' with
      | none =>
        have HPL : Hid (pli l s' = -1) := by show _ = _; unfold pli; rw [hp]
        rw [HPL.out] at HP
        have HE : Hid (flr l s = (s', z || (decide (s' = nAny) || decide (s' = nNull)), true)) := HF.out.trans (fwr_none hp)
        have e1 := strB s' nAny
        have e2 := strB s' nNull
        rw [any_list] at e1
        rw [null_list] at e2
        clear hp HPL HF HS
        generalize decide (s' = nAny) = b1 at *
        generalize decide (s' = nNull) = b2 at *
        cases z <;> cases b1 <;> cases b2 <;> (
          go_wp2_with (go_at_call 50; refine HP.out.mono ?_; rintro e wq ⟨rfl, hwq⟩; have hwq := hwq.symm; subst hwq)
          go_ret3
          exact ⟨by rw [HE.out]; rfl, rfl⟩)
      | some j =>
        have HPL : Hid (pli l s' = (j : Nat)) := by show _ = _; unfold pli; rw [hp]
        rw [HPL.out] at HP
        obtain ⟨t, ht, htn⟩ := plc_lt hp
        have hjl : j < l.length := (List.getElem?_eq_some_iff.1 ht).1
        have g2 : (j : Int) < (l.length : Int) := by omega
        have g3 : ¬ (j : Int) < 0 := by omega
        obtain ⟨b, off, rfl, hcc⟩ := HC.out.resolve_left (fun h => by rw [h] at hjl; simp at hjl)
        obtain ⟨c, ⟨⟨vf, vc, vw, rfl, _⟩, _⟩, hcell⟩ := hcc j t ht
        have q1 := hcell 1 (.int .i64 t.k) rfl
        have q4 := hcell 4 (.string t.r.n) rfl
        have q5 := hcell 5 (.bool t.r.z) rfl
        by_cases hk : t.k = 1
        · have g4 : (t.k != 1) = false := by rw [bne_eq_false_iff_eq]; exact hk
          have HE : Hid (flr l s = fwr l (l.length + 1 - (i + 1)) t.r.n (z || t.r.z)) := HF.out.trans (fwr_on hp ht hk)
          clear hp HPL HF HS ht htn hk hcc hcell
          cases z
          · go_wp2_with (go_at_call 50; refine HP.out.mono ?_; rintro e wq ⟨rfl, hwq⟩; have hwq := hwq.symm; subst hwq)
            go_roundw
            case rel => exact ⟨i + 1, _, _, by omega, rfl, rfl, by go_num, trivial, HE⟩
            case measure => simp [intOf]; omega
          · go_wp2_with (go_at_call 50; refine HP.out.mono ?_; rintro e wq ⟨rfl, hwq⟩; have hwq := hwq.symm; subst hwq)
            go_roundw
            case rel => exact ⟨i + 1, _, _, by omega, rfl, rfl, by go_num, trivial, HE⟩
            case measure => simp [intOf]; omega
        · have g4 : (t.k != 1) = true := by rw [bne_iff_ne]; exact hk
          have HE : Hid (flr l s = (s', z, true)) := HF.out.trans (fwr_end hp ht hk)
          clear hp HPL HF HS ht htn hk hcc hcell
          cases z
          · go_wp2_with (go_at_call 50; refine HP.out.mono ?_; rintro e wq ⟨rfl, hwq⟩; have hwq := hwq.symm; subst hwq)
            go_ret3
            exact ⟨by rw [HE.out]; rfl, rfl⟩
          · go_wp2_with (go_at_call 50; refine HP.out.mono ?_; rintro e wq ⟨rfl, hwq⟩; have hwq := hwq.symm; subst hwq)
            go_ret3
            exact ⟨by rw [HE.out]; rfl, rfl⟩
    · have g1 : ¬ (i : Int) ≤ (l.length : Int) := by omega
      have HE : Hid (flr l s = (⟨#[]⟩, false, false)) := by
        rw [show l.length + 1 - i = 0 by omega] at HF
        exact HF.out
      go_wp2_with fail
      go_ret3
      exact ⟨by rw [HE.out]; rfl, rfl⟩
end
end Go.Proofs.YtcmfgambfgebfaaGreatDoor
