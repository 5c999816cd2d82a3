import Derived.Test.YtdejcapbggjjgaaGreatDoorJd
import Derived.Test.YtdejcapbggjjgaaGreatDoorJe
import Derived.Deep.CutBlock
import Derived.Test.YtdejcapbggjjgaaGreatDoorJi
import Derived.Lib.ValidLaws
import Derived.Deep.QuietTactic
import Derived.BigQuiet
import Derived.Deep.RegionWith
namespace Go.Proofs.YtdejcapbggjjgaaGreatDoor
section
open Go.RowKit Go
/-- How many bytes a code point's first byte asks for; the bounds of the second. -/
def un (c : Nat) : Nat := if 194 ≤ c ∧ c ≤ 223 then 2 else if 224 ≤ c ∧ c ≤ 239 then 3 else if 240 ≤ c ∧ c ≤ 244 then 4 else 0
def ulo (c : Nat) : Nat := if c = 240 then 144 else if c = 224 then 160 else 128
def uhi (c : Nat) : Nat := if c = 244 then 143 else if c = 237 then 159 else 191
/-- How many bytes the code point at the front has; 0: there is none. -/
def uone (b : List Nat) : Nat := match b with
  | [] => 0
  | c :: r => if c < 128 then 1
    else if un c = 0 ∨ b.length < un c ∨ r.getD 0 0 < ulo c ∨ uhi c < r.getD 0 0 then 0
    else if ((b.take (un c)).drop 2).all (fun x => decide (128 ≤ x) && decide (x ≤ 191)) then un c else 0
theorem un_le (c : Nat) : un c ≤ 4 := by
  unfold un
  split
  · omega
  · split
    · omega
    · split <;> omega
theorem un_ge (c : Nat) : un c = 0 ∨ 2 ≤ un c := by
  unfold un
  split
  · omega
  · split
    · omega
    · split <;> omega
theorem drop_take2 (B : List Nat) : (B.take 2).drop 2 = [] := List.drop_of_length_le (by rw [List.length_take]; omega)
theorem take_drop2 {B : List Nat} {i : Nat} (h2 : 2 ≤ i) (hi : i < B.length) : (B.take (i + 1)).drop 2 = (B.take i).drop 2 ++ [B.getD i 0] := by
  rw [take_at B i hi, List.drop_append_of_le_length (by rw [List.length_take]; omega)]
theorem mem_take_drop2 {B : List Nat} {i n : Nat} (h2 : 2 ≤ i) (hn : i < n) (hi : i < B.length) : B.getD i 0 ∈ (B.take n).drop 2 := by
  rw [List.mem_iff_getElem?]
  refine ⟨i - 2, ?_⟩
  rw [List.getElem?_drop, show 2 + (i - 2) = i by omega, List.getElem?_take_of_lt hn, List.getD_eq_getElem?_getD, List.getElem?_eq_getElem hi]
  rfl
set_option maxRecDepth 1000000 in
set_option maxHeartbeats 1000000 in
theorem one6_any (w : World) (s : ByteArray) (hs : s.size ≤ 9223372036854775807) : Calls Tryz.prog 114 #[.string s] w fun e w' => e = .returned (.int .i64 (uone (sl s) : Nat)) ∧ w' = w := by
  have HSL := hide (sl_len s)
  have HAT := hide (fun i h => sl_at s i h)
  go_enter Tryz.func114, Tryz.ntmps114
  cases hsl : sl s with
  | nil =>
    as_aux_lemma =>
    have hz : s.size = 0 := by rw [← HSL.out, hsl]; rfl
    have g0 : ((s.size : Int) == 0) = true := beq_iff_eq.2 (by omega)
    clear hz hsl
    go_wp2_with fail
    go_ret
    exact ⟨rfl, rfl⟩
  | cons c r =>
    have hz : s.size = r.length + 1 := by rw [← HSL.out, hsl]; rfl
    have g0 : ((s.size : Int) == 0) = false := beq_eq_false_iff_ne.2 (by omega)
    have gp : (0 : Int) < (s.size : Int) := by omega
    have h0 : 0 < s.size := by omega
    have HC : Hid (s[0].toNat = c) := by
      have h := HAT.out 0 h0
      rw [hsl] at h
      exact h.symm
    have HU : Hid (uone (c :: r) = if c < 128 then 1 else if un c = 0 ∨ s.size < un c ∨ r.getD 0 0 < ulo c ∨ uhi c < r.getD 0 0 then 0 else if (((c :: r).take (un c)).drop 2).all (fun x => decide (128 ≤ x) && decide (x ≤ 191)) then un c else 0) := by
      show _ = _
      unfold uone
      rw [hz]
      rfl
    have HSX := hide hsl
    have hc6 : s[0].toNat < 256 := (s[0]).toNat_lt
    have HZ := hide hz
    clear hz
    by_cases h128 : c < 128
    · as_aux_lemma =>
      rw [if_pos h128] at HU
      have g1 : (s[0].toNat : Int) < 128 := by have := HC.out; omega
      clear h128 hsl
      go_wp2_with fail
      go_ret
      exact ⟨by rw [HU.out]; rfl, rfl⟩
    · rw [if_neg h128] at HU
      have g1 : ¬ (s[0].toNat : Int) < 128 := by have := HC.out; omega
      have HC8 : Hid (¬ c < 128) := h128
      clear h128 hsl
      go_upto_block 0 with fail
      go_cut [4] (fun nn wx => nn = .int .i64 (un c : Nat) ∧ wx = w)
      case first => as_aux_lemma =>
        by_cases a1 : 194 ≤ s[0].toNat
        · have k1 : (194 : Int) ≤ (s[0].toNat : Int) := by omega
          by_cases a2 : s[0].toNat ≤ 223
          · have k2 : (s[0].toNat : Int) ≤ 223 := by omega
            have HN : Hid (un c = 2) := by show _ = _; rw [← HC.out]; exact if_pos ⟨a1, a2⟩
            go_wp2_with fail
            go_meet
            case rel => exact ⟨by rw [HN.out]; rfl, rfl⟩
          · have k2 : ¬ (s[0].toNat : Int) ≤ 223 := by omega
            have k3 : (224 : Int) ≤ (s[0].toNat : Int) := by omega
            by_cases a3 : s[0].toNat ≤ 239
            · have k4 : (s[0].toNat : Int) ≤ 239 := by omega
              have HN : Hid (un c = 3) := by show _ = _; rw [← HC.out]; unfold un; rw [if_neg (by omega), if_pos (by omega)]
              go_wp2_with fail
              go_meet
              case rel => exact ⟨by rw [HN.out]; rfl, rfl⟩
            · have k4 : ¬ (s[0].toNat : Int) ≤ 239 := by omega
              have k5 : (240 : Int) ≤ (s[0].toNat : Int) := by omega
              by_cases a4 : s[0].toNat ≤ 244
              · have k6 : (s[0].toNat : Int) ≤ 244 := by omega
                have HN : Hid (un c = 4) := by show _ = _; rw [← HC.out]; unfold un; rw [if_neg (by omega), if_neg (by omega), if_pos (by omega)]
                go_wp2_with fail
                go_meet
                case rel => exact ⟨by rw [HN.out]; rfl, rfl⟩
              · have k6 : ¬ (s[0].toNat : Int) ≤ 244 := by omega
                have HN : Hid (un c = 0) := by show _ = _; rw [← HC.out]; unfold un; rw [if_neg (by omega), if_neg (by omega), if_neg (by omega)]
                go_wp2_with fail
                go_meet
                case rel => exact ⟨by rw [HN.out]; rfl, rfl⟩
        · have k1 : ¬ (194 : Int) ≤ (s[0].toNat : Int) := by omega
          have k2 : ¬ (224 : Int) ≤ (s[0].toNat : Int) := by omega
          have k3 : ¬ (240 : Int) ≤ (s[0].toNat : Int) := by omega
          have HN : Hid (un c = 0) := by show _ = _; rw [← HC.out]; unfold un; rw [if_neg (by omega), if_neg (by omega), if_neg (by omega)]
          go_wp2_with fail
          go_meet
          case rel => exact ⟨by rw [HN.out]; rfl, rfl⟩
      case rest => as_aux_lemma =>
        obtain ⟨hnn, hww⟩ := hcut
        have hww := hww.symm
        subst hww
        have hu4 := un_le c
        generalize hun : un c = n at *
        have HUN := hide hun
        clear hun
        subst hnn
        go_upto_if 37 with fail
        go_cut [5] (fun ll wx => ∃ zz : Nat, ll = .int .u8 (zz : Nat) ∧ zz < 256 ∧ Hid (zz = if c = 224 then 160 else 128) ∧ wx = w)
        case first => as_aux_lemma =>
          by_cases a1 : s[0].toNat = 224
          · have k1 : ((s[0].toNat : Int) == 224) = true := beq_iff_eq.2 (by omega)
            have HN : Hid (160 = if c = 224 then 160 else 128) := by show _ = _; rw [← HC.out, if_pos a1]
            clear a1
            go_wp2_with fail
            go_meet
            case rel => exact ⟨160, rfl, by omega, HN, rfl⟩
          · have k1 : ((s[0].toNat : Int) == 224) = false := beq_eq_false_iff_ne.2 (by omega)
            have HN : Hid (128 = if c = 224 then 160 else 128) := by show _ = _; rw [← HC.out, if_neg a1]
            clear a1
            go_wp2_with fail
            go_meet
            case rel => exact ⟨128, rfl, by omega, HN, rfl⟩
        case rest => as_aux_lemma =>
          obtain ⟨l1, rfl, hl1, Hl1, hww⟩ := hcut
          have hww := hww.symm
          subst hww
          go_upto_if 39 with fail
          go_cut [6] (fun ll wx => ∃ zz : Nat, ll = .int .u8 (zz : Nat) ∧ zz < 256 ∧ Hid (zz = if c = 237 then 159 else 191) ∧ wx = w)
          case first => as_aux_lemma =>
            by_cases a1 : s[0].toNat = 237
            · have k1 : ((s[0].toNat : Int) == 237) = true := beq_iff_eq.2 (by omega)
              have HN : Hid (159 = if c = 237 then 159 else 191) := by show _ = _; rw [← HC.out, if_pos a1]
              clear a1
              go_wp2_with fail
              go_meet
              case rel => exact ⟨159, rfl, by omega, HN, rfl⟩
            · have k1 : ((s[0].toNat : Int) == 237) = false := beq_eq_false_iff_ne.2 (by omega)
              have HN : Hid (191 = if c = 237 then 159 else 191) := by show _ = _; rw [← HC.out, if_neg a1]
              clear a1
              go_wp2_with fail
              go_meet
              case rel => exact ⟨191, rfl, by omega, HN, rfl⟩
          case rest => as_aux_lemma =>
            obtain ⟨h1, rfl, hh1, Hh1, hww⟩ := hcut
            have hww := hww.symm
            subst hww
            go_upto_if 41 with fail
            go_cut [5] (fun ll wx => ∃ zz : Nat, ll = .int .u8 (zz : Nat) ∧ zz < 256 ∧ Hid (zz = if c = 240 then 144 else l1) ∧ wx = w)
            case first => as_aux_lemma =>
              by_cases a1 : s[0].toNat = 240
              · have k1 : ((s[0].toNat : Int) == 240) = true := beq_iff_eq.2 (by omega)
                have HN : Hid (144 = if c = 240 then 144 else l1) := by show _ = _; rw [← HC.out, if_pos a1]
                clear a1
                go_wp2_with fail
                go_meet
                case rel => exact ⟨144, rfl, by omega, HN, rfl⟩
              · have k1 : ((s[0].toNat : Int) == 240) = false := beq_eq_false_iff_ne.2 (by omega)
                have HN : Hid (l1 = if c = 240 then 144 else l1) := by show _ = _; rw [← HC.out, if_neg a1]
                clear a1
                go_wp2_with fail
                go_meet
                case rel => exact ⟨l1, rfl, by omega, HN, rfl⟩
            case rest => as_aux_lemma =>
              obtain ⟨l2, rfl, hl2, Hl2, hww⟩ := hcut
              have hww := hww.symm
              subst hww
              go_upto_if 43 with fail
              go_cut [6] (fun ll wx => ∃ zz : Nat, ll = .int .u8 (zz : Nat) ∧ zz < 256 ∧ Hid (zz = if c = 244 then 143 else h1) ∧ wx = w)
              case first => as_aux_lemma =>
                by_cases a1 : s[0].toNat = 244
                · have k1 : ((s[0].toNat : Int) == 244) = true := beq_iff_eq.2 (by omega)
                  have HN : Hid (143 = if c = 244 then 143 else h1) := by show _ = _; rw [← HC.out, if_pos a1]
                  clear a1
                  go_wp2_with fail
                  go_meet
                  case rel => exact ⟨143, rfl, by omega, HN, rfl⟩
                · have k1 : ((s[0].toNat : Int) == 244) = false := beq_eq_false_iff_ne.2 (by omega)
                  have HN : Hid (h1 = if c = 244 then 143 else h1) := by show _ = _; rw [← HC.out, if_neg a1]
                  clear a1
                  go_wp2_with fail
                  go_meet
                  case rel => exact ⟨h1, rfl, by omega, HN, rfl⟩
              case rest => as_aux_lemma =>
                obtain ⟨h2, rfl, hh2, Hh2, hww⟩ := hcut
                have hww := hww.symm
                subst hww
                have HLO : Hid (ulo c = l2) := by show _ = _; unfold ulo; rw [Hl2.out, Hl1.out]
                have HHI : Hid (uhi c = h2) := by show _ = _; unfold uhi; rw [Hh2.out, Hh1.out]
                rw [HLO.out, HHI.out] at HU
                clear Hl1 Hl2 Hh1 Hh2 HLO HHI hl1 hh1
                by_cases b1 : n = 0
                · as_aux_lemma =>
                  rw [if_pos (.inl b1)] at HU
                  have k1 : ((n : Int) == 0) = true := beq_iff_eq.2 (by omega)
                  clear b1
                  go_wp2_with fail
                  go_ret
                  exact ⟨by rw [HU.out]; rfl, rfl⟩
                · have k1 : ((n : Int) == 0) = false := beq_eq_false_iff_ne.2 (by omega)
                  by_cases b2 : s.size < n
                  · as_aux_lemma =>
                    rw [if_pos (.inr (.inl b2))] at HU
                    have k2 : (s.size : Int) < (n : Int) := by omega
                    go_wp2_with fail
                    go_ret
                    exact ⟨by rw [HU.out]; rfl, rfl⟩
                  · have k2 : ¬ (s.size : Int) < (n : Int) := by omega
                    have hn2 : 2 ≤ n := by
                      rcases un_ge c with e | e
                      · rw [HUN.out] at e
                        exact absurd e b1
                      · rw [HUN.out] at e
                        exact e
                    have h1s : 1 < s.size := by omega
                    have gp1 : (1 : Int) < (s.size : Int) := by omega
                    have HS1 : Hid (r.getD 0 0 = s[1].toNat) := by
                      have h := HAT.out 1 h1s
                      rw [HSX.out] at h
                      exact h
                    rw [HS1.out] at HU
                    have hs6 : s[1].toNat < 256 := (s[1]).toNat_lt
                    by_cases b3 : s[1].toNat < l2
                    · as_aux_lemma =>
                      rw [if_pos (.inr (.inr (.inl b3)))] at HU
                      have k3 : (s[1].toNat : Int) < (l2 : Int) := by omega
                      go_wp2_with fail
                      go_ret
                      exact ⟨by rw [HU.out]; rfl, rfl⟩
                    · have k3 : ¬ (s[1].toNat : Int) < (l2 : Int) := by omega
                      by_cases b4 : h2 < s[1].toNat
                      · as_aux_lemma =>
                        rw [if_pos (.inr (.inr (.inr b4)))] at HU
                        have k4 : (h2 : Int) < (s[1].toNat : Int) := by omega
                        go_wp2_with fail
                        go_ret
                        exact ⟨by rw [HU.out]; rfl, rfl⟩
                      · have k4 : ¬ (h2 : Int) < (s[1].toNat : Int) := by omega
                        rw [if_neg (by omega)] at HU
                        have HCL : Hid ((c :: r).length = s.size) := by show _ = _; rw [← HSX.out, HSL.out]
                        have HGT : Hid (∀ i (h : i < s.size), (c :: r).getD i 0 = s[i].toNat) := fun i h => by have e := HAT.out i h; rw [HSX.out] at e; exact e
                        clear b1 HUN HS1 HAT HSX HSL HZ
                        generalize hcr : c :: r = B at HU HCL HGT
                        have HCR : Hid (c :: r = B) := hcr
                        clear hcr
                        go_wp2_with fail
                        go_loopw [7] (fun ii wx => ∃ i : Nat, 2 ≤ i ∧ i ≤ n ∧ ii = .int .i64 (i : Nat) ∧ Hid (((B.take i).drop 2).all (fun x => decide (128 ≤ x) && decide (x ≤ 191)) = true) ∧ wx = w) (fun ii _ => n - (intOf ii).toNat)
                        case atStart => exact ⟨2, by omega, by omega, rfl, by show _ = _; rw [drop_take2]; rfl, rfl⟩
                        case round => as_aux_lemma =>
                          obtain ⟨i, hi2, hin, rfl, HALL, hww⟩ := hrel
                          have hww := hww.symm
                          subst hww
                          by_cases hlt : i < n
                          · have m1 : (i : Int) < (n : Int) := by omega
                            have his : i < s.size := by omega
                            have m2 : (i : Int) < (s.size : Int) := by omega
                            have HGi := hide (HGT.out i his)
                            have HTS := hide (take_drop2 (B := B) (i := i) hi2 (by rw [HCL.out]; exact his))
                            rw [HGi.out] at HTS
                            have HMEM : Hid (s[i].toNat ∈ (B.take n).drop 2) := by
                              have e := mem_take_drop2 (B := B) (i := i) (n := n) hi2 hlt (by rw [HCL.out]; exact his)
                              rw [HGi.out] at e
                              exact e
                            by_cases c1 : s[i].toNat < 128
                            · as_aux_lemma =>
                              have q1 : (s[i].toNat : Int) < 128 := by omega
                              rw [if_neg (fun h => by have e := List.all_eq_true.1 h _ HMEM.out; simp at e; omega)] at HU
                              go_wp2_with fail
                              go_ret
                              exact ⟨by rw [HCR.out, HU.out]; rfl, rfl⟩
                            · have q1 : ¬ (s[i].toNat : Int) < 128 := by omega
                              by_cases c2 : 191 < s[i].toNat
                              · as_aux_lemma =>
                                have q2 : (191 : Int) < (s[i].toNat : Int) := by omega
                                rw [if_neg (fun h => by have e := List.all_eq_true.1 h _ HMEM.out; simp at e; omega)] at HU
                                go_wp2_with fail
                                go_ret
                                exact ⟨by rw [HCR.out, HU.out]; rfl, rfl⟩
                              · as_aux_lemma =>
                                have q2 : ¬ (191 : Int) < (s[i].toNat : Int) := by omega
                                have HA2 : Hid (((B.take (i + 1)).drop 2).all (fun x => decide (128 ≤ x) && decide (x ≤ 191)) = true) := by
                                  show _ = _
                                  rw [HTS.out, List.all_append, HALL.out]
                                  simp
                                  omega
                                go_wp2_with fail
                                go_roundw
                                case rel => exact ⟨i + 1, by omega, by omega, by go_num, HA2, trivial⟩
                                case measure => simp [intOf]; omega
                          · as_aux_lemma =>
                            have m1 : ¬ (i : Int) < (n : Int) := by omega
                            have hien : i = n := by omega
                            rw [hien] at HALL
                            rw [if_pos HALL.out] at HU
                            clear hien
                            go_wp2_with fail
                            go_ret
                            exact ⟨by rw [HCR.out, HU.out]; rfl, rfl⟩
end
section
open Go.RowKit Go
theorem uone_le (b : List Nat) : uone b ≤ b.length := by
  unfold uone
  split
  · omega
  · rename_i c r
    split
    · simp
    · split
      · omega
      · split
        · omega
        · omega
/-- Code points from end to end. -/
def ugood (b : List Nat) : Bool := if b = [] then true else if _h : uone b = 0 then false else ugood (b.drop (uone b))
termination_by b.length
decreasing_by
  have := uone_le b
  rw [List.length_drop]
  omega
theorem ugood_nil : ugood [] = true := by rw [ugood, if_pos rfl]
theorem ugood_bad {b : List Nat} (h : b ≠ []) (h0 : uone b = 0) : ugood b = false := by rw [ugood, if_neg h, dif_pos h0]
theorem ugood_step {b : List Nat} (h : b ≠ []) (h0 : uone b ≠ 0) : ugood b = ugood (b.drop (uone b)) := by rw [ugood, if_neg h, dif_neg h0]
set_option maxRecDepth 1000000 in
set_option maxHeartbeats 1000000 in
theorem good6_any (w : World) (s : ByteArray) (hs : s.size ≤ 9223372036854775807) : Calls Tryz.prog 100 #[.string s] w fun e w' => e = .returned (.bool (ugood (sl s))) ∧ w' = w := by
  have HSL := hide (sl_len s)
  generalize hG : ugood (sl s) = G
  have HG := hide hG
  clear hG
  go_enter Tryz.func100, Tryz.ntmps100
  go_wp2_with fail
  go_loopw [3] (fun ii wx => ∃ i : Nat, i ≤ s.size ∧ ii = .int .i64 (i : Nat) ∧ Hid (ugood ((sl s).drop i) = G) ∧ wx = w) (fun ii _ => s.size - (intOf ii).toNat)
  case atStart => exact ⟨0, by omega, rfl, by show _ = _; rw [List.drop_zero]; exact HG.out, rfl⟩
  case round => as_aux_lemma =>
    obtain ⟨i, hi, rfl, HD, hww⟩ := hrel
    have hww := hww.symm
    subst hww
    clear HG
    by_cases hlt : i < s.size
    · have m1 : (i : Int) < (s.size : Int) := by omega
      have m2 : (i : Int) ≤ (s.size : Int) := by omega
      have HNE : Hid ((sl s).drop i ≠ []) := fun h => by
        have e := congrArg List.length h
        rw [List.length_drop, HSL.out] at e
        simp at e
        omega
      have HX : Hid (sl (s.extract i s.size) = (sl s).drop i) := by
        show _ = _
        rw [sl_extract, ← HSL.out, List.take_length]
      have HLE : Hid (uone ((sl s).drop i) ≤ s.size - i) := by
        have h := uone_le ((sl s).drop i)
        rw [List.length_drop, HSL.out] at h
        exact h
      have HC : Hid (∀ wx, Calls Tryz.prog 114 #[.string (s.extract i s.size)] wx fun e w' => e = .returned (.int .i64 (uone ((sl s).drop i) : Nat)) ∧ w' = wx) := fun wx => by
        have h := one6_any wx (s.extract i s.size) (by rw [← sl_len, HX.out, List.length_drop, HSL.out]; omega)
        rw [HX.out] at h
        exact h
      have HB0 : Hid (uone ((sl s).drop i) = 0 → false = G) := fun h => (ugood_bad HNE.out h).symm.trans HD.out
      have HB1 : Hid (uone ((sl s).drop i) ≠ 0 → ugood ((sl s).drop (i + uone ((sl s).drop i))) = G) := fun h => by
        rw [← HD.out, ugood_step HNE.out h, List.drop_drop]
      clear HX HNE HD
      generalize uone ((sl s).drop i) = n at *
      have hle := HLE.out
      clear HLE
      go_wp2_with fail
      refine (HC.out w).mono ?_
      rintro e w3 ⟨rfl, hw3⟩
      have hw3 := hw3.symm
      subst hw3
      clear HC
      by_cases hn : n = 0
      · as_aux_lemma =>
        have k1 : ((n : Int) == 0) = true := beq_iff_eq.2 (by omega)
        have HGG := hide (HB0.out hn)
        clear hn
        go_wp2_with fail
        go_ret
        exact ⟨by rw [← HGG.out]; rfl, rfl⟩
      · as_aux_lemma =>
        have k1 : ((n : Int) == 0) = false := beq_eq_false_iff_ne.2 (by omega)
        have HGG := hide (HB1.out hn)
        go_wp2_with fail
        go_roundw
        case rel => exact ⟨i + n, by omega, by go_num, HGG, trivial⟩
        case measure => simp [intOf]; omega
    · as_aux_lemma =>
      have m1 : ¬ (i : Int) < (s.size : Int) := by omega
      have HGG : Hid (true = G) := by
        show _ = _
        rw [← HD.out, List.drop_of_length_le (by rw [HSL.out]; omega), ugood_nil]
      go_wp2_with fail
      go_ret
      exact ⟨by rw [← HGG.out]; rfl, rfl⟩
end
section
open Go.RowKit Go
theorem first_un : ∀ c : Fin 256, 128 ≤ c.val → (un c.val = 0 → Lib.firstT c.val % 8 ≠ 2 ∧ Lib.firstT c.val % 8 ≠ 3 ∧ Lib.firstT c.val % 8 ≠ 4) ∧ (un c.val ≠ 0 → Lib.firstT c.val % 8 = un c.val ∧ Lib.accLo (Lib.firstT c.val / 16) = ulo c.val ∧ Lib.accHi (Lib.firstT c.val / 16) = uhi c.val) := by decide +kernel
theorem un_is (c : Nat) : un c = 0 ∨ un c = 2 ∨ un c = 3 ∨ un c = 4 := by
  unfold un
  split
  · omega
  · split
    · omega
    · split <;> omega
theorem uone_lead (c : Nat) (r : List Nat) (h : 128 ≤ c) : uone (c :: r) = if un c = 0 ∨ (c :: r).length < un c ∨ r.getD 0 0 < ulo c ∨ uhi c < r.getD 0 0 then 0 else if (((c :: r).take (un c)).drop 2).all (fun x => decide (128 ≤ x) && decide (x ≤ 191)) then un c else 0 := by
  show (if c < 128 then 1 else _) = _
  rw [if_neg (by omega)]
theorem uone_chk (x : UInt8) (r : List UInt8) (h : 128 ≤ x.toNat) : Lib.checkN (x :: r).length ((x :: r).getD 1 0).toNat ((x :: r).getD 2 0).toNat ((x :: r).getD 3 0).toNat (Lib.firstT x.toNat % 8) (Lib.accLo (Lib.firstT x.toNat / 16)) (Lib.accHi (Lib.firstT x.toNat / 16)) = if uone ((x :: r).map UInt8.toNat) = 0 then none else some (uone ((x :: r).map UInt8.toNat)) := by
  obtain ⟨h0, h1⟩ := first_un ⟨x.toNat, x.toNat_lt⟩ h
  simp only at h0 h1
  rw [List.map_cons, uone_lead _ _ h]
  by_cases hu : un x.toNat = 0
  · have e := h0 hu
    rw [if_pos (Or.inl hu : un x.toNat = 0 ∨ _), if_pos (rfl : (0 : Nat) = 0)]
    unfold Lib.checkN
    rw [if_neg e.1, if_neg e.2.1, if_neg e.2.2]
  · obtain ⟨e1, e2, e3⟩ := h1 hu
    rw [e1, e2, e3]
    clear e1 e2 e3 h0 h1
    unfold Lib.checkN
    generalize ulo x.toNat = lo
    generalize uhi x.toNat = hi
    rcases un_is x.toNat with e | e | e | e
    · exact absurd e hu
    · rw [e]
      clear e hu
      rcases r with _ | ⟨a, _ | ⟨b, _ | ⟨d, r⟩⟩⟩ <;> simp <;> (try split) <;> simp_all <;> omega
    · rw [e]
      clear e hu
      rcases r with _ | ⟨a, _ | ⟨b, _ | ⟨d, r⟩⟩⟩ <;> simp <;> (try split) <;> simp_all <;> omega
    · rw [e]
      clear e hu
      rcases r with _ | ⟨a, _ | ⟨b, _ | ⟨d, r⟩⟩⟩ <;> simp <;> (try split) <;> simp_all <;> omega
theorem uone_ascii (c : Nat) (r : List Nat) (h : c < 128) : uone (c :: r) = 1 := if_pos h
theorem valid_ugood (n : Nat) : ∀ l : List UInt8, l.length ≤ n → Lib.validD l = ugood (l.map UInt8.toNat) := by
  induction n with
  | zero => intro l hl; rw [List.eq_nil_of_length_eq_zero (Nat.le_zero.1 hl)]; exact ugood_nil.symm
  | succ n ih =>
    intro l hl
    rcases l with _ | ⟨x, r⟩
    · exact ugood_nil.symm
    · by_cases h : x.toNat < 128
      · rw [Lib.validD_cons x r h, List.map_cons, ugood_step (by simp) (by rw [uone_ascii _ _ h]; decide), uone_ascii _ _ h, ih r (by simp at hl; omega)]
        rfl
      · have hk := uone_chk x r (by omega)
        rw [Lib.validD_lead (x :: r) (by simp) (by show 128 ≤ x.toNat; omega)]
        show (match Lib.checkN (x :: r).length ((x :: r).getD 1 0).toNat ((x :: r).getD 2 0).toNat ((x :: r).getD 3 0).toNat (Lib.firstT x.toNat % 8) (Lib.accLo (Lib.firstT x.toNat / 16)) (Lib.accHi (Lib.firstT x.toNat / 16)) with | none => false | some k => Lib.validD ((x :: r).drop k)) = _
        rw [hk]
        by_cases h0 : uone ((x :: r).map UInt8.toNat) = 0
        · rw [if_pos h0, ugood_bad (by simp) h0]
        · rw [if_neg h0, ugood_step (by simp) h0]
          show Lib.validD ((x :: r).drop (uone ((x :: r).map UInt8.toNat))) = _
          have hle := uone_le ((x :: r).map UInt8.toNat)
          rw [List.length_map] at hle
          rw [ih _ (by rw [List.length_drop]; simp only [List.length_cons] at hl ⊢; omega), List.map_drop]
theorem bad_good (s : ByteArray) : badb s = !ugood (sl s) := by
  unfold badb sl
  rw [valid_ugood _ _ (Nat.le_refl _)]
end
section
open Go.RowKit
theorem made_zero (k : Nat) : (madeCells (Value.int .u8 0).cells (k * 1)).toList = bv (List.replicate k 0) := by
  have hc : (Value.int .u8 0).cells = #[.int .u8 0] := rfl
  rw [hc]
  apply List.ext_getElem?
  intro j
  by_cases hj : j < k
  · rw [bv_get (by simpa using hj)]
    have h1 : j % 1 = 0 := Nat.mod_one j
    simp [madeCells, hj, List.getD, h1]
  · simp [madeCells, bv, hj]
theorem be_set (k j n : Nat) (h : j < k) : (bv (List.replicate (k - j) 0 ++ be j n)).set (k - 1 - j) (.int .u8 ((n / 256 ^ j % 256 : Nat) : Int)) = bv (List.replicate (k - (j + 1)) 0 ++ be (j + 1) n) := by
  have e : k - j = (k - (j + 1)) + 1 := by omega
  have e2 : k - 1 - j = k - (j + 1) := by omega
  rw [e, e2, List.replicate_succ', List.append_assoc]
  simp only [bv, List.map_append, be]
  rw [List.set_append_right _ _ (by simp)]
  simp
theorem be_at (k j n : Nat) (h : j < k) : (bv (List.replicate (k - j) 0 ++ be j n))[k - 1 - j]? = some (.int .u8 ((0 : Nat) : Int)) := by
  rw [bv_get (by simp [be_len]; omega)]
  simp only [List.getD]
  rw [List.getElem?_append_left (by simp; omega)]
  rw [List.getElem?_replicate, if_pos (by omega)]
  rfl

set_option maxRecDepth 1000000 in
set_option maxHeartbeats 400000 in
theorem fixed_any (n k : Nat) (w : World) (hn : n < 18446744073709551616) (hk : k ≤ 8) :
    Calls Tryz.prog 120 #[.int .u64 (n : Nat), .int .i64 (k : Nat)] w fun e w' => ∃ v, e = .returned (.tuple #[v, .bool (decide (n < 256 ^ k))]) ∧ w'.ownsRow w.heap.size 5 1 v k (bv (be k n)) ∧ Below w.heap.size w w' := by
  obtain ⟨i5, hi, hz0, hz1, hz2⟩ := info5_ex
  obtain ⟨w0, hmk, hown0, hgr0⟩ := run_make_full (P := Tryz.prog) w w.heap.size 46 5 i5 (.int .u8 0) 1 Tryz.underlying46 hi hz0 hz1 .i64 .i64 k (by rw [hz2]; omega) (by unfold maxLen; omega) (Nat.le_refl _)
  clear hi hz0 hz1 hz2
  rw [made_zero] at hown0
  have hbel0 : Below w.heap.size w w0 := (Below.refl _ _).grown hgr0 (Nat.le_refl _) (fun _ h => by cases h)
  generalize hB : w.heap.size = B at *
  have HB := hide hB
  have HO0 := hide hown0
  have HBL0 := hide hbel0
  have HN := hide hn
  clear hB hgr0 hown0 hbel0 hn
  go_enter Tryz.func120, Tryz.ntmps120
  go_wp2
  go_loopw [0, 7] (fun nn i wr => ∃ j : Nat, j ≤ k ∧ i = .int .i64 ((k : Int) - 1 - j) ∧ nn = .int .u64 ((n / 256 ^ j : Nat) : Int) ∧ wr.ownsRow B 5 1 (.slice (some ⟨B, 0, none⟩) k k) k (bv (List.replicate (k - j) 0 ++ be j n)) ∧ Below B w wr) (fun _ i _ => (intOf i + 1).toNat)
  case atStart => exact ⟨0, Nat.zero_le _, by simp, by simp, by simpa [be] using HO0.out, HBL0.out⟩
  case round =>
    obtain ⟨j, hj, rfl, rfl, hown, hbel⟩ := hrel
    clear HO0 HBL0 hmk
    have HO := hide hown
    have HBL := hide hbel
    clear hown hbel
    by_cases hlt : j < k
    · have hlt' : (0 : Int) ≤ (k : Int) - 1 - j := by omega
      have hidx : ((k : Int) - 1 - j) = ((k - 1 - j : Nat) : Int) := by omega
      obtain ⟨cg, fg⟩ := own_cell HO.out (be_at k j n hlt)
      have HSE := hide (be_set k j n hlt)
      have HDV : Hid (n / 256 ^ j / 256 = n / 256 ^ (j + 1)) := by show _ = _; rw [Nat.div_div_eq_div_mul, Nat.pow_succ]
      rw [hidx]
      have hi2 : k - 1 - j < k := by omega
      have hi3 : k - 1 - j < 9 := by omega
      have HID : Hid (((k - 1 - j : Nat) : Int) - 1 = (k : Int) - 1 - ((j + 1 : Nat) : Int)) := by show _ = _; omega
      have hq : n / 256 ^ j < 18446744073709551616 := Nat.lt_of_le_of_lt (Nat.div_le_self _ _) HN.out
      generalize k - 1 - j = q at *
      generalize n / 256 ^ j = N at *
      clear hidx hlt'
      go_wp2
      go_roundw
      case rel => exact ⟨j + 1, by omega, by rw [← HID.out], by rw [← HDV.out]; rfl, by rw [← HSE.out]; exact own_set _ HO.out, HBL.out.setCell (by simp) _⟩
      case measure => simp [intOf]
    · have hjk : j = k := by omega
      subst hjk
      have hlt' : ¬ (0 : Int) ≤ (j : Int) - 1 - j := by omega
      have ho := HO.out
      rw [Nat.sub_self] at ho
      have HO2 : Hid _ := hide ho
      have hz : ((n : Int) / 256 ^ j == 0) = decide (n < 256 ^ j) := by
        have hcast : (n : Int) / 256 ^ j = ((n / 256 ^ j : Nat) : Int) := by simp
        rw [hcast]
        by_cases h : n < 256 ^ j
        · rw [Nat.div_eq_of_lt h, decide_eq_true h]; rfl
        · have hp : 0 < n / 256 ^ j := Nat.div_pos (by omega) (Nat.pow_pos (by decide))
          rw [decide_eq_false h]; exact beq_eq_false_iff_ne.2 (by omega)
      have HZ := hide hz
      clear hz ho
      go_wp2
      go_ret2
      refine ⟨.slice (some ⟨B, 0, none⟩) j j, ?_, by simpa using HO2.out, HBL.out⟩
      rw [← HZ.out]
      rfl
end
section
open Go.RowKit
theorem hstep_yes {n j s : Nat} (h24 : 24 ≤ n) (hj : j ≤ 3) (hs : s = 2 ^ j) (hi : 24 + j ≤ hinfo n) (h : n < 256 ^ s) : hinfo n = 24 + j ∧ hwide (24 + j) = s := by
  match j, hj with
  | 0, _ => subst hs; refine ⟨?_, rfl⟩; simp at h; have := hinfo_cases n; omega
  | 1, _ => subst hs; refine ⟨?_, rfl⟩; simp at h; have := hinfo_cases n; omega
  | 2, _ => subst hs; refine ⟨?_, rfl⟩; simp at h; have := hinfo_cases n; omega
  | 3, _ => subst hs; refine ⟨?_, rfl⟩; simp at h; have := hinfo_cases n; omega
theorem hstep_no {n j s : Nat} (h24 : 24 ≤ n) (hn : n < 18446744073709551616) (hj : j ≤ 3) (hs : s = 2 ^ j) (hi : 24 + j ≤ hinfo n) (h : ¬ n < 256 ^ s) : j < 3 ∧ 24 + (j + 1) ≤ hinfo n := by
  match j, hj with
  | 0, _ => subst hs; refine ⟨by omega, ?_⟩; simp at h; have := hinfo_cases n; omega
  | 1, _ => subst hs; refine ⟨by omega, ?_⟩; simp at h; have := hinfo_cases n; omega
  | 2, _ => subst hs; refine ⟨by omega, ?_⟩; simp at h; have := hinfo_cases n; omega
  | 3, _ => subst hs; simp at h; omega
theorem pow_le8g {j s : Nat} (hj : j ≤ 3) (hs : s = 2 ^ j) : s ≤ 8 := by
  subst hs
  exact Nat.pow_le_pow_right (by decide) hj

set_option maxRecDepth 1000000 in
set_option maxHeartbeats 400000 in
theorem refLay_any (m : Int) (n : Nat) (w : World) (hm : -9223372036854775808 ≤ m ∧ m ≤ 9223372036854775807) (hn : n < 18446744073709551616) :
    Calls Tryz.prog 112 #[.int .i64 m, .int .u64 (n : Nat)] w fun e w' => ∃ v, e = .returned v ∧ w'.ownsRow w.heap.size 5 1 v (hlay m n).length (bv (hlay m n)) ∧ Below w.heap.size w w' := by
  by_cases h0 : 0 ≤ m ∧ m ≤ 7
  · have e : hlay m n = hl m.toNat n := by unfold hlay; rw [if_pos h0]
    rw [e]
    obtain ⟨M, rfl⟩ := Int.eq_ofNat_of_zero_le h0.1
    rw [Int.toNat_natCast]
    have h1 := h0.1
    have h2 := h0.2
    have hM : M ≤ 7 := by omega
    clear e h0 hm
    by_cases h24 : n < 24
    · have h24' : (n : Int) < 24 := by omega
      go_enter Tryz.func112, Tryz.ntmps112
      go_wp2
      go_ret
      have e : hl M n = [32 * M + n] := by simp [hl, hinfo, h24, hwide_small h24, be]
      rw [e]
      refine ⟨_, rfl, ?_, (Below.refl _ _).alloc (Nat.le_refl _) _⟩
      have := own_one w (32 * M + n)
      simpa using this
    · have h24' : ¬ (n : Int) < 24 := by omega
      have HN := hide hn
      generalize hB : w.heap.size = B
      have HB := hide hB
      clear hn hB
      go_enter Tryz.func112, Tryz.ntmps112
      go_wp2
      go_loopw [6, 7] (fun sz i wr => ∃ j s : Nat, j ≤ 3 ∧ Hid (s = 2 ^ j) ∧ i = .int .i64 (24 + (j : Int)) ∧ sz = .int .i64 (s : Int) ∧ Hid (24 + j ≤ hinfo n) ∧ Below B w wr) (fun _ i _ => (28 - intOf i).toNat)
      case atStart => exact ⟨0, 1, by omega, rfl, rfl, rfl, by show _ ≤ _; have := hinfo_cases n; omega, Below.refl _ _⟩
      case round =>
        obtain ⟨j, s, hj, hs, rfl, rfl, hi, hbel⟩ := hrel
        have HBL := hide hbel
        clear hbel
        have hs8 := pow_le8g hj hs.out
        go_wp2_with fail
        refine (fixed_any n s _ HN.out hs8).mono ?_
        rintro e w1 ⟨v, rfl, hown, hb1⟩
        have HO := hide hown
        have HB1 := hide hb1
        clear hown hb1
        by_cases hok : n < 256 ^ s
        · rw [decide_eq_true hok]
          obtain ⟨hx1, hx2⟩ := hstep_yes (by omega) hj hs.out hi.out hok
          have HX : Hid (hl M n = [32 * M + (24 + j)] ++ be s n) := by show _ = _; unfold hl; rw [hx1, hx2]; rfl
          have HSL := hide ((BSl.own HO.out (be_byte s n)).move (keep_alloc w1 (.cells #[.int .u8 (((32 * M + (24 + j) : Nat)) : Int)] 5)))
          have hc : (((32 * M + (24 + j) : Nat)) : Int) = 32 * (M : Int) + (24 + (j : Int)) := by omega
          rw [hc] at HSL
          have HOW := hide (own_one w1 (32 * M + (24 + j)))
          rw [hc] at HOW
          clear hc hx1 hx2 hok
          go_wp2_with (at_builtin; refine append_bsl rfl _ _ rfl w1.heap.size _ 1 [32 * M + (24 + j)] rfl HOW.out _ (be s n) rfl HSL.out ?b1 ?b2 ?_)
          case b1 => rw [be_len]; omega
          case b2 => simp
          intro v2 w2 hown2 hgr2
          go_wp2
          go_ret
          have hsz := HBL.out.size
          have hsz1 := HB1.out.size
          rw [HB.out] at hsz
          refine ⟨_, rfl, ?_, ((HBL.out.trans (HB1.out.mono hsz)).alloc (by omega) _).grown hgr2 (by simp; omega) (fun q hq => by simp [Value.ownBlock] at hq; omega)⟩
          rw [HX.out]
          have e : ([32 * M + (24 + j)] ++ be s n).length = 1 + (be s n).length := by simp; omega
          rw [e]
          exact own_mono hown2 (by omega)
        · rw [decide_eq_false hok]
          obtain ⟨hj3, hi3⟩ := hstep_no (by omega) HN.out hj hs.out hi.out hok
          have HS2 : Hid (2 * s = 2 ^ (j + 1)) := by show _ = _; rw [hs.out, Nat.pow_succ]; omega
          have HI3 := hide hi3
          clear hok hi3 HO
          go_wp2
          go_roundw
          case rel => exact ⟨j + 1, 2 * s, by omega, HS2, by go_num, by go_num, HI3, HBL.out.trans (HB1.out.mono (by have := HBL.out.size; have := HB.out; omega))⟩
          case measure => simp [intOf]; omega
  · have e : hlay m n = [] := by unfold hlay; rw [if_neg h0]
    rw [e]
    by_cases hneg : m < 0
    · go_enter Tryz.func112, Tryz.ntmps112
      go_wp2
      go_ret
      exact ⟨_, rfl, World.ownsRow_nil _ _ _ _, Below.refl _ _⟩
    · have h7 : 7 < m := by omega
      have hneg' : ¬ m < 0 := hneg
      go_enter Tryz.func112, Tryz.ntmps112
      go_wp2
      go_ret
      exact ⟨_, rfl, World.ownsRow_nil _ _ _ _, Below.refl _ _⟩

set_option maxRecDepth 1000000 in
theorem refSize_any (n : Nat) (w : World) (hn : n < 18446744073709551616) :
    Calls Tryz.prog 98 #[.int .u64 (n : Nat)] w fun e w' => e = .returned (.int .i64 (hsize n : Nat)) ∧ Below w.heap.size w w' := by
  have HN := hide hn
  clear hn
  go_enter Tryz.func98, Tryz.ntmps98
  go_wp2_with fail
  refine (refLay_any 0 n _ (by decide) HN.out).mono ?_
  rintro e w1 ⟨v, rfl, hown, hb1⟩
  have e : hlay 0 n = hl 0 n := rfl
  rw [e, hl_len] at hown
  obtain ⟨av, cv, hv, hq1, hq2, hq3⟩ := own_form hown
  subst hv
  have HB1 := hide hb1
  clear hown hb1 e hq1 hq2 hq3
  go_wp2
  go_ret
  exact ⟨rfl, HB1.out⟩
end
end Go.Proofs.YtdejcapbggjjgaaGreatDoor
