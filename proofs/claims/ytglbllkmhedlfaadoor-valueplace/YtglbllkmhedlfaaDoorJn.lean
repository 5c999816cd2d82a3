import Derived.Test.YtglbllkmhedlfaaDoorJj
import Derived.Test.YtglbllkmhedlfaaDoorJg
import Derived.Test.YtglbllkmhedlfaaDoorJb
import Derived.Test.YtglbllkmhedlfaaDoorJc
import Derived.Test.YtglbllkmhedlfaaDoorJe
import Derived.Deep.CutBlock
import Derived.Test.YtglbllkmhedlfaaDoorJd
import Derived.Lib.ValidLaws
import Derived.Test.YtglbllkmhedlfaaDoorJa
namespace Go.Proofs.YtglbllkmhedlfaaDoor
section
open Go.RowKit Go
set_option maxRecDepth 1000000 in
set_option maxHeartbeats 1000000 in
theorem keys_any (t : Tv) (R : Bool) (hR : R = true ↔ (t.ks.length = t.is.length ∧ t.ks.Nodup)) (w : World) (cs : Array Value) (ht : Tin w t cs) (hn : t.ks.length ≤ 100000) : Calls Tryd.prog 55 #[.agg cs] w fun e w' => e = .returned (.bool R) ∧ Below w.heap.size w w' := by
  have HR := hide hR
  obtain ⟨vy, vk, vi, rfl, hy, hk, hv, hb⟩ := ht.parts
  have HKS := hide hk
  obtain ⟨⟨ak, ck, rfl, _, hkf⟩, hkm, _⟩ := hk
  obtain ⟨⟨ai, ci, rfl, _, _⟩, _⟩ := hv
  have HKF := hide hkf
  have HCK : Hid ((vcs t vy (.slice ak t.ks.length ck) (.slice ai t.is.length ci))[11]? = some (.slice ak t.ks.length ck)) := rfl
  have HCI : Hid ((vcs t vy (.slice ak t.ks.length ck) (.slice ai t.is.length ci))[12]? = some (.slice ai t.is.length ci)) := rfl
  generalize vcs t vy (.slice ak t.ks.length ck) (.slice ai t.is.length ci) = cs at *
  clear hR ht hy hkf hb
  have HQ0 : Hid (Aln w (w.alloc (.cells cs 38)) cs) := box_mk0 w _
  have q11 : (w.alloc (.cells cs 38)).cell? ⟨w.heap.size, 11, none⟩ = some (.slice ak t.ks.length ck) := blk_cell HQ0.out.2 HCK.out
  have q12 : (w.alloc (.cells cs 38)).cell? ⟨w.heap.size, 12, none⟩ = some (.slice ai t.is.length ci) := blk_cell HQ0.out.2 HCI.out
  go_enter Tryd.func55, Tryd.ntmps55
  by_cases hl : t.ks.length = t.is.length
  case neg => as_aux_lemma =>
    have HT : Hid (R = false) := r_no HR.out (fun h => hl h.1)
    have g0 : ((t.ks.length : Int) != (t.is.length : Int)) = true := by rw [nat_ne]; simp [hl]
    clear hl
    go_wp2_with fail
    go_ret
    exact ⟨by rw [HT.out]; rfl, HQ0.out.1⟩
  have g0 : ((t.ks.length : Int) != (t.is.length : Int)) = false := by rw [nat_ne]; simp [hl]
  have HL := hide hl
  clear hl
  go_wp2_with fail
  refine (orderR_any t.ks _ _ (HKS.out.move (keep_below HQ0.out.1)) hn).mono ?_
  rintro e w2 ⟨v, ps, rfl, hsp, ho, hb2⟩
  have HSP := hide hsp
  have hpl : ps.length ≤ 100000 := by have := hsp.len; omega
  have hi2 := ISl.own ho rfl (by omega)
  obtain ⟨⟨pa, pc, rfl, _, hpf⟩, _⟩ := hi2
  have HPF := hide hpf
  have HW2 := hide (HQ0.out.next hb2)
  clear hsp ho hb2 hpf HQ0 q11 q12
  go_wp2_with fail
  go_loopw [4] (fun ii wx => ∃ k : Nat, k ≤ ps.length ∧ ii = .int .i64 ((k : Int) + 1) ∧ Hid (∀ (j p q : Nat), j < k → ps[j]? = some p → ps[j + 1]? = some q → t.ks.getD p ⟨#[]⟩ ≠ t.ks.getD q ⟨#[]⟩) ∧ Hid (Below w2.heap.size w2 wx)) (fun ii _ => ps.length + 1 - (intOf ii).toNat)
  case atStart => exact ⟨0, by omega, rfl, fun j p q hj => absurd hj (by omega), Below.refl _ _⟩
  case round =>
    obtain ⟨k, hk1, rfl, HI, HBw⟩ := hrel
    have x1 : wr.cell? ⟨w.heap.size, 11, none⟩ = some (.slice ak t.ks.length ck) := keep_below HBw.out _ _ (blk_cell HW2.out.2 HCK.out)
    by_cases hlt : k + 1 < ps.length
    · have g1 : (k : Int) + 1 < (ps.length : Int) := by omega
      obtain ⟨p, hp⟩ : ∃ p, ps[k]? = some p := ⟨ps[k], List.getElem?_eq_getElem (by omega)⟩
      obtain ⟨q, hq⟩ : ∃ p, ps[k + 1]? = some p := ⟨ps[k + 1], List.getElem?_eq_getElem hlt⟩
      have l1 := HSP.out.lt p (List.mem_of_getElem? hp)
      have l2 := HSP.out.lt q (List.mem_of_getElem? hq)
      obtain ⟨b1, off1, rfl, hc1⟩ := HPF.out.resolve_left (fun h => by rw [h] at hlt; simp at hlt)
      obtain ⟨b2, off2, rfl, hc2⟩ := HKF.out.resolve_left (fun h => by rw [h] at l1; simp at l1)
      have hkw : ∀ a x, w.cell? a = some x → wr.cell? a = some x := fun a x h => keep_below HBw.out _ _ (keep_below HW2.out.1 _ _ h)
      have c1 : wr.cell? ⟨b1, off1 + k, none⟩ = some (.int .i64 (p : Nat)) := keep_below HBw.out _ _ (hc1 k p hp)
      have c2 : wr.cell? ⟨b1, off1 + (k + 1), none⟩ = some (.int .i64 (q : Nat)) := keep_below HBw.out _ _ (hc1 (k + 1) q hq)
      have s1 : wr.cell? ⟨b2, off2 + p, none⟩ = some (.string (t.ks.getD p ⟨#[]⟩)) := hkw _ _ (hc2 p _ (by simp [List.getD, List.getElem?_eq_getElem l1]))
      have s2 : wr.cell? ⟨b2, off2 + q, none⟩ = some (.string (t.ks.getD q ⟨#[]⟩)) := hkw _ _ (hc2 q _ (by simp [List.getD, List.getElem?_eq_getElem l2]))
      have g3 : (k : Int) < (ps.length : Int) := by omega
      have g4 : (p : Int) < (t.ks.length : Int) := by omega
      have g5 : (q : Int) < (t.ks.length : Int) := by omega
      clear hc1 hc2 hkw
      by_cases he : t.ks.getD p ⟨#[]⟩ = t.ks.getD q ⟨#[]⟩
      · as_aux_lemma =>
        have HT : Hid (R = false) := r_no HR.out (fun h => dup_adj HSP.out hp hq he h.2)
        have hne : ((t.ks.getD q ⟨#[]⟩).toList == (t.ks.getD p ⟨#[]⟩).toList) = true := by rw [he]; simp
        clear hp hq he HI
        generalize t.ks.getD p ⟨#[]⟩ = k1 at *
        generalize t.ks.getD q ⟨#[]⟩ = k2 at *
        go_wp2_with fail
        go_quiet (fail)
        go_wp2_with fail
        go_ret
        exact ⟨by rw [HT.out]; rfl, HW2.out.1.trans ((HBw.out.trans ((((Kp.refl (fun _ => False) wr).drewN _).below (Nat.le_refl _) (fun _ h => h.elim)).mono HBw.out.size)).mono HW2.out.1.size)⟩
      · as_aux_lemma =>
        have hne : ((t.ks.getD q ⟨#[]⟩).toList == (t.ks.getD p ⟨#[]⟩).toList) = false := str_beq_no (fun h => he h.symm)
        have HI2 : Hid (∀ (j p q : Nat), j < k + 1 → ps[j]? = some p → ps[j + 1]? = some q → t.ks.getD p ⟨#[]⟩ ≠ t.ks.getD q ⟨#[]⟩) := fun j p' q' hj h1 h2 => by
          by_cases hjk : j = k
          · subst hjk
            rw [hp] at h1
            rw [hq] at h2
            injection h1 with h1
            injection h2 with h2
            subst h1 h2
            exact he
          · exact HI.out j p' q' (by omega) h1 h2
        clear hp hq he HI
        generalize t.ks.getD p ⟨#[]⟩ = k1 at *
        generalize t.ks.getD q ⟨#[]⟩ = k2 at *
        go_wp2_with fail
        go_quiet (fail)
        go_wp2_with fail
        have HB2 : Hid (Below w2.heap.size w2 (wr.drewN nq)) := HBw.out.trans ((((Kp.refl (fun _ => False) wr).drewN _).below (Nat.le_refl _) (fun _ h => h.elim)).mono HBw.out.size)
        go_roundw
        case rel => exact ⟨k + 1, by omega, by go_num, HI2, HB2⟩
        case measure => simp [intOf]; omega
    · as_aux_lemma =>
      have g1 : ¬ (k : Int) + 1 < (ps.length : Int) := by omega
      have HT : Hid (R = true) := HR.out.2 ⟨HL.out, nodup_adj HSP.out (fun j p q h1 h2 => HI.out j p q (by have := (List.getElem?_eq_some_iff.1 h2).1; omega) h1 h2)⟩
      go_wp2_with fail
      go_ret
      exact ⟨by rw [HT.out]; rfl, HW2.out.1.trans (HBw.out.mono HW2.out.1.size)⟩
end
section
open Go.RowKit Go
/-- How many bytes a code point's first byte asks for; the bounds of the second. -/
def un (c : Nat) : Nat := if 194 ≤ c ∧ c ≤ 223 then 2 else if 224 ≤ c ∧ c ≤ 239 then 3 else if 240 ≤ c ∧ c ≤ 244 then 4 else 0
def ulo (c : Nat) : Nat := if c = 240 then 144 else if c = 224 then 160 else 128
def uhi (c : Nat) : Nat := if c = 244 then 143 else if c = 237 then 159 else 191
/-- How many bytes the code point at the front has; 0: there is none. -/
def uone (b : List Nat) : Nat := match b with
  | [] => 0
  | c :: r => if c < 128 then 1
    else if un c = 0 ∨ b.length < un c ∨ r.getD 0 0 < ulo c ∨ uhi c < r.getD 0 0 then 0
    else if ((b.take (un c)).drop 2).all (fun x => decide (128 ≤ x) && decide (x ≤ 191)) then un c else 0
theorem un_le (c : Nat) : un c ≤ 4 := by
  unfold un
  split
  · omega
  · split
    · omega
    · split <;> omega
theorem un_ge (c : Nat) : un c = 0 ∨ 2 ≤ un c := by
  unfold un
  split
  · omega
  · split
    · omega
    · split <;> omega
theorem drop_take2 (B : List Nat) : (B.take 2).drop 2 = [] := List.drop_of_length_le (by rw [List.length_take]; omega)
theorem take_drop2 {B : List Nat} {i : Nat} (h2 : 2 ≤ i) (hi : i < B.length) : (B.take (i + 1)).drop 2 = (B.take i).drop 2 ++ [B.getD i 0] := by
  rw [take_at B i hi, List.drop_append_of_le_length (by rw [List.length_take]; omega)]
theorem mem_take_drop2 {B : List Nat} {i n : Nat} (h2 : 2 ≤ i) (hn : i < n) (hi : i < B.length) : B.getD i 0 ∈ (B.take n).drop 2 := by
  rw [List.mem_iff_getElem?]
  refine ⟨i - 2, ?_⟩
  rw [List.getElem?_drop, show 2 + (i - 2) = i by omega, List.getElem?_take_of_lt hn, List.getD_eq_getElem?_getD, List.getElem?_eq_getElem hi]
  rfl
set_option maxRecDepth 1000000 in
set_option maxHeartbeats 1000000 in
theorem one6_any (w : World) (s : ByteArray) (hs : s.size ≤ 9223372036854775807) : Calls Tryd.prog 69 #[.string s] w fun e w' => e = .returned (.int .i64 (uone (sl s) : Nat)) ∧ w' = w := by
  have HSL := hide (sl_len s)
  have HAT := hide (fun i h => sl_at s i h)
  go_enter Tryd.func69, Tryd.ntmps69
  cases hsl : sl s with
  | nil =>
    as_aux_lemma =>
    have hz : s.size = 0 := by rw [← HSL.out, hsl]; rfl
    have g0 : ((s.size : Int) == 0) = true := beq_iff_eq.2 (by omega)
    clear hz hsl
    go_wp2_with fail
    go_ret
    exact ⟨rfl, rfl⟩
  | cons c r =>
    have hz : s.size = r.length + 1 := by rw [← HSL.out, hsl]; rfl
    have g0 : ((s.size : Int) == 0) = false := beq_eq_false_iff_ne.2 (by omega)
    have gp : (0 : Int) < (s.size : Int) := by omega
    have h0 : 0 < s.size := by omega
    have HC : Hid (s[0].toNat = c) := by
      have h := HAT.out 0 h0
      rw [hsl] at h
      exact h.symm
    have HU : Hid (uone (c :: r) = if c < 128 then 1 else if un c = 0 ∨ s.size < un c ∨ r.getD 0 0 < ulo c ∨ uhi c < r.getD 0 0 then 0 else if (((c :: r).take (un c)).drop 2).all (fun x => decide (128 ≤ x) && decide (x ≤ 191)) then un c else 0) := by
      show _ = _
      unfold uone
      rw [hz]
      rfl
    have HSX := hide hsl
    have hc6 : s[0].toNat < 256 := (s[0]).toNat_lt
    have HZ := hide hz
    clear hz
    by_cases h128 : c < 128
    · as_aux_lemma =>
      rw [if_pos h128] at HU
      have g1 : (s[0].toNat : Int) < 128 := by have := HC.out; omega
      clear h128 hsl
      go_wp2_with fail
      go_ret
      exact ⟨by rw [HU.out]; rfl, rfl⟩
    · rw [if_neg h128] at HU
      have g1 : ¬ (s[0].toNat : Int) < 128 := by have := HC.out; omega
      have HC8 : Hid (¬ c < 128) := h128
      clear h128 hsl
      go_upto_block 0 with fail
      go_cut [4] (fun nn wx => nn = .int .i64 (un c : Nat) ∧ wx = w)
      case first => as_aux_lemma =>
        by_cases a1 : 194 ≤ s[0].toNat
        · have k1 : (194 : Int) ≤ (s[0].toNat : Int) := by omega
          by_cases a2 : s[0].toNat ≤ 223
          · have k2 : (s[0].toNat : Int) ≤ 223 := by omega
            have HN : Hid (un c = 2) := by show _ = _; rw [← HC.out]; exact if_pos ⟨a1, a2⟩
            go_wp2_with fail
            go_meet
            case rel => exact ⟨by rw [HN.out]; rfl, rfl⟩
          · have k2 : ¬ (s[0].toNat : Int) ≤ 223 := by omega
            have k3 : (224 : Int) ≤ (s[0].toNat : Int) := by omega
            by_cases a3 : s[0].toNat ≤ 239
            · have k4 : (s[0].toNat : Int) ≤ 239 := by omega
              have HN : Hid (un c = 3) := by show _ = _; rw [← HC.out]; unfold un; rw [if_neg (by omega), if_pos (by omega)]
              go_wp2_with fail
              go_meet
              case rel => exact ⟨by rw [HN.out]; rfl, rfl⟩
            · have k4 : ¬ (s[0].toNat : Int) ≤ 239 := by omega
              have k5 : (240 : Int) ≤ (s[0].toNat : Int) := by omega
              by_cases a4 : s[0].toNat ≤ 244
              · have k6 : (s[0].toNat : Int) ≤ 244 := by omega
                have HN : Hid (un c = 4) := by show _ = _; rw [← HC.out]; unfold un; rw [if_neg (by omega), if_neg (by omega), if_pos (by omega)]
                go_wp2_with fail
                go_meet
                case rel => exact ⟨by rw [HN.out]; rfl, rfl⟩
              · have k6 : ¬ (s[0].toNat : Int) ≤ 244 := by omega
                have HN : Hid (un c = 0) := by show _ = _; rw [← HC.out]; unfold un; rw [if_neg (by omega), if_neg (by omega), if_neg (by omega)]
                go_wp2_with fail
                go_meet
                case rel => exact ⟨by rw [HN.out]; rfl, rfl⟩
        · have k1 : ¬ (194 : Int) ≤ (s[0].toNat : Int) := by omega
          have k2 : ¬ (224 : Int) ≤ (s[0].toNat : Int) := by omega
          have k3 : ¬ (240 : Int) ≤ (s[0].toNat : Int) := by omega
          have HN : Hid (un c = 0) := by show _ = _; rw [← HC.out]; unfold un; rw [if_neg (by omega), if_neg (by omega), if_neg (by omega)]
          go_wp2_with fail
          go_meet
          case rel => exact ⟨by rw [HN.out]; rfl, rfl⟩
      case rest => as_aux_lemma =>
        obtain ⟨hnn, hww⟩ := hcut
        have hww := hww.symm
        subst hww
        have hu4 := un_le c
        generalize hun : un c = n at *
        have HUN := hide hun
        clear hun
        subst hnn
        go_upto_if 37 with fail
        go_cut [5] (fun ll wx => ∃ zz : Nat, ll = .int .u8 (zz : Nat) ∧ zz < 256 ∧ Hid (zz = if c = 224 then 160 else 128) ∧ wx = w)
        case first => as_aux_lemma =>
          by_cases a1 : s[0].toNat = 224
          · have k1 : ((s[0].toNat : Int) == 224) = true := beq_iff_eq.2 (by omega)
            have HN : Hid (160 = if c = 224 then 160 else 128) := by show _ = _; rw [← HC.out, if_pos a1]
            clear a1
            go_wp2_with fail
            go_meet
            case rel => exact ⟨160, rfl, by omega, HN, rfl⟩
          · have k1 : ((s[0].toNat : Int) == 224) = false := beq_eq_false_iff_ne.2 (by omega)
            have HN : Hid (128 = if c = 224 then 160 else 128) := by show _ = _; rw [← HC.out, if_neg a1]
            clear a1
            go_wp2_with fail
            go_meet
            case rel => exact ⟨128, rfl, by omega, HN, rfl⟩
        case rest => as_aux_lemma =>
          obtain ⟨l1, rfl, hl1, Hl1, hww⟩ := hcut
          have hww := hww.symm
          subst hww
          go_upto_if 39 with fail
          go_cut [6] (fun ll wx => ∃ zz : Nat, ll = .int .u8 (zz : Nat) ∧ zz < 256 ∧ Hid (zz = if c = 237 then 159 else 191) ∧ wx = w)
          case first => as_aux_lemma =>
            by_cases a1 : s[0].toNat = 237
            · have k1 : ((s[0].toNat : Int) == 237) = true := beq_iff_eq.2 (by omega)
              have HN : Hid (159 = if c = 237 then 159 else 191) := by show _ = _; rw [← HC.out, if_pos a1]
              clear a1
              go_wp2_with fail
              go_meet
              case rel => exact ⟨159, rfl, by omega, HN, rfl⟩
            · have k1 : ((s[0].toNat : Int) == 237) = false := beq_eq_false_iff_ne.2 (by omega)
              have HN : Hid (191 = if c = 237 then 159 else 191) := by show _ = _; rw [← HC.out, if_neg a1]
              clear a1
              go_wp2_with fail
              go_meet
              case rel => exact ⟨191, rfl, by omega, HN, rfl⟩
          case rest => as_aux_lemma =>
            obtain ⟨h1, rfl, hh1, Hh1, hww⟩ := hcut
            have hww := hww.symm
            subst hww
            go_upto_if 41 with fail
            go_cut [5] (fun ll wx => ∃ zz : Nat, ll = .int .u8 (zz : Nat) ∧ zz < 256 ∧ Hid (zz = if c = 240 then 144 else l1) ∧ wx = w)
            case first => as_aux_lemma =>
              by_cases a1 : s[0].toNat = 240
              · have k1 : ((s[0].toNat : Int) == 240) = true := beq_iff_eq.2 (by omega)
                have HN : Hid (144 = if c = 240 then 144 else l1) := by show _ = _; rw [← HC.out, if_pos a1]
                clear a1
                go_wp2_with fail
                go_meet
                case rel => exact ⟨144, rfl, by omega, HN, rfl⟩
              · have k1 : ((s[0].toNat : Int) == 240) = false := beq_eq_false_iff_ne.2 (by omega)
                have HN : Hid (l1 = if c = 240 then 144 else l1) := by show _ = _; rw [← HC.out, if_neg a1]
                clear a1
                go_wp2_with fail
                go_meet
                case rel => exact ⟨l1, rfl, by omega, HN, rfl⟩
            case rest => as_aux_lemma =>
              obtain ⟨l2, rfl, hl2, Hl2, hww⟩ := hcut
              have hww := hww.symm
              subst hww
              go_upto_if 43 with fail
              go_cut [6] (fun ll wx => ∃ zz : Nat, ll = .int .u8 (zz : Nat) ∧ zz < 256 ∧ Hid (zz = if c = 244 then 143 else h1) ∧ wx = w)
              case first => as_aux_lemma =>
                by_cases a1 : s[0].toNat = 244
                · have k1 : ((s[0].toNat : Int) == 244) = true := beq_iff_eq.2 (by omega)
                  have HN : Hid (143 = if c = 244 then 143 else h1) := by show _ = _; rw [← HC.out, if_pos a1]
                  clear a1
                  go_wp2_with fail
                  go_meet
                  case rel => exact ⟨143, rfl, by omega, HN, rfl⟩
                · have k1 : ((s[0].toNat : Int) == 244) = false := beq_eq_false_iff_ne.2 (by omega)
                  have HN : Hid (h1 = if c = 244 then 143 else h1) := by show _ = _; rw [← HC.out, if_neg a1]
                  clear a1
                  go_wp2_with fail
                  go_meet
                  case rel => exact ⟨h1, rfl, by omega, HN, rfl⟩
              case rest => as_aux_lemma =>
                obtain ⟨h2, rfl, hh2, Hh2, hww⟩ := hcut
                have hww := hww.symm
                subst hww
                have HLO : Hid (ulo c = l2) := by show _ = _; unfold ulo; rw [Hl2.out, Hl1.out]
                have HHI : Hid (uhi c = h2) := by show _ = _; unfold uhi; rw [Hh2.out, Hh1.out]
                rw [HLO.out, HHI.out] at HU
                clear Hl1 Hl2 Hh1 Hh2 HLO HHI hl1 hh1
                by_cases b1 : n = 0
                · as_aux_lemma =>
                  rw [if_pos (.inl b1)] at HU
                  have k1 : ((n : Int) == 0) = true := beq_iff_eq.2 (by omega)
                  clear b1
                  go_wp2_with fail
                  go_ret
                  exact ⟨by rw [HU.out]; rfl, rfl⟩
                · have k1 : ((n : Int) == 0) = false := beq_eq_false_iff_ne.2 (by omega)
                  by_cases b2 : s.size < n
                  · as_aux_lemma =>
                    rw [if_pos (.inr (.inl b2))] at HU
                    have k2 : (s.size : Int) < (n : Int) := by omega
                    go_wp2_with fail
                    go_ret
                    exact ⟨by rw [HU.out]; rfl, rfl⟩
                  · have k2 : ¬ (s.size : Int) < (n : Int) := by omega
                    have hn2 : 2 ≤ n := by
                      rcases un_ge c with e | e
                      · rw [HUN.out] at e
                        exact absurd e b1
                      · rw [HUN.out] at e
                        exact e
                    have h1s : 1 < s.size := by omega
                    have gp1 : (1 : Int) < (s.size : Int) := by omega
                    have HS1 : Hid (r.getD 0 0 = s[1].toNat) := by
                      have h := HAT.out 1 h1s
                      rw [HSX.out] at h
                      exact h
                    rw [HS1.out] at HU
                    have hs6 : s[1].toNat < 256 := (s[1]).toNat_lt
                    by_cases b3 : s[1].toNat < l2
                    · as_aux_lemma =>
                      rw [if_pos (.inr (.inr (.inl b3)))] at HU
                      have k3 : (s[1].toNat : Int) < (l2 : Int) := by omega
                      go_wp2_with fail
                      go_ret
                      exact ⟨by rw [HU.out]; rfl, rfl⟩
                    · have k3 : ¬ (s[1].toNat : Int) < (l2 : Int) := by omega
                      by_cases b4 : h2 < s[1].toNat
                      · as_aux_lemma =>
                        rw [if_pos (.inr (.inr (.inr b4)))] at HU
                        have k4 : (h2 : Int) < (s[1].toNat : Int) := by omega
                        go_wp2_with fail
                        go_ret
                        exact ⟨by rw [HU.out]; rfl, rfl⟩
                      · have k4 : ¬ (h2 : Int) < (s[1].toNat : Int) := by omega
                        rw [if_neg (by omega)] at HU
                        have HCL : Hid ((c :: r).length = s.size) := by show _ = _; rw [← HSX.out, HSL.out]
                        have HGT : Hid (∀ i (h : i < s.size), (c :: r).getD i 0 = s[i].toNat) := fun i h => by have e := HAT.out i h; rw [HSX.out] at e; exact e
                        clear b1 HUN HS1 HAT HSX HSL HZ
                        generalize hcr : c :: r = B at HU HCL HGT
                        have HCR : Hid (c :: r = B) := hcr
                        clear hcr
                        go_wp2_with fail
                        go_loopw [7] (fun ii wx => ∃ i : Nat, 2 ≤ i ∧ i ≤ n ∧ ii = .int .i64 (i : Nat) ∧ Hid (((B.take i).drop 2).all (fun x => decide (128 ≤ x) && decide (x ≤ 191)) = true) ∧ wx = w) (fun ii _ => n - (intOf ii).toNat)
                        case atStart => exact ⟨2, by omega, by omega, rfl, by show _ = _; rw [drop_take2]; rfl, rfl⟩
                        case round => as_aux_lemma =>
                          obtain ⟨i, hi2, hin, rfl, HALL, hww⟩ := hrel
                          have hww := hww.symm
                          subst hww
                          by_cases hlt : i < n
                          · have m1 : (i : Int) < (n : Int) := by omega
                            have his : i < s.size := by omega
                            have m2 : (i : Int) < (s.size : Int) := by omega
                            have HGi := hide (HGT.out i his)
                            have HTS := hide (take_drop2 (B := B) (i := i) hi2 (by rw [HCL.out]; exact his))
                            rw [HGi.out] at HTS
                            have HMEM : Hid (s[i].toNat ∈ (B.take n).drop 2) := by
                              have e := mem_take_drop2 (B := B) (i := i) (n := n) hi2 hlt (by rw [HCL.out]; exact his)
                              rw [HGi.out] at e
                              exact e
                            by_cases c1 : s[i].toNat < 128
                            · as_aux_lemma =>
                              have q1 : (s[i].toNat : Int) < 128 := by omega
                              rw [if_neg (fun h => by have e := List.all_eq_true.1 h _ HMEM.out; simp at e; omega)] at HU
                              go_wp2_with fail
                              go_ret
                              exact ⟨by rw [HCR.out, HU.out]; rfl, rfl⟩
                            · have q1 : ¬ (s[i].toNat : Int) < 128 := by omega
                              by_cases c2 : 191 < s[i].toNat
                              · as_aux_lemma =>
                                have q2 : (191 : Int) < (s[i].toNat : Int) := by omega
                                rw [if_neg (fun h => by have e := List.all_eq_true.1 h _ HMEM.out; simp at e; omega)] at HU
                                go_wp2_with fail
                                go_ret
                                exact ⟨by rw [HCR.out, HU.out]; rfl, rfl⟩
                              · as_aux_lemma =>
                                have q2 : ¬ (191 : Int) < (s[i].toNat : Int) := by omega
                                have HA2 : Hid (((B.take (i + 1)).drop 2).all (fun x => decide (128 ≤ x) && decide (x ≤ 191)) = true) := by
                                  show _ = _
                                  rw [HTS.out, List.all_append, HALL.out]
                                  simp
                                  omega
                                go_wp2_with fail
                                go_roundw
                                case rel => exact ⟨i + 1, by omega, by omega, by go_num, HA2, trivial⟩
                                case measure => simp [intOf]; omega
                          · as_aux_lemma =>
                            have m1 : ¬ (i : Int) < (n : Int) := by omega
                            have hien : i = n := by omega
                            rw [hien] at HALL
                            rw [if_pos HALL.out] at HU
                            clear hien
                            go_wp2_with fail
                            go_ret
                            exact ⟨by rw [HCR.out, HU.out]; rfl, rfl⟩
end
section
open Go.RowKit Go
theorem uone_le (b : List Nat) : uone b ≤ b.length := by
  unfold uone
  split
  · omega
  · rename_i c r
    split
    · simp
    · split
      · omega
      · split
        · omega
        · omega
/-- Code points from end to end. -/
def ugood (b : List Nat) : Bool := if b = [] then true else if _h : uone b = 0 then false else ugood (b.drop (uone b))
termination_by b.length
decreasing_by
  have := uone_le b
  rw [List.length_drop]
  omega
theorem ugood_nil : ugood [] = true := by rw [ugood, if_pos rfl]
theorem ugood_bad {b : List Nat} (h : b ≠ []) (h0 : uone b = 0) : ugood b = false := by rw [ugood, if_neg h, dif_pos h0]
theorem ugood_step {b : List Nat} (h : b ≠ []) (h0 : uone b ≠ 0) : ugood b = ugood (b.drop (uone b)) := by rw [ugood, if_neg h, dif_neg h0]
set_option maxRecDepth 1000000 in
set_option maxHeartbeats 1000000 in
theorem good6_any (w : World) (s : ByteArray) (hs : s.size ≤ 9223372036854775807) : Calls Tryd.prog 53 #[.string s] w fun e w' => e = .returned (.bool (ugood (sl s))) ∧ w' = w := by
  have HSL := hide (sl_len s)
  generalize hG : ugood (sl s) = G
  have HG := hide hG
  clear hG
  go_enter Tryd.func53, Tryd.ntmps53
  go_wp2_with fail
  go_loopw [3] (fun ii wx => ∃ i : Nat, i ≤ s.size ∧ ii = .int .i64 (i : Nat) ∧ Hid (ugood ((sl s).drop i) = G) ∧ wx = w) (fun ii _ => s.size - (intOf ii).toNat)
  case atStart => exact ⟨0, by omega, rfl, by show _ = _; rw [List.drop_zero]; exact HG.out, rfl⟩
  case round => as_aux_lemma =>
    obtain ⟨i, hi, rfl, HD, hww⟩ := hrel
    have hww := hww.symm
    subst hww
    clear HG
    by_cases hlt : i < s.size
    · have m1 : (i : Int) < (s.size : Int) := by omega
      have m2 : (i : Int) ≤ (s.size : Int) := by omega
      have HNE : Hid ((sl s).drop i ≠ []) := fun h => by
        have e := congrArg List.length h
        rw [List.length_drop, HSL.out] at e
        simp at e
        omega
      have HX : Hid (sl (s.extract i s.size) = (sl s).drop i) := by
        show _ = _
        rw [sl_extract, ← HSL.out, List.take_length]
      have HLE : Hid (uone ((sl s).drop i) ≤ s.size - i) := by
        have h := uone_le ((sl s).drop i)
        rw [List.length_drop, HSL.out] at h
        exact h
      have HC : Hid (∀ wx, Calls Tryd.prog 69 #[.string (s.extract i s.size)] wx fun e w' => e = .returned (.int .i64 (uone ((sl s).drop i) : Nat)) ∧ w' = wx) := fun wx => by
        have h := one6_any wx (s.extract i s.size) (by rw [← sl_len, HX.out, List.length_drop, HSL.out]; omega)
        rw [HX.out] at h
        exact h
      have HB0 : Hid (uone ((sl s).drop i) = 0 → false = G) := fun h => (ugood_bad HNE.out h).symm.trans HD.out
      have HB1 : Hid (uone ((sl s).drop i) ≠ 0 → ugood ((sl s).drop (i + uone ((sl s).drop i))) = G) := fun h => by
        rw [← HD.out, ugood_step HNE.out h, List.drop_drop]
      clear HX HNE HD
      generalize uone ((sl s).drop i) = n at *
      have hle := HLE.out
      clear HLE
      go_wp2_with fail
      refine (HC.out w).mono ?_
      rintro e w3 ⟨rfl, hw3⟩
      have hw3 := hw3.symm
      subst hw3
      clear HC
      by_cases hn : n = 0
      · as_aux_lemma =>
        have k1 : ((n : Int) == 0) = true := beq_iff_eq.2 (by omega)
        have HGG := hide (HB0.out hn)
        clear hn
        go_wp2_with fail
        go_ret
        exact ⟨by rw [← HGG.out]; rfl, rfl⟩
      · as_aux_lemma =>
        have k1 : ((n : Int) == 0) = false := beq_eq_false_iff_ne.2 (by omega)
        have HGG := hide (HB1.out hn)
        go_wp2_with fail
        go_roundw
        case rel => exact ⟨i + n, by omega, by go_num, HGG, trivial⟩
        case measure => simp [intOf]; omega
    · as_aux_lemma =>
      have m1 : ¬ (i : Int) < (s.size : Int) := by omega
      have HGG : Hid (true = G) := by
        show _ = _
        rw [← HD.out, List.drop_of_length_le (by rw [HSL.out]; omega), ugood_nil]
      go_wp2_with fail
      go_ret
      exact ⟨by rw [← HGG.out]; rfl, rfl⟩
end
section
open Go.RowKit Go
theorem first_un : ∀ c : Fin 256, 128 ≤ c.val → (un c.val = 0 → Lib.firstT c.val % 8 ≠ 2 ∧ Lib.firstT c.val % 8 ≠ 3 ∧ Lib.firstT c.val % 8 ≠ 4) ∧ (un c.val ≠ 0 → Lib.firstT c.val % 8 = un c.val ∧ Lib.accLo (Lib.firstT c.val / 16) = ulo c.val ∧ Lib.accHi (Lib.firstT c.val / 16) = uhi c.val) := by decide +kernel
theorem un_is (c : Nat) : un c = 0 ∨ un c = 2 ∨ un c = 3 ∨ un c = 4 := by
  unfold un
  split
  · omega
  · split
    · omega
    · split <;> omega
theorem uone_lead (c : Nat) (r : List Nat) (h : 128 ≤ c) : uone (c :: r) = if un c = 0 ∨ (c :: r).length < un c ∨ r.getD 0 0 < ulo c ∨ uhi c < r.getD 0 0 then 0 else if (((c :: r).take (un c)).drop 2).all (fun x => decide (128 ≤ x) && decide (x ≤ 191)) then un c else 0 := by
  show (if c < 128 then 1 else _) = _
  rw [if_neg (by omega)]
theorem uone_chk (x : UInt8) (r : List UInt8) (h : 128 ≤ x.toNat) : Lib.checkN (x :: r).length ((x :: r).getD 1 0).toNat ((x :: r).getD 2 0).toNat ((x :: r).getD 3 0).toNat (Lib.firstT x.toNat % 8) (Lib.accLo (Lib.firstT x.toNat / 16)) (Lib.accHi (Lib.firstT x.toNat / 16)) = if uone ((x :: r).map UInt8.toNat) = 0 then none else some (uone ((x :: r).map UInt8.toNat)) := by
  obtain ⟨h0, h1⟩ := first_un ⟨x.toNat, x.toNat_lt⟩ h
  simp only at h0 h1
  rw [List.map_cons, uone_lead _ _ h]
  by_cases hu : un x.toNat = 0
  · have e := h0 hu
    rw [if_pos (Or.inl hu : un x.toNat = 0 ∨ _), if_pos (rfl : (0 : Nat) = 0)]
    unfold Lib.checkN
    rw [if_neg e.1, if_neg e.2.1, if_neg e.2.2]
  · obtain ⟨e1, e2, e3⟩ := h1 hu
    rw [e1, e2, e3]
    clear e1 e2 e3 h0 h1
    unfold Lib.checkN
    generalize ulo x.toNat = lo
    generalize uhi x.toNat = hi
    rcases un_is x.toNat with e | e | e | e
    · exact absurd e hu
    · rw [e]
      clear e hu
      rcases r with _ | ⟨a, _ | ⟨b, _ | ⟨d, r⟩⟩⟩ <;> simp <;> (try split) <;> simp_all <;> omega
    · rw [e]
      clear e hu
      rcases r with _ | ⟨a, _ | ⟨b, _ | ⟨d, r⟩⟩⟩ <;> simp <;> (try split) <;> simp_all <;> omega
    · rw [e]
      clear e hu
      rcases r with _ | ⟨a, _ | ⟨b, _ | ⟨d, r⟩⟩⟩ <;> simp <;> (try split) <;> simp_all <;> omega
theorem uone_ascii (c : Nat) (r : List Nat) (h : c < 128) : uone (c :: r) = 1 := if_pos h
theorem valid_ugood (n : Nat) : ∀ l : List UInt8, l.length ≤ n → Lib.validD l = ugood (l.map UInt8.toNat) := by
  induction n with
  | zero => intro l hl; rw [List.eq_nil_of_length_eq_zero (Nat.le_zero.1 hl)]; exact ugood_nil.symm
  | succ n ih =>
    intro l hl
    rcases l with _ | ⟨x, r⟩
    · exact ugood_nil.symm
    · by_cases h : x.toNat < 128
      · rw [Lib.validD_cons x r h, List.map_cons, ugood_step (by simp) (by rw [uone_ascii _ _ h]; decide), uone_ascii _ _ h, ih r (by simp at hl; omega)]
        rfl
      · have hk := uone_chk x r (by omega)
        rw [Lib.validD_lead (x :: r) (by simp) (by show 128 ≤ x.toNat; omega)]
        show (match Lib.checkN (x :: r).length ((x :: r).getD 1 0).toNat ((x :: r).getD 2 0).toNat ((x :: r).getD 3 0).toNat (Lib.firstT x.toNat % 8) (Lib.accLo (Lib.firstT x.toNat / 16)) (Lib.accHi (Lib.firstT x.toNat / 16)) with | none => false | some k => Lib.validD ((x :: r).drop k)) = _
        rw [hk]
        by_cases h0 : uone ((x :: r).map UInt8.toNat) = 0
        · rw [if_pos h0, ugood_bad (by simp) h0]
        · rw [if_neg h0, ugood_step (by simp) h0]
          show Lib.validD ((x :: r).drop (uone ((x :: r).map UInt8.toNat))) = _
          have hle := uone_le ((x :: r).map UInt8.toNat)
          rw [List.length_map] at hle
          rw [ih _ (by rw [List.length_drop]; simp only [List.length_cons] at hl ⊢; omega), List.map_drop]
theorem bad_good (s : ByteArray) : badb s = !ugood (sl s) := by
  unfold badb sl
  rw [valid_ugood _ _ (Nat.le_refl _)]
end
section
open Go.RowKit Go
/-- The format of 64 bits. -/
def fmtc : Array Value := #[.int .i64 11, .int .i64 52]
set_option maxRecDepth 1000000 in
theorem infoF : (Tryd.prog.info? 87).map (·.size) = some fmtc.size := by kernel_rfl
theorem qstep_fmt {C : World → Prop} {ops : Array Oper} {o : Oper} {a : Act} {K : Act → Prop} {p : Operand} (hgd : Region.wanted o (yielded ops a.tmps) = true) (ho : o.op = .load 87 p) (g : Nat)
    (hp : a.eval p = .pointer (some ⟨g, 0, none⟩)) (hc : ∀ w, C w → w.heap[g]? = some (.cells fmtc 87 (0, 0)))
    (h : K (a.put o.dst (.agg fmtc))) : if Region.wanted o (yielded ops a.tmps) = true then o.quiet Tryd.prog a C K else K (a.put o.dst undef) := by
  rw [if_pos hgd]
  refine ⟨.agg fmtc, fun w hC => ?_, h⟩
  unfold Oper.quietAt execOp
  have hr : (Instr.loadAt 87 (.pointer (some ⟨g, 0, none⟩))).run Tryd.prog w = .ok (.agg fmtc) w := by
    simp only [Instr.loadAt, Instr.sureAddr, Sem.run_bind, Sem.run_pure, Result.andThen]
    exact run_loadVar_row (P := Tryd.prog) w g 87 87 fmtc (0, 0) _ (hc w hC) Tryd.underlying87 rfl infoF
  simp only [ho, Sem.run_bind, hp, hr, Result.andThen_ok]
  exact ⟨rfl, rfl⟩
set_option maxRecDepth 1000000 in
theorem f64_any (w : World) : Calls Tryd.prog 67 #[] w fun e w' => e = .returned (.agg fmtc) ∧ Below w.heap.size w w' := by
  go_enter Tryd.func67, Tryd.ntmps67
  go_wp2_with fail
  refine bodyPost_ret (v := .agg fmtc) ((results_one (p := 0) (ty := 87) rfl _ _ _).trans ?_) rfl ⟨rfl, ?_⟩
  · have h1 := run_loadVar_row (P := Tryd.prog) (w.alloc (.cells fmtc 87)) w.heap.size 87 87 fmtc (0, 0) _ (heap_alloc_new w _) Tryd.underlying87 rfl infoF
    show ((Sem.run Tryd.prog (asAddr (Value.pointer (some ⟨w.heap.size, 0, none⟩))) (w.alloc (.cells fmtc 87))).andThen fun a w₁ => Sem.run Tryd.prog (loadVar 87 a) w₁) = _
    simp [asAddr, h1, Result.andThen]
    rfl
  · exact below_alloc4 w _
set_option maxRecDepth 1000000 in
theorem fall_any (w : World) : Calls Tryd.prog 90 #[.agg fmtc] w fun e w' => e = .returned (.int .i64 2047) ∧ Below w.heap.size w w' := by
  have q0 : (w.alloc (.cells fmtc 87)).cell? ⟨w.heap.size, 0, none⟩ = some (.int .i64 11) := blk_cell (heap_alloc_new w _) rfl
  have q1 : (w.alloc (.cells fmtc 87)).cell? ⟨w.heap.size, 1, none⟩ = some (.int .i64 52) := blk_cell (heap_alloc_new w _) rfl
  go_enter Tryd.func90, Tryd.ntmps90
  go_wp2_with fail
  go_ret
  exact ⟨rfl, below_alloc4 w _⟩
set_option maxRecDepth 1000000 in
theorem fsign_any (w : World) : Calls Tryd.prog 89 #[.agg fmtc] w fun e w' => e = .returned (.int .u64 9223372036854775808) ∧ Below w.heap.size w w' := by
  have q0 : (w.alloc (.cells fmtc 87)).cell? ⟨w.heap.size, 0, none⟩ = some (.int .i64 11) := blk_cell (heap_alloc_new w _) rfl
  have q1 : (w.alloc (.cells fmtc 87)).cell? ⟨w.heap.size, 1, none⟩ = some (.int .i64 52) := blk_cell (heap_alloc_new w _) rfl
  go_enter Tryd.func89, Tryd.ntmps89
  go_wp2_with fail
  go_ret
  exact ⟨rfl, below_alloc4 w _⟩
set_option maxRecDepth 1000000 in
theorem fbias_any (w : World) : Calls Tryd.prog 91 #[.agg fmtc] w fun e w' => e = .returned (.int .i64 1023) ∧ Below w.heap.size w w' := by
  have HBK := hide (heap_alloc_new w (.cells fmtc 87))
  have HB0 := hide (below_alloc4 w (.cells fmtc 87))
  go_enter Tryd.func91, Tryd.ntmps91
  go_wp2_with (refine wpList_loadAll rfl rfl w.heap.size fmtc 87 rfl HBK.out Tryd.underlying87 infoF ?_)
  refine (fall_any _).mono ?_
  rintro e w1 ⟨rfl, hb1⟩
  have HB1 := hide (HB0.out.trans (hb1.mono HB0.out.size))
  clear hb1
  go_wp2_with fail
  go_ret
  exact ⟨rfl, HB1.out⟩
theorem and_2047 (n : Nat) (hn : n < 18446744073709551616) : bits .and .u64 (n : Int) 2047 = ((n % 2048 : Nat) : Int) := by
  have e1 : (BitVec.ofInt 64 (n : Int)).toNat = n := by
    simp
    omega
  have e2 : (BitVec.ofInt 64 2047).toNat = 2047 := by decide
  show IntKind.u64.wrap ((BitVec.ofInt 64 (n : Int) &&& BitVec.ofInt 64 2047).toNat : Nat) = _
  rw [BitVec.toNat_and, e1, e2, IntKind.wrap_u64]
  have e3 := Nat.and_two_pow_sub_one_eq_mod n 11
  rw [show (2 ^ 11 - 1 : Nat) = 2047 from rfl, show (2 ^ 11 : Nat) = 2048 from rfl] at e3
  rw [e3]
  omega
theorem exp_is (b : Nat) (hb : b < 18446744073709551616) : wrap64 (bits .and .u64 ((b : Int) / 2 ^ min 52 64) 2047) = ((b / 4503599627370496 % 2048 : Nat) : Int) := by
  have e : ((b : Int) / 2 ^ min 52 64) = ((b / 4503599627370496 : Nat) : Int) := by
    rw [show min 52 64 = 52 from rfl, show (2 : Int) ^ 52 = 4503599627370496 by decide]
    omega
  rw [e, and_2047 _ (by omega)]
  unfold wrap64
  omega
theorem finb_exp (b : Nat) : finb b = !(((b / 4503599627370496 % 2048 : Nat) : Int) == 2047) := by
  unfold finb
  rw [Bool.eq_iff_iff]
  simp
  omega
set_option maxRecDepth 1000000 in
set_option maxHeartbeats 1000000 in
theorem fparts_any (b : Nat) (hb : b < 18446744073709551616) (w : World) : Calls Tryd.prog 68 #[.agg fmtc, .int .u64 (b : Nat)] w fun e w' => (∃ (c : Int) (n m x : Value), e = .returned (.tuple #[.int .i64 c, n, m, x]) ∧ (c == 0) = finb b) ∧ Below w.heap.size w w' := by
  have HBK := hide (heap_alloc_new w (.cells fmtc 87))
  have HB0 := hide (below_alloc4 w (.cells fmtc 87))
  go_enter Tryd.func68, Tryd.ntmps68
  go_wp2_with (refine wpList_loadAll rfl rfl w.heap.size fmtc 87 rfl HBK.out Tryd.underlying87 infoF ?_)
  refine (fsign_any _).mono ?_
  rintro e w1 ⟨rfl, hb1⟩
  have HB1 := hide (HB0.out.trans (hb1.mono HB0.out.size))
  have HC1 : Hid (w1.heap[w.heap.size]? = some (.cells fmtc 87 (0, 0))) := (hb1.block _ (blk_lt HBK.out)).trans HBK.out
  have q1 : w1.cell? ⟨w.heap.size, 1, none⟩ = some (.int .i64 52) := blk_cell HC1.out rfl
  clear hb1 HBK HB0
  go_wp2_with fail
  have HQ1 : Hid (∀ wx : World, (∃ t : Ext w1, wx = t.w') → wx.heap[w.heap.size]? = some (.cells fmtc 87 (0, 0))) := fun wx ⟨t, e⟩ => by rw [e]; exact (t.h.block _ (blk_lt HC1.out)).trans HC1.out
  have c1 : ∀ t : Ext w1, t.w'.cell? ⟨w.heap.size, 1, none⟩ = some (.int .i64 52) := fun t => blk_cell (HQ1.out _ ⟨t, rfl⟩) rfl
  refine region_ext (by kernel_rfl) (by kernel_rfl) ?_
  repeat (
    refine wpQuiet_step (fun K hK => ?_)
    first
      | (refine qstep_fmt rfl rfl w.heap.size rfl HQ1.out (hK _ ?_); clear hK K)
      | (go_simp
         first
           | (refine hK _ ?_; clear hK K)
           | (apply Exists.intro
              refine ⟨fun _ => ?_, hK _ ?_⟩
              (go_at_call 90; exact Calls.ext_below (fall_any _))
              clear hK K)))
  refine wpQuiet_nil ?_
  rintro _ ⟨tq, rfl⟩
  have HB2 : Hid (Below w.heap.size w tq.w') := HB1.out.trans (tq.h.mono HB1.out.size)
  have HC2 : Hid (tq.w'.heap[w.heap.size]? = some (.cells fmtc 87 (0, 0))) := HQ1.out _ ⟨tq, rfl⟩
  clear HQ1 c1 HB1 HC1 q1
  generalize tq.w' = w2 at *
  clear tq w1
  go_wp2_with (refine wpList_loadAll rfl rfl w.heap.size fmtc 87 rfl HC2.out Tryd.underlying87 infoF ?_)
  refine (fall_any _).mono ?_
  rintro e w3 ⟨rfl, hb3⟩
  have HB3 : Hid (Below w.heap.size w w3) := HB2.out.trans (hb3.mono HB2.out.size)
  have HC3 : Hid (w3.heap[w.heap.size]? = some (.cells fmtc 87 (0, 0))) := (hb3.block _ (blk_lt HC2.out)).trans HC2.out
  have HFX := hide (finb_exp b)
  have hex := exp_is b hb
  rw [← hex] at HFX
  clear hb3 HB2 HC2 hex hb w2
  generalize wrap64 (bits .and .u64 ((b : Int) / 2 ^ min 52 64) 2047) = X at *
  generalize bits .and .u64 (b : Int) 4503599627370495 = F at *
  generalize bits .and .u64 (b : Int) 9223372036854775808 = N at *
  generalize ((b : Int) / 2 ^ min 52 64) = Y at *
  generalize bits .and .u64 Y 2047 = Z at *
  rcases Bool.eq_false_or_eq_true (X == 2047) with g35 | g35
  · have HF : Hid (finb b = false) := by show _ = _; rw [HFX.out, g35]; rfl
    clear HFX
    rcases Bool.eq_false_or_eq_true (F != 0) with g37 | g37
    · as_aux_lemma =>
      go_wp2_with fail
      refine bodyPost_ret (results_four rfl _ _ _) rfl ⟨⟨_, _, _, _, rfl, by rw [HF.out]; rfl⟩, HB3.out⟩
    · as_aux_lemma =>
      go_wp2_with fail
      refine bodyPost_ret (results_four rfl _ _ _) rfl ⟨⟨_, _, _, _, rfl, by rw [HF.out]; rfl⟩, HB3.out⟩
  · have HF : Hid (finb b = true) := by show _ = _; rw [HFX.out, g35]; rfl
    clear HFX
    have HQ3 : Hid (∀ wx : World, (∃ t : Ext w3, wx = t.w') → wx.heap[w.heap.size]? = some (.cells fmtc 87 (0, 0))) := fun wx ⟨t, e⟩ => by rw [e]; exact (t.h.block _ (blk_lt HC3.out)).trans HC3.out
    have c1 : ∀ t : Ext w3, t.w'.cell? ⟨w.heap.size, 1, none⟩ = some (.int .i64 52) := fun t => blk_cell (HQ3.out _ ⟨t, rfl⟩) rfl
    rcases Bool.eq_false_or_eq_true (X == 0) with g41 | g41
    · as_aux_lemma =>
      go_wp2_with fail
      refine region_ext (by kernel_rfl) (by kernel_rfl) ?_
      repeat (
        refine wpQuiet_step (fun K hK => ?_)
        first
          | (refine qstep_fmt rfl rfl w.heap.size rfl HQ3.out (hK _ ?_); clear hK K)
          | (go_simp
             first
               | (refine hK _ ?_; clear hK K)
               | (apply Exists.intro
                  refine ⟨fun _ => ?_, hK _ ?_⟩
                  (go_at_call 91; exact Calls.ext_below (fbias_any _))
                  clear hK K)))
      refine wpQuiet_nil ?_
      rintro _ ⟨tq, rfl⟩
      have HB4 : Hid (Below w.heap.size w tq.w') := HB3.out.trans (tq.h.mono HB3.out.size)
      go_wp2_with fail
      refine bodyPost_ret (results_four rfl _ _ _) rfl ⟨⟨_, _, _, _, rfl, by rw [HF.out]; rfl⟩, HB4.out⟩
    · as_aux_lemma =>
      go_wp2_with fail
      refine region_ext (by kernel_rfl) (by kernel_rfl) ?_
      repeat (
        refine wpQuiet_step (fun K hK => ?_)
        first
          | (refine qstep_fmt rfl rfl w.heap.size rfl HQ3.out (hK _ ?_); clear hK K)
          | (go_simp
             first
               | (refine hK _ ?_; clear hK K)
               | (apply Exists.intro
                  refine ⟨fun _ => ?_, hK _ ?_⟩
                  (go_at_call 91; exact Calls.ext_below (fbias_any _))
                  clear hK K)))
      refine wpQuiet_nil ?_
      rintro _ ⟨tq, rfl⟩
      have HB4 : Hid (Below w.heap.size w tq.w') := HB3.out.trans (tq.h.mono HB3.out.size)
      go_wp2_with fail
      refine bodyPost_ret (results_four rfl _ _ _) rfl ⟨⟨_, _, _, _, rfl, by rw [HF.out]; rfl⟩, HB4.out⟩
set_option maxRecDepth 1000000 in
theorem isFinite_any (b : Nat) (hb : b < 18446744073709551616) (w : World) : Calls Tryd.prog 52 #[.int .u64 (b : Nat)] w fun e w' => e = .returned (.bool (finb b)) ∧ Below w.heap.size w w' := by
  have HBB := hide hb
  clear hb
  go_enter Tryd.func52, Tryd.ntmps52
  go_wp2_with fail
  refine (f64_any _).mono ?_
  rintro e w1 ⟨rfl, hb1⟩
  have HB1 := hide hb1
  clear hb1
  go_wp2_with fail
  refine (fparts_any b HBB.out _).mono ?_
  rintro e w2 ⟨⟨c, n, m, x, rfl, hc⟩, hb2⟩
  have HC := hide hc
  have HB2 := hide (HB1.out.trans (hb2.mono HB1.out.size))
  clear hc hb2
  go_wp2_with fail
  go_ret
  exact ⟨by rw [← HC.out]; rfl, HB2.out⟩
end
end Go.Proofs.YtglbllkmhedlfaaDoor
