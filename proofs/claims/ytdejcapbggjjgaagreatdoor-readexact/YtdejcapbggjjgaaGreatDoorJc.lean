import Derived.Test.YtdejcapbggjjgaaGreatDoorJb
import Derived.Test.YtdejcapbggjjgaaGreatDoorJa
import Derived.Laws.CopyRow
import Derived.Laws.ResultCell
import Derived.Deep.QuietTactic
namespace Go.Proofs.YtdejcapbggjjgaaGreatDoor
section
open Go.RowKit Go
/-- What fits tells. -/
def dfit (h n : Nat) : Nat := if h ≠ 18 ∧ h ≠ 0 then 30 else if (h = 18 ∧ n ≠ 32) ∨ (h = 0 ∧ 64 < n) then 31 else 0

set_option maxRecDepth 1000000 in
theorem fits_any (w : World) (h n : Nat) (hh : h < 18446744073709551616) (hn : n < 18446744073709551616) :
    Calls Tryz.prog 134 #[.int .u64 (h : Nat), .int .u64 (n : Nat)] w fun e w' => e = .returned (.int .i64 (dfit h n : Nat)) ∧ w' = w := by
  by_cases h18 : h = 18
  · subst h18
    by_cases hn32 : n = 32
    · subst hn32
      go_enter Tryz.func134, Tryz.ntmps134
      go_wp2_with fail
      go_ret
      exact ⟨rfl, rfl⟩
    · have e : dfit 18 n = 31 := by simp [dfit, hn32]
      rw [e]
      have g : ((n : Int) != 32) = true := bne_iff_ne.2 (by omega)
      go_enter Tryz.func134, Tryz.ntmps134
      go_wp2_with fail
      go_ret
      exact ⟨rfl, rfl⟩
  · by_cases h0 : h = 0
    · subst h0
      by_cases hn64 : 64 < n
      · have e : dfit 0 n = 31 := by simp [dfit, hn64]
        rw [e]
        have g : (64 : Int) < (n : Int) := by omega
        go_enter Tryz.func134, Tryz.ntmps134
        go_wp2_with fail
        go_ret
        exact ⟨rfl, rfl⟩
      · have e : dfit 0 n = 0 := by simp [dfit, hn64]
        rw [e]
        have g : ¬ (64 : Int) < (n : Int) := by omega
        go_enter Tryz.func134, Tryz.ntmps134
        go_wp2_with fail
        go_ret
        exact ⟨rfl, rfl⟩
    · have e : dfit h n = 30 := by simp [dfit, h18, h0]
      rw [e]
      have g1 : ((h : Int) != 18) = true := bne_iff_ne.2 (by omega)
      have g2 : ((h : Int) != 0) = true := bne_iff_ne.2 (by omega)
      go_enter Tryz.func134, Tryz.ntmps134
      go_wp2_with fail
      go_ret
      exact ⟨rfl, rfl⟩

set_option maxRecDepth 1000000 in
theorem number_any (w : World) (v : Value) (xs : List Nat) (hsl : BSl w v xs) :
    Calls Tryz.prog 133 #[v] w fun e w' => e = .returned (dnumR (dnum xs)) ∧ w' = w := by
  have HV := hide hsl.vread
  clear hsl
  have HE : Hid (dnum xs = if (rd 0 0 xs).2.2 = 0 then rd 0 0 xs else (0, 0, if (rd 0 0 xs).2.2 = 10 then 32 else 33)) := rfl
  generalize rd 0 0 xs = r at *
  obtain ⟨n, u, E⟩ := r
  simp only [] at HV HE
  go_enter Tryz.func133, Tryz.ntmps133
  go_wp2_with fail
  refine HV.out.mono ?_
  rintro e w' ⟨rfl, rfl⟩
  by_cases h0 : E = 0
  · subst h0
    have e : dnum xs = (n, u, 0) := by rw [HE.out, if_pos rfl]
    go_wp2_with fail
    go_ret3
    exact ⟨by rw [e]; rfl, rfl⟩
  · have g0 : ((E : Int) == 0) = false := beq_eq_false_iff_ne.2 (by omega)
    by_cases h1 : E = 10
    · subst h1
      have e : dnum xs = (0, 0, 32) := by rw [HE.out, if_neg (by omega), if_pos rfl]
      go_wp2_with fail
      go_ret3
      exact ⟨by rw [e]; rfl, rfl⟩
    · have g1 : ((E : Int) == 10) = false := beq_eq_false_iff_ne.2 (by omega)
      have e : dnum xs = (0, 0, 33) := by rw [HE.out, if_neg h0, if_neg h1]
      go_wp2_with fail
      go_ret3
      exact ⟨by rw [e]; rfl, rfl⟩
end
section
open Go.RowKit
/-- What Lend gave, with its marks behind it. -/
structure Lnt (w : World) (base g cap : Nat) (xs : List Nat) : Prop where
  own : w.ownsRow base 5 1 (.slice (some ⟨g, 0, none⟩) (xs.length + 70) cap) (xs.length + 70) (bv (xs ++ marks))
  byte : ∀ x ∈ xs, x < 256
  len : xs.length ≤ 140737488351232

theorem Lnt.bsl {w : World} {base g cap : Nat} {xs : List Nat} (h : Lnt w base g cap xs) : BSl w (.slice (some ⟨g, 0, none⟩) xs.length cap) xs := BSl.lent h.own rfl h.byte

theorem Lnt.cap {w : World} {base g cap : Nat} {xs : List Nat} (h : Lnt w base g cap xs) : xs.length + 70 ≤ cap := by
  rcases h.own.2 with ⟨hv, _⟩ | ⟨g', cap', cur, hv, _, _, h1, _⟩
  · cases hv
  · injection hv with _ _ e; subst e; exact h1

theorem Lnt.mark {w : World} {base g cap : Nat} {xs : List Nat} (h : Lnt w base g cap xs) (i : Nat) (hi : i < 70) : w.cell? ⟨g, xs.length + i, none⟩ = some (.int .u8 (165 - (i : Int))) := by
  have hl : xs.length + i < (xs ++ marks).length := by simp [marks]; omega
  have := (own_cell h.own (j := xs.length + i) (bv_get hl)).1
  rw [this]
  have e : (xs ++ marks).getD (xs.length + i) 0 = 165 - i := by
    simp [List.getD, marks, hi]
  rw [e]
  congr 2
  omega

set_option maxRecDepth 1000000 in
set_option maxHeartbeats 400000 in
theorem intact_any {w : World} {base g cap : Nat} {xs : List Nat} (h : Lnt w base g cap xs) (vb : Value) (hb : BSl w vb xs) :
    Calls Tryz.prog 7 #[.slice (some ⟨g, 0, none⟩) xs.length cap, vb] w fun e w' => e = .returned (.bool true) ∧ Kp (fun _ => False) w w' := by
  have HH := hide h
  have hcv1 := h.bsl.text
  have hcv2 := hb.text
  have hcap := h.cap
  have hlen := h.len
  have hcap' : (xs.length : Int) + 70 ≤ (cap : Int) := by omega
  have HLEN := hide hlen
  generalize nstr xs = S at *
  clear h hb hlen
  go_enter Tryz.func7, Tryz.ntmps7
  have hl2 : (xs.length : Int) ≤ 140737488351232 := by have := HLEN.out; omega
  go_wp2
  clear hcv1 hcv2
  go_loopw [6] (fun i wr => ∃ k : Nat, k ≤ 70 ∧ i = .int .i64 k ∧ Kp (fun _ => False) w wr) (fun i _ => 70 - (intOf i).toNat)
  case atStart => exact ⟨0, by omega, rfl, Kp.refl _ _⟩
  case round =>
    obtain ⟨k, hk, rfl, hkp⟩ := hrel
    have HK := hide hkp
    clear hkp
    by_cases hlt : k < 70
    · have hlt' : (k : Int) < 70 := by omega
      have hm := HK.out.cell (HH.out.mark k hlt) (by simp)
      have HMK : Hid (∀ W, Calls Tryz.prog 12 #[.int .i64 (k : Int)] W fun e w' => e = .returned (.int .u8 (165 - (k : Int))) ∧ w' = W) := fun W => mark_any (k : Int) W (by omega) hlt'
      have hb1 : (xs.length : Int) + (k : Int) < (xs.length : Int) + 70 := by omega
      have hwr : IntKind.i64.wrap ((xs.length : Int) + (k : Int)) = (xs.length : Int) + (k : Int) := by rw [IntKind.wrap_i64]; omega
      go_wp2
      go_quiet ((go_at_call 12; exact Calls.quiet_of_same (HMK.out _)))
      go_wp2
      go_roundw
      case rel => exact ⟨k + 1, by omega, by go_num, HK.out.drewN _⟩
      case measure => simp [intOf]; omega
    · have hlt' : ¬ (k : Int) < 70 := by omega
      go_wp2
      go_ret
      exact ⟨rfl, HK.out⟩

theorem into_set (xs ys : List Nat) (k : Nat) (hx : k < xs.length) (hy : k < ys.length) : (bv (ys.take k ++ xs.drop k ++ marks)).set k (.int .u8 ((ys.getD k 0 : Nat) : Int)) = bv (ys.take (k + 1) ++ xs.drop (k + 1) ++ marks) := by
  have e1 : ys.take k ++ xs.drop k ++ marks = ys.take k ++ (xs[k] :: (xs.drop (k + 1) ++ marks)) := by rw [List.drop_eq_getElem_cons hx, List.append_assoc, List.cons_append]
  have e2 : ys.take (k + 1) ++ xs.drop (k + 1) ++ marks = ys.take k ++ (ys[k] :: (xs.drop (k + 1) ++ marks)) := by rw [List.take_succ_eq_append_getElem hy]; simp only [List.append_assoc, List.cons_append, List.nil_append]
  have hl2 : (bv (ys.take k)).length = k := by rw [bv_len, List.length_take]; omega
  have hb : ∀ (z : Nat) (l : List Nat), bv (z :: l) = Value.int .u8 ((z : Nat) : Int) :: bv l := fun _ _ => rfl
  rw [e1, e2, bv_app, bv_app, List.set_append_right (h := by omega), hl2, Nat.sub_self, hb, hb, List.set_cons_zero]
  simp [List.getD, hy]

set_option maxRecDepth 1000000 in
set_option maxHeartbeats 400000 in
theorem into_any {w : World} {base g cap : Nat} {xs ys : List Nat} (h : Lnt w base g cap xs) (vb : Value) (hb : BSl w vb ys) (hlen : ys.length = xs.length) (hne : vb.ownBlock ≠ some g) :
    Calls Tryz.prog 9 #[.slice (some ⟨g, 0, none⟩) xs.length cap, vb] w fun e w' => e = .returned (.tuple #[]) ∧ Lnt w' base g cap ys ∧ Kp (fun k => k = g) w w' := by
  have HH := hide h
  have HB := hide hb
  have HLE := hide hlen
  have HNE := hide hne
  have hmx : xs.length ≤ 9223372036854775807 := by have := h.len; omega
  obtain ⟨⟨ab, capb, rfl, hq1, hc⟩, hq2, hq3⟩ := hb
  have HC := hide hc
  clear h hlen hne hq1 hq2 hq3 hc
  go_enter Tryz.func9, Tryz.ntmps9
  go_wp2
  go_loopw [4] (fun i wr => ∃ k : Nat, k ≤ xs.length ∧ i = .int .i64 k ∧ wr.ownsRow base 5 1 (.slice (some ⟨g, 0, none⟩) (xs.length + 70) cap) (xs.length + 70) (bv (ys.take k ++ xs.drop k ++ marks)) ∧ Kp (fun q => q = g) w wr) (fun i _ => xs.length - (intOf i).toNat)
  case atStart => exact ⟨0, Nat.zero_le _, rfl, by simpa using HH.out.own, Kp.refl _ _⟩
  case round =>
    obtain ⟨k, hk, rfl, hown, hkp⟩ := hrel
    have HO := hide hown
    have HK := hide hkp
    clear hown hkp
    by_cases hlt : k < xs.length
    · have hlt' : (k : Int) < (xs.length : Int) := by omega
      have hlty : k < ys.length := by have := HLE.out; omega
      have hlty' : (k : Int) < (ys.length : Int) := by omega
      rcases HC.out with h | ⟨b1, o1, rfl, hcc⟩
      · rw [h] at hlty; simp at hlty
      have hbg : b1 ≠ g := fun e => HNE.out (by simp [Value.ownBlock, e])
      have cc := HK.out.cell (hcc k hlty) hbg
      have hget : (bv (ys.take k ++ xs.drop k ++ marks))[k]? = some (.int .u8 ((xs.getD k 0 : Nat) : Int)) := by
        have hl : k < (ys.take k ++ xs.drop k ++ marks).length := by simp [marks]; omega
        rw [bv_get hl]
        congr 3
        have hl2 : (ys.take k).length = k := by rw [List.length_take]; omega
        rw [List.append_assoc]
        simp only [List.getD]
        rw [List.getElem?_append_right (by omega), hl2, Nat.sub_self, List.getElem?_append_left (by rw [List.length_drop]; omega)]
        simp
      obtain ⟨cg, fg⟩ := own_cell HO.out hget
      have hset : (bv (ys.take k ++ xs.drop k ++ marks)).set k (.int .u8 ((ys.getD k 0 : Nat) : Int)) = bv (ys.take (k + 1) ++ xs.drop (k + 1) ++ marks) := by
        exact into_set xs ys k hlt hlty
      have HSE := hide hset
      clear hset hget hcc
      generalize xs.getD k 0 = old at *
      generalize ys.getD k 0 = new at *
      go_wp2
      go_roundw
      case rel => exact ⟨k + 1, by omega, by go_num, by rw [← HSE.out]; exact own_set _ HO.out, HK.out.setCell _ _ (fun _ => rfl)⟩
      case measure => simp [intOf]; omega
    · have hlt' : ¬ (k : Int) < (xs.length : Int) := by omega
      go_wp2
      go_end0
      refine ⟨rfl, ⟨?_, HB.out.byte, by rw [HLE.out]; exact HH.out.len⟩, HK.out⟩
      have h := HO.out
      rw [List.take_of_length_le (by have := HLE.out; omega), List.drop_of_length_le (by omega), List.append_nil] at h
      rw [HLE.out]
      exact h

set_option maxRecDepth 1000000 in
set_option maxHeartbeats 400000 in
theorem other_any (w : World) (vb : Value) (xs : List Nat) (hb : BSl w vb xs) (hlen : xs.length ≤ 140737488351232) :
    Calls Tryz.prog 8 #[vb] w fun e w' => ∃ v, e = .returned v ∧ Hid (∃ ys, w'.ownsRow w.heap.size 5 1 v ys.length (bv ys) ∧ (∀ y ∈ ys, y < 256) ∧ ys.length = xs.length ∧ Below w.heap.size w w') := by
  have HB := hide hb
  have HLEN := hide hlen
  obtain ⟨⟨ab, capb, rfl, hq1, hc⟩, hq2, hby⟩ := hb
  have HC := hide hc
  have HBY := hide hby
  clear hq1 hc hby hlen
  go_enter Tryz.func8, Tryz.ntmps8
  go_wp2
  go_loopw [3, 4] (fun l i wr => ∃ (j : Nat) (al : Option Addr) (cl : Nat) (zs : List Nat), j ≤ xs.length ∧ i = .int .i64 ((j : Int) - 1) ∧ l = .slice al (xs.length - j) cl ∧ zs.length = xs.length - j ∧ wr.ownsRow w.heap.size 5 1 (.slice al (xs.length - j) cl) (xs.length - j) (bv zs) ∧ (∀ z ∈ zs, z < 256) ∧ Below w.heap.size w wr) (fun _ i _ => (intOf i + 1).toNat)
  case atStart => exact ⟨xs.length, none, 0, [], Nat.le_refl _, rfl, by rw [Nat.sub_self], by simp, by rw [Nat.sub_self]; exact World.ownsRow_nil _ _ _ _, by simp, Below.refl _ _⟩
  case round =>
    obtain ⟨j, al, cl, zs, hj, rfl, rfl, hzl, hown, hzb, hbel⟩ := hrel
    have HZL := hide hzl
    have HO := hide hown
    have HZB := hide hzb
    have HBE := hide hbel
    clear hzl hown hzb hbel
    by_cases hj0 : 0 < j
    · obtain ⟨j', rfl⟩ : ∃ j', j = j' + 1 := ⟨j - 1, by omega⟩
      rcases HC.out with h | ⟨b1, o1, rfl, hcc⟩
      · rw [h] at hj; simp at hj
      have cc := keep_below HBE.out _ _ (hcc j' (by omega))
      have hx := getD_lt HBY.out j'
      have hcond : (0 : Int) ≤ ((j' + 1 : Nat) : Int) - 1 := by omega
      clear hcc hj0
      generalize xs.getD j' 0 = x at *
      go_wp2_with (at_builtin; refine append_bsl rfl _ _ rfl w.heap.size _ (xs.length - (j' + 1)) zs rfl (HO.out.alloc _) _ [x] rfl (one_bsl _ x hx) ?b1 ?b2 ?_)
      case b1 => have := HLEN.out; simp; omega
      case b2 => have := HBE.out.size; simp; omega
      intro v2 w2 ho2 hg2
      have HBE2 : Hid (Below w.heap.size w w2) := (HBE.out.alloc HBE.out.size _).grown hg2 (by have := HBE.out.size; simp; omega) (fun q hq => (HO.out.lt q hq).1)
      have hn2 : xs.length - (j' + 1) + 1 = xs.length - j' := by omega
      rw [hn2] at ho2
      obtain ⟨a2, c2, hv2, hq3, hq4, hq5⟩ := own_form ho2
      have HO2 := hide ho2
      have HN2 := hide hn2
      subst hv2
      clear hq3 hq4 hq5 ho2 hg2 hn2
      go_wp2
      go_roundw
      case rel =>
        refine ⟨j', a2, c2, zs ++ [x], by omega, by simp, rfl, by have := HZL.out; simp; omega, HO2.out, ?_, HBE2.out⟩
        intro z hz
        rcases List.mem_append.1 hz with hz | hz
        · exact HZB.out z hz
        · rw [List.mem_singleton.1 hz]; exact hx
      case measure => simp [intOf]
    · have hj00 : j = 0 := by omega
      subst hj00
      have hcond : ¬ (0 : Int) ≤ ((0 : Nat) : Int) - 1 := by omega
      rw [Nat.sub_zero] at HZL HO
      rw [Nat.sub_zero]
      have hb1 := BSl.own HO.out HZB.out
      have hb2 := HB.out.move (keep_below HBE.out)
      have hcv1 := hb1.text
      have hcv2 := hb2.text
      generalize nstr xs = S1 at *
      generalize nstr zs = S2 at *
      clear hb1 hb2 hj hj0
      by_cases hpos : 0 < xs.length
      · have hpos' : (0 : Int) < (xs.length : Int) := by omega
        by_cases hsame : S2.toList = S1.toList
        · have hsame' : (S2.toList == S1.toList) = true := beq_iff_eq.2 hsame
          clear hsame
          have hgz : zs.length - 1 < zs.length := by have := HZL.out; omega
          obtain ⟨gg, hgg⟩ : ∃ gg, al = some ⟨gg, 0, none⟩ := by
            rcases HO.out.2 with ⟨_, h0⟩ | ⟨gg, _, _, hv, _⟩
            · omega
            · injection hv with hv; exact ⟨gg, hv⟩
          subst hgg
          obtain ⟨cl1, fl1⟩ := own_cell HO.out (j := xs.length - 1) (by rw [bv_get (by have := HZL.out; omega)])
          have hzx := getD_lt HZB.out (xs.length - 1)
          have hixr : ((xs.length : Int) - 1).toNat = xs.length - 1 := by omega
          have hixb : (0 : Int) ≤ (xs.length : Int) - 1 := by omega
          have hxor : bits .xor .u8 ((zs.getD (xs.length - 1) 0 : Nat) : Int) 1 = ((zs.getD (xs.length - 1) 0 ^^^ 1 : Nat) : Int) := u8_xor_nat _ 1 hzx (by decide)
          have HXL : Hid (zs.getD (xs.length - 1) 0 ^^^ 1 < 256) := Nat.xor_lt_two_pow (n := 8) hzx (by decide)
          generalize zs.getD (xs.length - 1) 0 = z at *
          generalize z ^^^ 1 = z' at *
          go_wp2
          go_ret
          have hown := own_set (j := xs.length - 1) (.int .u8 ((z' : Nat) : Int)) HO.out
          have hset : (bv zs).set (xs.length - 1) (.int .u8 ((z' : Nat) : Int)) = bv (zs.set (xs.length - 1) z') := by simp [bv, List.map_set]
          rw [hset] at hown
          refine ⟨_, rfl, zs.set (xs.length - 1) z', by rw [List.length_set, HZL.out]; exact hown, fun y hy => ?_, by rw [List.length_set]; exact HZL.out, HBE.out.setCell (HO.out.lt gg rfl).1 _⟩
          rcases List.mem_or_eq_of_mem_set hy with h | h
          · exact HZB.out y h
          · rw [h]; exact HXL.out
        · have hsame' : (S2.toList == S1.toList) = false := beq_eq_false_iff_ne.2 hsame
          clear hsame
          go_wp2
          go_ret
          exact ⟨_, rfl, zs, by rw [HZL.out]; exact HO.out, HZB.out, HZL.out, HBE.out⟩
      · have hpos' : ¬ (0 : Int) < (xs.length : Int) := by omega
        go_wp2
        go_ret
        exact ⟨_, rfl, zs, by rw [HZL.out]; exact HO.out, HZB.out, HZL.out, HBE.out⟩

theorem Lnt.kp {w w' : World} {base g cap : Nat} {xs : List Nat} {S : Nat → Prop} (h : Lnt w base g cap xs) (hk : Kp S w w') (hs : ¬ S g) : Lnt w' base g cap xs :=
  ⟨hk.owns h.own (fun q hq => by simp [Value.ownBlock] at hq; subst hq; exact hs), h.byte, h.len⟩
end
section
open Go.RowKit Go
theorem dlay_fit (h : Nat) (d : List Nat) : dlay h d = if dfit h d.length = 0 then (h :: d.length :: d, 0) else ([], dfit h d.length) := by
  unfold dlay dfit
  by_cases h1 : h ≠ 18 ∧ h ≠ 0
  · rw [if_pos h1, if_pos h1]; rfl
  · rw [if_neg h1, if_neg h1]
    by_cases h2 : (h = 18 ∧ d.length ≠ 32) ∨ (h = 0 ∧ 64 < d.length)
    · rw [if_pos h2, if_pos h2]; rfl
    · rw [if_neg h2, if_neg h2]; rfl
theorem dfit_ok {h n : Nat} (e : dfit h n = 0) : (h = 18 ∨ h = 0) ∧ n ≤ 64 := by
  unfold dfit at e
  by_cases h1 : h ≠ 18 ∧ h ≠ 0
  · rw [if_pos h1] at e; cases e
  · rw [if_neg h1] at e
    by_cases h2 : (h = 18 ∧ n ≠ 32) ∨ (h = 0 ∧ 64 < n)
    · rw [if_pos h2] at e; cases e
    · omega
theorem dfit_lt (h n : Nat) : dfit h n < 32 := by
  unfold dfit
  split
  · decide
  · split <;> decide
end
section
open Go.RowKit Go
theorem dread_fit {xs : List Nat} {hn u n m : Nat} (h : dnum xs = (hn, u, 0)) (h2 : dnum (xs.drop u) = (n, m, 0)) :
    (dfit hn n ≠ 0 → dread xs = (0, [], 0, dfit hn n)) ∧ (dfit hn n = 0 → (xs.length - (u + m) < n → dread xs = (0, [], 0, 32)) ∧ (¬ xs.length - (u + m) < n → dread xs = (hn, (xs.drop (u + m)).take n, u + m + n, 0))) := by
  have K := (dread_rest h).2 n m h2
  unfold dfit
  by_cases h1 : hn ≠ 18 ∧ hn ≠ 0
  · rw [if_pos h1]
    exact ⟨fun _ => K.1 h1, fun h => by cases h⟩
  · rw [if_neg h1]
    have K2 := K.2 h1
    by_cases h3 : (hn = 18 ∧ n ≠ 32) ∨ (hn = 0 ∧ 64 < n)
    · rw [if_pos h3]
      exact ⟨fun _ => K2.1 h3, fun h => by cases h⟩
    · rw [if_neg h3]
      exact ⟨fun h => absurd rfl h, fun _ => K2.2 h3⟩

set_option maxRecDepth 1000000 in
set_option maxHeartbeats 4000000 in
theorem dread_any (w : World) (v : Value) (xs : List Nat) (hsl : BSl w v xs) :
    Calls Tryz.prog 131 #[v] w fun e w' => ∃ v', e = .returned (.tuple #[.int .u64 ((dread xs).1 : Nat), v', .int .i64 ((dread xs).2.2.1 : Nat), .int .i64 ((dread xs).2.2.2 : Nat)]) ∧ w'.ownsRow w.heap.size 5 1 v' (dread xs).2.1.length (bv (dread xs).2.1) ∧ Below w.heap.size w w' := by
  have HSL := hide hsl
  have HRB := hide (dnum_bound xs)
  have HRX := hide (dnum_bad xs)
  have HD1 := hide (@dread_one xs)
  have HD2 : Hid (∀ hn u : Nat, dnum xs = (hn, u, 0) → _) := fun hn u h => dread_rest (xs := xs) (hn := hn) (u := u) h
  have HD3 : Hid (∀ hn u n m : Nat, dnum xs = (hn, u, 0) → dnum (xs.drop u) = (n, m, 0) → _) := fun hn u n m h h2 => dread_fit (xs := xs) (hn := hn) (u := u) (n := n) (m := m) h h2
  obtain ⟨⟨a, cap, rfl, hn, hc⟩, hmax, hb⟩ := hsl
  have hcap := hn.1
  clear hn hc hb
  go_enter Tryz.func131, Tryz.ntmps131
  go_wp2_with fail
  refine (number_any _ _ xs HSL.out).mono ?_
  rintro e w1 ⟨rfl, rfl⟩
  by_cases hr : (dnum xs).2.2 = 0
  · have hrb := HRB.out hr
    obtain ⟨hn, u, re, hR⟩ : ∃ hn u re, dnum xs = (hn, u, re) := ⟨_, _, _, rfl⟩
    rw [hR] at hr hrb
    simp only at hr hrb
    subst hr
    obtain ⟨hhn, hu, hu9⟩ := hrb
    have HH := hide (HD2.out hn u hR).1
    have HRR := hide hR
    rw [hR]
    clear HD1 HD2 HRX HRB
    obtain ⟨⟨a', cap', hv, hn1, hc⟩, hmax1, hb1⟩ := HSL.out
    injection hv with hv1 hv2 hv3
    subst hv1
    subst hv3
    rcases hc with hc | ⟨b, off, rfl, hc⟩
    · subst hc
      rw [dnum_nil] at hR
      injection hR with _ hR
      injection hR with _ hR
      cases hR
    clear hn1 hc hb1 hv2 hR
    simp only [dnumR]
    by_cases hcu : cap = u
    · have hxu : xs.drop u = [] := List.drop_of_length_le (by omega)
      have HE : Hid (dread xs = (0, [], 0, 32)) := by
        have h := HH.out
        rw [hxu, dnum_nil] at h
        exact h (by simp)
      have HSD : Hid (BSl w1 (.slice (some ⟨b, off, none⟩) 0 0) []) := bsl_nil _ _ _
      have hul : xs.length = u := by omega
      rw [hul] at HSL
      clear hxu HH hhn
      subst hcu
      go_wp2_with fail
      refine (number_any _ _ [] HSD.out).mono ?_
      rintro e w2 ⟨rfl, rfl⟩
      clear HSD HSL
      rw [dnum_nil]
      simp only [dnumR]
      go_wp2
      refine bodyPost_ret (results_four rfl _ _ _) rfl ⟨_, by rw [HE.out]; rfl, by rw [HE.out]; exact World.ownsRow_nil _ _ _ _, Below.refl _ _⟩
    · have hcu' : ¬ u = cap := fun e => hcu e.symm
      have huc : (u : Int) ≤ (xs.length : Int) := by omega
      have HSD := hide (HSL.out.drop u hu)
      go_wp2_with fail
      refine (number_any _ _ (xs.drop u) HSD.out).mono ?_
      rintro e w2 ⟨rfl, rfl⟩
      have HQB := hide (dnum_bound (xs.drop u))
      have HQX := hide (dnum_bad (xs.drop u))
      obtain ⟨n, m, qe, hQ⟩ : ∃ n m qe, dnum (xs.drop u) = (n, m, qe) := ⟨_, _, _, rfl⟩
      rw [hQ] at HQB HQX HH ⊢
      simp only [dnumR] at HQB HQX HH ⊢
      by_cases hq : qe = 0
      · subst hq
        have hqb := HQB.out rfl
        rw [List.length_drop] at hqb
        obtain ⟨hqn, hqm, hqm9⟩ := hqb
        have HK := hide (HD3.out hn u n m HRR.out hQ)
        have HFK := hide (dfit_ok (h := hn) (n := n))
        have HFL := hide (dfit_lt hn n)
        clear HQB HQX HH hQ HRR HD3
        go_wp2_with fail
        refine (fits_any _ hn n (by omega) (by omega)).mono ?_
        rintro e w3 ⟨rfl, rfl⟩
        generalize dfit hn n = f at *
        by_cases hf : f = 0
        · subst hf
          have hfk := HFK.out rfl
          have HK2 := hide (HK.out.2 rfl)
          have hn64 : n ≤ 64 := hfk.2
          clear HK HFK HFL hfk
          by_cases hs : xs.length - (u + m) < n
          · have HE : Hid (dread xs = (0, [], 0, 32)) := HK2.out.1 hs
            have hs' : (xs.length : Int) < (u : Int) + (m : Int) + (n : Int) := by omega
            go_wp2_with fail
            refine bodyPost_ret (results_four rfl _ _ _) rfl ⟨_, by rw [HE.out]; rfl, by rw [HE.out]; exact World.ownsRow_nil _ _ _ _, Below.refl _ _⟩
          · have HE : Hid (dread xs = (hn, (xs.drop (u + m)).take n, u + m + n, 0)) := HK2.out.2 hs
            have hs' : ¬ (xs.length : Int) < (u : Int) + (m : Int) + (n : Int) := by omega
            have hum : u + m ≤ xs.length := by omega
            by_cases hn0 : n = 0
            · subst hn0
              rw [List.take_zero] at HE
              go_wp2_with fail
              refine (clone_any _ _ [] (bsl_nil _ _ _) (by simp)).mono ?_
              rintro e w4 ⟨v4, rfl, ho4, hb4⟩
              have HO4 := hide ho4
              have HB4 := hide hb4
              clear ho4 hb4
              go_wp2_with fail
              refine bodyPost_ret (results_four rfl _ _ _) rfl ⟨v4, by rw [HE.out]; rfl, by rw [HE.out]; exact HO4.out, HB4.out⟩
            · have HTL : Hid (((xs.drop (u + m)).take n).length = n) := by
                show _ = _
                rw [List.length_take, List.length_drop]
                omega
              have HVS : Hid (BSl w3 (.slice (some ⟨b, off + (u + m), none⟩) n n) ((xs.drop (u + m)).take n)) := (HSL.out.drop (u + m) hum).take3 n (by rw [List.length_drop]; omega)
              generalize (xs.drop (u + m)).take n = D at *
              have hne : ¬ u + m + n = u + m := by omega
              go_wp2_with fail
              refine (clone_any _ _ D HVS.out (by rw [HTL.out]; omega)).mono ?_
              rintro e w4 ⟨v4, rfl, ho4, hb4⟩
              have HO4 := hide ho4
              have HB4 := hide hb4
              clear ho4 hb4
              go_wp2_with fail
              refine bodyPost_ret (results_four rfl _ _ _) rfl ⟨v4, by rw [HE.out]; rfl, by rw [HE.out]; exact HO4.out, HB4.out⟩
        · have g : ((f : Int) != 0) = true := bne_iff_ne.2 (by omega)
          have HE : Hid (dread xs = (0, [], 0, f)) := HK.out.1 hf
          have hf32 := HFL.out
          go_wp2_with fail
          refine bodyPost_ret (results_four rfl _ _ _) rfl ⟨_, by rw [HE.out]; rfl, by rw [HE.out]; exact World.ownsRow_nil _ _ _ _, Below.refl _ _⟩
      · have g : ((qe : Int) != 0) = true := bne_iff_ne.2 (by omega)
        have HE : Hid (dread xs = (0, [], 0, qe)) := HH.out hq
        have hq3 := HQX.out hq
        go_wp2_with fail
        refine bodyPost_ret (results_four rfl _ _ _) rfl ⟨_, by rw [HE.out]; rfl, by rw [HE.out]; exact World.ownsRow_nil _ _ _ _, Below.refl _ _⟩
  · have HE := hide (HD1.out hr)
    have hbad := HRX.out hr
    obtain ⟨hn, u, re, hR⟩ : ∃ hn u re, dnum xs = (hn, u, re) := ⟨_, _, _, rfl⟩
    rw [hR] at HE hr hbad ⊢
    simp only [dnumR] at HE hr hbad ⊢
    have g : ((re : Int) != 0) = true := bne_iff_ne.2 (by omega)
    go_wp2_with fail
    refine bodyPost_ret (results_four rfl _ _ _) rfl ⟨_, by rw [HE.out]; rfl, by rw [HE.out]; exact World.ownsRow_nil _ _ _ _, Below.refl _ _⟩
end
section
open Go.RowKit Go
/-! ### What is laid is read; what is read is laid -/
theorem dnum_small {n : Nat} (h : n < 128) (r : List Nat) : dnum (n :: r) = (n, 1, 0) := by
  have e : rd 0 0 (n :: r) = (n, 1, 0) := by
    rw [rd]
    have h1 : ¬ 128 ≤ n := by omega
    simp [h1]
    omega
  unfold dnum
  rw [e]
  rfl
theorem dread_laid {h : Nat} {d ms : List Nat} (hk : (h = 18 ∧ d.length = 32) ∨ (h = 0 ∧ d.length ≤ 64)) : dread (h :: d.length :: d ++ ms) = (h, d, 2 + d.length, 0) := by
  have e1 : dnum (h :: d.length :: d ++ ms) = (h, 1, 0) := dnum_small (by omega) _
  have e2 : dnum ((h :: d.length :: d ++ ms).drop 1) = (d.length, 1, 0) := dnum_small (by omega) _
  have f : dfit h d.length = 0 := by
    unfold dfit
    rw [if_neg (by omega), if_neg (by omega)]
  have K := ((dread_fit e1 e2).2 f).2 (by simp)
  rw [K]
  simp
theorem rd_small : ∀ (xs : List Nat) (k m : Nat), 1 ≤ k → (rd k m xs).2.2 = 0 → 128 ^ k ≤ (rd k m xs).1
  | [], k, m, _, h => by
    rw [rd] at h
    split at h <;> simp at h
  | x :: r, k, m, hk, h => by
    rw [rd] at h ⊢
    by_cases h9 : k = 9
    · rw [if_pos h9] at h; simp at h
    · rw [if_neg h9] at h ⊢
      by_cases h1 : 128 ≤ x
      · rw [if_pos h1] at h ⊢
        have := rd_small r (k + 1) _ (by omega) h
        have e : 128 ^ (k + 1) = 128 * 128 ^ k := by rw [Nat.pow_succ, Nat.mul_comm]
        have hp : 0 < 128 ^ k := Nat.pow_pos (by decide)
        omega
      · rw [if_neg h1] at h ⊢
        by_cases h0 : x = 0 ∧ 0 < k
        · rw [if_pos h0] at h; simp at h
        · rw [if_neg h0]
          simp only
          have hx : 1 ≤ x % 128 := by omega
          have : 1 * 128 ^ k ≤ x % 128 * 128 ^ k := Nat.mul_le_mul_right _ hx
          omega
theorem dnum_form {xs : List Nat} {n u : Nat} (h : dnum xs = (n, u, 0)) (hn : n < 128) : u = 1 ∧ ∃ r, xs = n :: r := by
  have h0 : (rd 0 0 xs).2.2 = 0 := by
    by_cases e : (rd 0 0 xs).2.2 = 0
    · exact e
    · unfold dnum at h
      rw [if_neg e] at h
      injection h with _ h
      injection h with _ h
      split at h <;> cases h
  have hr : rd 0 0 xs = (n, u, 0) := by
    unfold dnum at h
    rw [if_pos h0] at h
    exact h
  cases xs with
  | nil => rw [rd] at hr; simp at hr
  | cons x r =>
    rw [rd] at hr
    simp only [if_neg (show ¬ (0 : Nat) = 9 by decide)] at hr
    by_cases h1 : 128 ≤ x
    · rw [if_pos h1] at hr
      have h2 := rd_small r 1 (0 + x % 128 * 128 ^ 0) (by omega) (by rw [hr])
      rw [hr] at h2
      simp at h2
      omega
    · rw [if_neg h1, if_neg (by omega)] at hr
      injection hr with e1 e2
      injection e2 with e2 _
      simp at e1
      refine ⟨e2.symm, r, ?_⟩
      rw [← e1, Nat.mod_eq_of_lt (by omega)]
theorem dread_back {xs : List Nat} (h : (dread xs).2.2.2 = 0) : (dread xs).2.2.1 ≤ xs.length ∧ dlay (dread xs).1 (dread xs).2.1 = (xs.take (dread xs).2.2.1, 0) ∧ (dread xs).1 < 128 := by
  by_cases h1 : (dnum xs).2.2 = 0
  · obtain ⟨hn, u, re, hR⟩ : ∃ hn u re, dnum xs = (hn, u, re) := ⟨_, _, _, rfl⟩
    rw [hR] at h1
    simp only at h1
    subst h1
    by_cases h2 : (dnum (xs.drop u)).2.2 = 0
    · obtain ⟨n, m, qe, hQ⟩ : ∃ n m qe, dnum (xs.drop u) = (n, m, qe) := ⟨_, _, _, rfl⟩
      rw [hQ] at h2
      simp only at h2
      subst h2
      have K := dread_fit hR hQ
      by_cases hf : dfit hn n = 0
      · have hk := dfit_ok hf
        have K2 := K.2 hf
        by_cases hs : xs.length - (u + m) < n
        · rw [K2.1 hs] at h; cases h
        · have E := K2.2 hs
          obtain ⟨hu, r, hx⟩ := dnum_form hR (by omega)
          subst hu
          subst hx
          have hQ' : dnum r = (n, m, 0) := hQ
          obtain ⟨hm, r2, hr⟩ := dnum_form hQ' (by omega)
          subst hm
          subst hr
          rw [E]
          have hlen : n ≤ r2.length := by simp at hs; omega
          have e : ((hn :: n :: r2).drop (1 + 1)).take n = r2.take n := rfl
          have et : (hn :: n :: r2).take (1 + 1 + n) = hn :: n :: r2.take n := by
            have : 1 + 1 + n = n + 1 + 1 := by omega
            rw [this]
            rfl
          refine ⟨by simp; omega, ?_, by simp only; omega⟩
          simp only
          rw [e, et, dlay_fit]
          have el : (r2.take n).length = n := by simp; omega
          rw [el, if_pos hf]
      · rw [K.1 hf] at h; exact absurd h hf
    · rw [(dread_rest hR).1 h2] at h; exact absurd h h2
  · rw [dread_one h1] at h; exact absurd h h1
theorem dlay_ok {h : Nat} {d : List Nat} (hk : (h = 18 ∧ d.length = 32) ∨ (h = 0 ∧ d.length ≤ 64)) : dlay h d = (h :: d.length :: d, 0) := by
  unfold dlay
  rw [if_neg (by omega), if_neg (by omega)]
end
section
open Go.RowKit Go
/-- What is read was laid so. -/
theorem rd_back : ∀ (xs : List Nat) (f k m v u : Nat), k + f = 9 → (∀ x ∈ xs, x < 256) → rd k m xs = (v, u, 0) → ∃ n, v = m + n * 128 ^ k ∧ n < 128 ^ f ∧ (0 < k → 0 < n) ∧ k ≤ u ∧ u - k ≤ xs.length ∧ digs f n = xs.take (u - k)
  | [], f, k, m, v, u, hk, _, h => by
    unfold rd at h
    split at h <;> simp at h
  | x :: r, f, k, m, v, u, hk, hb, h => by
    have hx := hb x (by simp)
    unfold rd at h
    split at h
    · simp at h
    · rename_i h9
      obtain ⟨g, rfl⟩ : ∃ g, f = g + 1 := ⟨f - 1, by omega⟩
      split at h
      · rename_i h128
        obtain ⟨n, hv, hn, hp, hu, hl, hd⟩ := rd_back r g (k + 1) _ v u (by omega) (fun y hy => hb y (List.mem_cons_of_mem _ hy)) h
        have hp := hp (by omega)
        refine ⟨x % 128 + n * 128, ?_, ?_, fun _ => by omega, by omega, by simp; omega, ?_⟩
        · rw [hv, Nat.pow_succ, Nat.add_mul, Nat.add_assoc]
          congr 2
          rw [Nat.mul_comm (128 ^ k) 128, Nat.mul_assoc]
        · rw [Nat.pow_succ]
          have : (n + 1) * 128 ≤ 128 ^ g * 128 := Nat.mul_le_mul_right _ hn
          omega
        · rw [digs_big (by omega)]
          have e1 : (x % 128 + n * 128) % 128 + 128 = x := by omega
          have e2 : (x % 128 + n * 128) / 128 = n := by omega
          rw [e1, e2, hd]
          have e3 : u - k = u - (k + 1) + 1 := by omega
          rw [e3, List.take_succ_cons]
      · split at h
        · simp at h
        · rename_i h128 hz
          simp only [Prod.mk.injEq] at h
          refine ⟨x, ?_, ?_, fun hk0 => by omega, by omega, by simp; omega, ?_⟩
          · rw [← h.1, Nat.mod_eq_of_lt (by omega)]
          · rw [Nat.pow_succ]
            have : 1 ≤ 128 ^ g := Nat.pow_pos (by decide)
            omega
          · rw [digs_small (by omega)]
            have e3 : u - k = 1 := by omega
            rw [e3]
            simp
theorem dnum_back {xs : List Nat} {n u : Nat} (hb : ∀ x ∈ xs, x < 256) (h : dnum xs = (n, u, 0)) : n < 9223372036854775808 ∧ u ≤ xs.length ∧ digs 9 n = xs.take u := by
  unfold dnum at h
  split at h
  · obtain ⟨m, hv, hm, _, _, hl, hd⟩ := rd_back xs 9 0 0 n u rfl hb h
    have e : (128 : Nat) ^ 9 = 9223372036854775808 := by decide
    rw [Nat.pow_zero, Nat.mul_one, Nat.zero_add] at hv
    subst hv
    exact ⟨by omega, by omega, by simpa using hd⟩
  · simp only [Prod.mk.injEq] at h
    have := h.2.2
    split at this <;> omega

/-- A link. -/
structure Lk where
  v : Int
  c : Nat
  h : Nat
  d : List Nat
def Lk.none : Lk := ⟨0, 0, 0, []⟩
/-- A digest that its hash may have. -/
def okd (h : Nat) (d : List Nat) : Prop := (h = 18 ∧ d.length = 32) ∨ (h = 0 ∧ d.length ≤ 64)
instance (h : Nat) (d : List Nat) : Decidable (okd h d) := inferInstanceAs (Decidable (_ ∨ _))
/-- A link that may be. -/
def lok (l : Lk) : Prop := (l.v = 0 ∧ l.c = 112 ∧ l.h = 18 ∧ l.d.length = 32) ∨ (l.v = 1 ∧ l.c < 9223372036854775808 ∧ okd l.h l.d)
instance (l : Lk) : Decidable (lok l) := inferInstanceAs (Decidable (_ ∨ _))
theorem lok_okd {l : Lk} (h : lok l) : okd l.h l.d := by
  rcases h with ⟨_, _, h1, h2⟩ | ⟨_, _, h⟩
  · exact .inl ⟨h1, h2⟩
  · exact h
theorem dlay_okd {h : Nat} {d : List Nat} : (dlay h d).2 = 0 ↔ okd h d := by
  unfold dlay okd
  split
  · simp
    omega
  · split
    · simp
      omega
    · simp
      omega
/-- A link's bytes (P4.4). -/
def lbytes (l : Lk) : List Nat := if l.v = 0 then l.h :: l.d.length :: l.d else 1 :: digs 9 l.c ++ (l.h :: l.d.length :: l.d)
/-- What digest.Read's error is here. -/
def lerr (e : Nat) : Nat := if e = 32 ∨ e = 33 then 42 else 43
/-- Row 3 of P4.5. -/
def lthird (v : Int) (c at' : Nat) (b : List Nat) : Lk × Nat × Nat := if (dread (b.drop at')).2.2.2 = 0 then (⟨v, c, (dread (b.drop at')).1, (dread (b.drop at')).2.1⟩, at' + (dread (b.drop at')).2.2.1, 0) else (Lk.none, 0, lerr (dread (b.drop at')).2.2.2)
/-- The link at the front (P4.5). -/
def lfirst (b : List Nat) : Lk × Nat × Nat :=
  if b.head? = some 18 then lthird 0 112 0 b
  else if (dnum b).2.2 ≠ 0 then (Lk.none, 0, 42) else if (dnum b).1 ≠ 1 then (Lk.none, 0, 41)
  else if (dnum (b.drop (dnum b).2.1)).2.2 ≠ 0 then (Lk.none, 0, 42)
  else lthird 1 (dnum (b.drop (dnum b).2.1)).1 ((dnum b).2.1 + (dnum (b.drop (dnum b).2.1)).2.1) b
/-- The link of bytes (P4.6). -/
def lparse (b : List Nat) : Lk × Nat := if (lfirst b).2.2 ≠ 0 then (Lk.none, (lfirst b).2.2) else if (lfirst b).2.1 < b.length then (Lk.none, 44) else ((lfirst b).1, 0)
end
section
open Go.RowKit Go
theorem lthird_back {v : Int} {c a n : Nat} {b : List Nat} {l : Lk} (h : lthird v c a b = (l, n, 0)) : okd l.h l.d ∧ l.v = v ∧ l.c = c ∧ a ≤ n ∧ n - a ≤ (b.drop a).length ∧ l.h :: l.d.length :: l.d = (b.drop a).take (n - a) := by
  unfold lthird at h
  split at h
  · rename_i h0
    simp only [Prod.mk.injEq] at h
    obtain ⟨h1, h2, _⟩ := h
    have hb := dread_back h0
    have hk : okd (dread (b.drop a)).1 (dread (b.drop a)).2.1 := dlay_okd.1 (by rw [hb.2.1])
    have hd := dlay_ok hk
    rw [hd] at hb
    subst h1
    have e : n - a = (dread (b.drop a)).2.2.1 := by omega
    refine ⟨hk, rfl, rfl, by omega, by omega, ?_⟩
    rw [e]
    exact congrArg Prod.fst hb.2.1
  · rename_i h0
    simp only [Prod.mk.injEq] at h
    have := h.2.2
    unfold lerr at this
    split at this <;> omega
theorem lfirst_back {b : List Nat} {l : Lk} {n : Nat} (hb : ∀ x ∈ b, x < 256) (h : lfirst b = (l, n, 0)) : lok l ∧ n ≤ b.length ∧ lbytes l = b.take n := by
  unfold lfirst at h
  split at h
  · rename_i h18
    obtain ⟨hk, hv, hc, _, hn, he⟩ := lthird_back h
    rw [List.drop_zero, Nat.sub_zero] at hn he
    have hh : l.h = 18 := by
      cases b with
      | nil => simp at h18
      | cons x b =>
        simp at h18
        subst h18
        cases n with
        | zero => simp at he
        | succ n =>
          rw [List.take_succ_cons] at he
          injection he
    have hd : l.d.length = 32 := by
      rcases hk with h1 | h1
      · exact h1.2
      · omega
    refine ⟨.inl ⟨hv, hc, hh, hd⟩, hn, ?_⟩
    unfold lbytes
    rw [if_pos hv]
    exact he
  · split at h
    · simp at h
    · rename_i hn1
      split at h
      · simp at h
      · rename_i hv1
        split at h
        · simp at h
        · rename_i hn2
          generalize hd1 : dnum b = r1 at *
          obtain ⟨v1, u1, e1⟩ := r1
          simp only [ne_eq, Decidable.not_not] at hn1 hv1 hn2 h
          subst hn1
          subst hv1
          generalize hd2 : dnum (b.drop u1) = r2 at *
          obtain ⟨c2, u2, e2⟩ := r2
          simp only at hn2 h
          subst hn2
          have d1 := dnum_back hb hd1
          have d2 := dnum_back (fun x hx => hb x (List.mem_of_mem_drop hx)) hd2
          obtain ⟨hk, hv, hc, ha, hn, he⟩ := lthird_back h
          have f1 : u1 = 1 := by
            have := congrArg List.length d1.2.2
            rw [digs_small (by decide), List.length_take] at this
            simp at this
            omega
          rw [List.length_drop] at d2 hn
          refine ⟨.inr ⟨hv, by rw [hc]; exact d2.1, hk⟩, by omega, ?_⟩
          unfold lbytes
          rw [if_neg (by rw [hv]; decide), hc, he, d2.2.2]
          have g1 : [1] = b.take u1 := by rw [← d1.2.2, digs_small (by decide)]
          have g2 : (1 : Nat) :: (b.drop u1).take u2 = b.take (u1 + u2) := by
            rw [List.take_add, ← g1]
            rfl
          rw [g2]
          have g3 : b.take n = b.take ((u1 + u2) + (n - (u1 + u2))) := by
            congr 1
            omega
          rw [g3, List.take_add (i := u1 + u2)]
theorem lparse_back {b : List Nat} {l : Lk} (hb : ∀ x ∈ b, x < 256) (h : lparse b = (l, 0)) : lok l ∧ lbytes l = b := by
  unfold lparse at h
  split at h
  · rename_i h0
    simp only [Prod.mk.injEq] at h
    exact absurd h.2 h0
  · split at h
    · simp at h
    · rename_i h0 h1
      simp only [Prod.mk.injEq, and_true] at h
      simp only [ne_eq, Decidable.not_not] at h0
      have e : lfirst b = (l, (lfirst b).2.1, 0) := by
        rw [← h, ← h0]
      obtain ⟨h2, h3, h4⟩ := lfirst_back hb e
      refine ⟨h2, ?_⟩
      rw [h4, List.take_of_length_le (by omega)]
end
section
open Go.RowKit Go
/-- What a digit stands for. -/
def look : List Nat → Nat → Option Nat
  | [], _ => none
  | x :: t, c => if x = c then some 0 else (look t c).map (· + 1)
end
section
open Go.RowKit Go

end
section
open Go.RowKit Go
theorem below_alloc4 (w : World) (o : Obj) : Below w.heap.size w (w.alloc o) := (Below.refl _ _).alloc (Nat.le_refl _) _
end
section
open Go.RowKit Go

end
section
open Go.RowKit Go

end
section
open Go.RowKit Go
/-- A link as a value. -/
def lkv (l : Lk) : Value := .agg #[.int .i64 l.v, .int .u64 (l.c : Nat), .int .u64 (l.h : Nat), .string (nstr l.d)]
set_option maxRecDepth 1000000 in
theorem refDigest_any (w : World) (n : Nat) : Calls Tryz.prog 103 #[.int .i64 (n : Nat)] w fun e w' => e = .returned (.int .i64 (lerr n : Nat)) ∧ w' = w := by
  have HE : Hid (lerr n = if n = 32 ∨ n = 33 then 42 else 43) := rfl
  by_cases h1 : n = 32
  · subst h1
    go_enter Tryz.func103, Tryz.ntmps103
    go_wp2_with fail
    go_ret
    exact ⟨rfl, rfl⟩
  · have g1 : ((n : Int) == 32) = false := beq_eq_false_iff_ne.2 (by omega)
    by_cases h2 : n = 33
    · subst h2
      go_enter Tryz.func103, Tryz.ntmps103
      go_wp2_with fail
      go_ret
      exact ⟨rfl, rfl⟩
    · have g2 : ((n : Int) == 33) = false := beq_eq_false_iff_ne.2 (by omega)
      have HE2 : Hid (lerr n = 43) := by show _ = _; rw [HE.out, if_neg (by omega)]
      clear HE
      go_enter Tryz.func103, Tryz.ntmps103
      go_wp2_with fail
      go_ret
      exact ⟨by rw [HE2.out]; rfl, rfl⟩
end
section
open Go.RowKit Go
set_option maxRecDepth 1000000 in
/-- b[k:] of bytes. -/
theorem wpList_drop {ops : Array Oper} {rest : List Oper} {o : Oper} {a : Act} {Q : Exit → Act → World → Prop} {w : World} (hgd : o.guard = none) (x y : Nat) (ho : o.op = .slice 46 (.tmp x) (some (.tmp y)) none none)
    (v : Value) (xs : List Nat) (k : Nat) (hx : a.eval (.tmp x) = v) (hy : a.eval (.tmp y) = .int .i64 (k : Nat)) (hb : BSl w v xs) (hk : k ≤ xs.length)
    (h : ∀ ad n c, BSl w (.slice ad n c) (xs.drop k) → n = xs.length - k → wpList Tryz.prog ops Q rest (a.put o.dst (.slice ad n c)) w) : wpList Tryz.prog ops Q (o :: rest) a w := by
  have HB := hide hb
  obtain ⟨⟨ad, cap, rfl, hn, hc⟩, hmax, hby⟩ := hb
  have hcap := hn.1
  have hx2 : a.tmps[x]?.getD undef = .slice ad xs.length cap := by simpa [Act.eval] using hx
  have hy2 : a.tmps[y]?.getD undef = .int .i64 (k : Nat) := by simpa [Act.eval] using hy
  refine wpList_plain hgd fun K hK => ?_
  have HK := hide hK
  have HH := hide h
  obtain ⟨dst, op, ty, pos, after, guard⟩ := o
  simp only at ho hgd
  subst ho
  have hki : (k : Int) ≤ (xs.length : Int) := by omega
  have hkc : (k : Int) ≤ (cap : Int) := by omega
  clear hK h hgd hx hy
  cases ad with
  | none =>
    have hc0 := hn.2 rfl
    have hx0 : xs.length = 0 := by omega
    have hk0 : k = 0 := by omega
    subst hk0
    have hxe : xs = [] := List.eq_nil_of_length_eq_zero hx0
    subst hxe
    subst hc0
    go_simp
    exact HK.out _ _ (HH.out none 0 0 ⟨⟨none, 0, rfl, ⟨Nat.le_refl _, fun _ => rfl⟩, .inl rfl⟩, by simp, by simp⟩ rfl)
  | some ad =>
    have HC := hide hc
    clear hc hn
    by_cases hkk : k = cap
    · have hxk : xs.length = k := by omega
      have hdr : xs.drop k = [] := List.drop_of_length_le (by omega)
      subst hkk
      rw [hxk] at hx2 hki
      go_simp
      exact HK.out _ _ (HH.out (some ad) 0 0 (by rw [hdr]; exact ⟨⟨some ad, 0, rfl, ⟨Nat.le_refl _, fun e => by cases e⟩, .inl rfl⟩, by simp, by simp⟩) (by omega))
    · have hkl : (k : Int) < (cap : Int) := by omega
      have hkk2 : ¬ cap = k := fun e => hkk e.symm
      go_simp
      refine HK.out _ _ (HH.out (some (ad.add k)) (xs.length - k) (cap - k) ?_ rfl)
      have hlen : (xs.drop k).length = xs.length - k := List.length_drop
      refine ⟨⟨some (ad.add k), cap - k, by rw [hlen], ⟨by rw [hlen]; omega, fun e => by cases e⟩, ?_⟩, by rw [hlen]; omega, fun z hz => hby z (List.mem_of_mem_drop hz)⟩
      rcases HC.out with hx0 | ⟨b, off, e, hcell⟩
      · left
        rw [hx0]
        simp
      · right
        injection e with e
        subst e
        have hadd : (⟨b, off, none⟩ : Addr).add k = ⟨b, off + k, none⟩ := by unfold Addr.add; split <;> simp_all
        rw [hadd]
        refine ⟨b, off + k, rfl, fun j hj => ?_⟩
        rw [hlen] at hj
        have h2 := hcell (k + j) (by omega)
        rw [← Nat.add_assoc] at h2
        rw [h2]
        simp [List.getD, List.getElem?_drop]
end
section
open Go.RowKit Go
/-- No link, as cells. -/
def zlk : Array Value := #[.int .i64 0, .int .u64 0, .int .u64 0, .string ⟨#[]⟩]
theorem info61 : (Tryz.prog.info? 57).map (·.size) = some 4 := by kernel_rfl
/-- What First has in hand: the result's block and the link's. -/
structure Fq (w wx : World) (R L : Nat) (lv : Array Value) : Prop where
  r : wx.heap[R]? = some (.cells zlk 57 (0, 0))
  l : wx.heap[L]? = some (.cells lv 57 (0, 0))
  b : Below w.heap.size w wx
  rb : w.heap.size ≤ R
  lb : w.heap.size ≤ L
  ne : R ≠ L
theorem Fq.below {w wx wy : World} {R L : Nat} {lv : Array Value} (h : Fq w wx R L lv) (hb : Below wx.heap.size wx wy) : Fq w wy R L lv :=
  ⟨(hb.block R (blk_lt h.r)).trans h.r, (hb.block L (blk_lt h.l)).trans h.l, h.b.trans (hb.mono h.b.size), h.rb, h.lb, h.ne⟩
theorem Fq.set {w wx : World} {R L : Nat} {lv : Array Value} (h : Fq w wx R L lv) (j : Nat) (v : Value) : Fq w (wx.setCell ⟨L, j, none⟩ v) R L (lv.setIfInBounds j v) := by
  have hk : Kp (fun q => q = L) wx (wx.setCell ⟨L, j, none⟩ v) := (Kp.refl _ _).setCell _ _ (fun _ => rfl)
  have lb := h.lb
  exact ⟨(hk.block R (blk_lt h.r) h.ne).trans h.r, blk_set j v h.l, h.b.trans (hk.below h.b.size (fun q e => by omega)), h.rb, h.lb, h.ne⟩
theorem results_c3 {fn : Func} {p u q : Tmp} {ty : TypeId} (h : fn.results = #[.cell p ty, .tmp u, .tmp q]) (tmps : Array Value) (P : Program) (w : World) :
    (results fn tmps).run P w = ((asAddr (tmps.getD p undef)).run P w).andThen fun a w₁ => ((loadVar ty a).run P w₁).andThen fun v w₂ => .ok (.tuple #[v, tmps.getD u undef, tmps.getD q undef]) w₂ := by
  simp only [results, h]
  simp [Sem.run_bind, Result.andThen]
/-- First's end. -/
theorem first_end {wx : World} {R : Nat} {cs : Array Value} {x y : Value} {tmps : Array Value} (hr : wx.heap[R]? = some (.cells cs 57 (0, 0))) (hs : cs.size = 4) (hp : tmps.getD 2 undef = .pointer (some ⟨R, 0, none⟩)) (hx : tmps.getD 3 undef = x) (hy : tmps.getD 4 undef = y) :
    (results Tryz.f92 tmps).run Tryz.prog wx = .ok (.tuple #[.agg cs, x, y]) wx := by
  refine (results_c3 rfl _ _ _).trans ?_
  rw [hp, hx, hy]
  have h1 := run_loadVar_row (P := Tryz.prog) wx R 57 57 cs (0, 0) _ hr Tryz.underlying57 rfl (by rw [hs]; exact info61)
  simp [asAddr, h1, Result.andThen]

/-- No link is laid where none is. -/
theorem wpList_zero {ops : Array Oper} {rest : List Oper} {o : Oper} {a : Act} {Q : Exit → Act → World → Prop} {w : World} {p x : Operand} (hgd : o.guard = none) (ho : o.op = .store 57 p x) (g : Nat)
    (hp : a.eval p = .pointer (some ⟨g, 0, none⟩)) (hx : a.eval x = .agg zlk) (hg : w.heap[g]? = some (.cells zlk 57 (0, 0))) (h : wpList Tryz.prog ops Q rest (a.put o.dst undef) w) : wpList Tryz.prog ops Q (o :: rest) a w := by
  refine wpList_storeRow hgd ho g zlk zlk 57 hp hx hg info61 rfl (by kernel_rfl) ?_
  rw [setRow_self w g zlk 57 (0, 0) hg]
  exact h

set_option maxRecDepth 1000000 in
set_option maxHeartbeats 1000000 in
theorem lFirst_none (w : World) (a : Option Addr) (cap : Nat) (hb : BSl w (.slice a 0 cap) []) :
    Calls Tryz.prog 92 #[.slice a 0 cap] w fun e w' => e = .returned (.tuple #[.agg zlk, .int .i64 0, .int .i64 42]) ∧ Below w.heap.size w w' := by
  have HB := hide hb
  have HN : Hid (dnum [] = (0, 0, 32)) := rfl
  have HF0 : Hid (Fq w ((w.alloc (.cells zlk 57)).alloc (.cells #[.int .i64 0, .int .u64 112, .int .u64 0, .string ⟨#[]⟩] 57)) w.heap.size (w.heap.size + 1) #[.int .i64 0, .int .u64 112, .int .u64 0, .string ⟨#[]⟩]) := by
    have h1 := heap_alloc_new w (.cells zlk 57)
    have h2 := heap_alloc_new (w.alloc (.cells zlk 57)) (.cells #[.int .i64 0, .int .u64 112, .int .u64 0, .string ⟨#[]⟩] 57)
    have e : (w.alloc (.cells zlk 57)).heap.size = w.heap.size + 1 := by simp
    rw [e] at h2
    exact ⟨blk_alloc _ h1, h2, (below_alloc4 w _).trans ((below_alloc4 _ _).mono (by simp)), by omega, by omega, by omega⟩
  unfold zlk at HF0
  go_enter Tryz.func92, Tryz.ntmps92
  go_wp2_with fail
  generalize (w.alloc (.cells #[.int .i64 0, .int .u64 0, .int .u64 0, .string ⟨#[]⟩] 57)).alloc (.cells #[.int .i64 0, .int .u64 112, .int .u64 0, .string ⟨#[]⟩] 57) = w0 at *
  refine (refNumber_any w0 _ [] (HB.out.move (keep_below HF0.out.b))).mono ?_
  rintro e w1 ⟨rfl, hk1⟩
  have HF1 := hide (HF0.out.below (hk1.below (Nat.le_refl _) (fun _ h => h.elim)))
  have HR1 := hide HF1.out.r
  clear hk1
  rw [HN.out]
  simp only [dnumR]
  go_wp2_with (refine wpList_zero rfl rfl w.heap.size rfl rfl HR1.out ?_)
  exact bodyPost_ret (first_end HR1.out rfl rfl rfl rfl) rfl ⟨rfl, HF1.out.b⟩
end
section
open Go.RowKit Go
theorem dread_bytes4 {xs : List Nat} (h : ∀ x ∈ xs, x < 256) : ∀ x ∈ (dread xs).2.1, x < 256 := by
  intro x hx
  unfold dread at hx
  repeat' split at hx
  all_goals first | (simp at hx; done) | exact h x (List.mem_of_mem_drop (List.mem_of_mem_take hx))
set_option maxRecDepth 1000000 in
set_option maxHeartbeats 2000000 in
theorem lFirst_any (w : World) (v : Value) (b : List Nat) (hb : BSl w v b) :
    Calls Tryz.prog 92 #[v] w fun e w' => e = .returned (.tuple #[lkv (lfirst b).1, .int .i64 ((lfirst b).2.1 : Nat), .int .i64 ((lfirst b).2.2 : Nat)]) ∧ Below w.heap.size w w' := by
  have HB := hide hb
  obtain ⟨⟨a, cap, rfl, hn, hc⟩, hmax, hby⟩ := hb
  by_cases h0 : b = []
  · subst h0
    exact (lFirst_none w a cap HB.out).mono fun e w' ⟨he, hb⟩ => ⟨he, hb⟩
  · have hpos : 0 < b.length := List.length_pos_iff.2 h0
    have g0 : ((b.length : Int) == 0) = false := beq_eq_false_iff_ne.2 (by omega)
    have g00 : (0 : Int) < (b.length : Int) := by omega
    obtain ⟨bb, off, rfl, hcell⟩ := hc.resolve_left h0
    have hc0 := hcell 0 hpos
    rw [Nat.add_zero] at hc0
    have HF0 : Hid (Fq w ((w.alloc (.cells zlk 57)).alloc (.cells #[.int .i64 0, .int .u64 112, .int .u64 0, .string ⟨#[]⟩] 57)) w.heap.size (w.heap.size + 1) #[.int .i64 0, .int .u64 112, .int .u64 0, .string ⟨#[]⟩]) := by
      have h1 := heap_alloc_new w (.cells zlk 57)
      have h2 := heap_alloc_new (w.alloc (.cells zlk 57)) (.cells #[.int .i64 0, .int .u64 112, .int .u64 0, .string ⟨#[]⟩] 57)
      have e : (w.alloc (.cells zlk 57)).heap.size = w.heap.size + 1 := by simp
      rw [e] at h2
      exact ⟨blk_alloc _ h1, h2, (below_alloc4 w _).trans ((below_alloc4 _ _).mono (by simp)), by omega, by omega, by omega⟩
    unfold zlk at HF0
    have cx : ((w.alloc (.cells #[.int .i64 0, .int .u64 0, .int .u64 0, .string ⟨#[]⟩] 57)).alloc (.cells #[.int .i64 0, .int .u64 112, .int .u64 0, .string ⟨#[]⟩] 57)).cell? ⟨bb, off, none⟩ = some (.int .u8 ((b.getD 0 0 : Nat) : Int)) := keep_below HF0.out.b _ _ hc0
    clear hc hcell hc0
    by_cases h18 : b.getD 0 0 = 18
    · have HLF : Hid (lfirst b = lthird 0 112 0 b) := by
        show _ = _
        unfold lfirst
        rw [if_pos (by cases b with | nil => exact absurd rfl h0 | cons x r => simpa using h18)]
      rw [h18] at cx
      have HAT : Hid (0 ≤ b.length) := Nat.zero_le _
      clear h18 h0 hpos
      go_enter Tryz.func92, Tryz.ntmps92
      have HBV := hide (HB.out.move (keep_below HF0.out.b))
      generalize hw0 : (w.alloc (.cells #[.int .i64 0, .int .u64 0, .int .u64 0, .string ⟨#[]⟩] 57)).alloc (.cells #[.int .i64 0, .int .u64 112, .int .u64 0, .string ⟨#[]⟩] 57) = w0 at HF0 cx HBV
      subst hw0
      have HFX := HF0
      go_wp2_with (refine wpList_drop rfl 56 57 rfl _ b 0 rfl rfl HBV.out HAT.out ?_)
      intro ad nd cd hbd hnd
      have HBD := hide hbd
      clear hbd hnd
      go_wp2_with fail
      refine (refDRead_any _ _ (b.drop 0) HBD.out).mono ?_
      rintro e w5 ⟨vd, rfl, ho5, hb5⟩
      have HF5 := hide (HFX.out.below hb5)
      have HVD := hide (BSl.own ho5 (dread_bytes4 (fun x hx => hby x (List.mem_of_mem_drop hx))))
      obtain ⟨ae, ce, hve, _⟩ := own_form ho5
      subst hve
      have HVL : Hid (∀ k, (Value.slice ae (dread (b.drop 0)).2.1.length ce).ownBlock = some k → ¬ k = w.heap.size + 1) := fun k hk e => own_not ho5 HF5.out.l (by decide) (by rw [← e]; exact hk)
      clear ho5 hb5
      by_cases hre : (dread (b.drop 0)).2.2.2 = 0
      · as_aux_lemma =>
        have HE : Hid (lthird 0 112 0 b = (⟨0, 112, (dread (b.drop 0)).1, (dread (b.drop 0)).2.1⟩, 0 + (dread (b.drop 0)).2.2.1, 0)) := by show _ = _; unfold lthird; rw [if_pos hre]
        have hnr : (((dread (b.drop 0)).2.2.1 : Nat) : Int) ≤ 9223372036854775807 := by have h1 := (dread_back hre).1; rw [List.length_drop] at h1; omega
        rw [hre]
        generalize (dread (b.drop 0)).2.2.1 = nr at *
        generalize (dread (b.drop 0)).1 = hr at *
        generalize (dread (b.drop 0)).2.1 = dr at *
        have q2 : w5.cell? ⟨w.heap.size + 1, 2, none⟩ = some (.int .u64 0) := blk_cell HF5.out.l rfl
        have f2 : w5.frozen? ⟨w.heap.size + 1, 2, none⟩ = false := blk_frozen 2 HF5.out.l
        have HF6 := hide (HF5.out.set 2 (.int .u64 (hr : Nat)))
        have hk6 : Kp (fun q => q = w.heap.size + 1) w5 (w5.setCell ⟨w.heap.size + 1, 2, none⟩ (.int .u64 (hr : Nat))) := (Kp.refl _ _).setCell _ _ (fun _ => rfl)
        have cv := (hk6.bsl HVD.out HVL.out).text
        have q3 : (w5.setCell ⟨w.heap.size + 1, 2, none⟩ (.int .u64 (hr : Nat))).cell? ⟨w.heap.size + 1, 3, none⟩ = some (.string ⟨#[]⟩) := blk_cell HF6.out.l rfl
        have f3 : (w5.setCell ⟨w.heap.size + 1, 2, none⟩ (.int .u64 (hr : Nat))).frozen? ⟨w.heap.size + 1, 3, none⟩ = false := blk_frozen 3 HF6.out.l
        have HF7 := hide (HF6.out.set 3 (.string (nstr dr)))
        have HL7 : Hid (((w5.setCell ⟨w.heap.size + 1, 2, none⟩ (.int .u64 (hr : Nat))).setCell ⟨w.heap.size + 1, 3, none⟩ (.string (nstr dr))).heap[w.heap.size + 1]? = some (.cells #[.int .i64 0, .int .u64 112, .int .u64 (hr : Nat), .string (nstr dr)] 57 (0, 0))) := HF7.out.l
        have HR7 := hide HF7.out.r
        have HB7 := hide HF7.out.b
        clear hk6 HF5 HF6 HF7
        go_wp2_with (first
          | (refine wpList_loadAll rfl rfl (w.heap.size + 1) #[.int .i64 0, .int .u64 112, .int .u64 (hr : Nat), .string (nstr dr)] 57 rfl HL7.out Tryz.underlying57 info61 ?_)
          | (refine wpList_storeRow rfl rfl w.heap.size zlk #[.int .i64 0, .int .u64 112, .int .u64 (hr : Nat), .string (nstr dr)] 57 rfl rfl HR7.out info61 rfl (by kernel_rfl) ?_))
        exact bodyPost_ret (first_end (row_same HR7.out) rfl rfl rfl rfl) rfl ⟨by rw [HLF.out, HE.out, Nat.zero_add]; rfl, (HB7.out.trans ((row_kp _ _ _).below HB7.out.size (fun q e => by omega)))⟩
      · as_aux_lemma =>
        have HE : Hid (lthird 0 112 0 b = (Lk.none, 0, lerr (dread (b.drop 0)).2.2.2)) := by show _ = _; unfold lthird; rw [if_neg hre]
        have g9 : (((dread (b.drop 0)).2.2.2 : Int) == 0) = false := beq_eq_false_iff_ne.2 (by omega)
        have HR5 := hide HF5.out.r
        generalize (dread (b.drop 0)).2.2.2 = er at *
        generalize (dread (b.drop 0)).2.2.1 = nr at *
        generalize (dread (b.drop 0)).1 = hr at *
        go_wp2_with fail
        refine (refDigest_any w5 er).mono ?_
        rintro e w6 ⟨rfl, rfl⟩
        go_wp2_with (refine wpList_zero rfl rfl w.heap.size rfl rfl HR5.out ?_)
        exact bodyPost_ret (first_end HR5.out rfl rfl rfl rfl) rfl ⟨by rw [HLF.out, HE.out]; rfl, HF5.out.b⟩
    · have HNE : Hid (¬ b.head? = some 18) := by
        show ¬ _
        cases b with
        | nil => exact absurd rfl h0
        | cons x r => simpa using h18
      have g18 : (((b.getD 0 0 : Nat) : Int) == 18) = false := beq_eq_false_iff_ne.2 (by omega)
      clear h18 h0 hpos
      generalize b.getD 0 0 = x0 at cx g18
      have HBV0 := hide (HB.out.move (keep_below HF0.out.b))
      go_enter Tryz.func92, Tryz.ntmps92
      go_wp2_with fail
      generalize (w.alloc (.cells #[.int .i64 0, .int .u64 0, .int .u64 0, .string ⟨#[]⟩] 57)).alloc (.cells #[.int .i64 0, .int .u64 112, .int .u64 0, .string ⟨#[]⟩] 57) = w0 at *
      refine (refNumber_any w0 _ b HBV0.out).mono ?_
      rintro e w1 ⟨rfl, hk1⟩
      have hb1 := hk1.below (Nat.le_refl _) (fun _ h => h.elim)
      have HF1 := hide (HF0.out.below hb1)
      have HBV1 := hide (HBV0.out.move (keep_below hb1))
      clear hk1 hb1 HF0 HBV0 cx
      have HDB := hide (dnum_bound b)
      obtain ⟨vn, un, en, hD⟩ : ∃ vn un en, dnum b = (vn, un, en) := ⟨_, _, _, rfl⟩
      rw [hD] at HDB ⊢
      have HD := hide hD
      clear hD
      simp only [dnumR] at HDB ⊢
      by_cases hen : en = 0
      · subst hen
        have hdb := HDB.out rfl
        by_cases hvn : vn = 1
        · subst hvn
          have HUN : Hid (un ≤ b.length) := hdb.2.1
          clear hdb HDB
          go_wp2_with (refine wpList_drop rfl 39 40 rfl _ b un rfl rfl HBV1.out HUN.out ?_)
          intro ad1 nd1 cd1 hbd1 hnd1
          have HBD1 := hide hbd1
          clear hbd1 hnd1
          go_wp2_with fail
          refine (refNumber_any w1 _ (b.drop un) HBD1.out).mono ?_
          rintro e w2 ⟨rfl, hk2⟩
          have hb2 := hk2.below (Nat.le_refl _) (fun _ h => h.elim)
          have HF2 := hide (HF1.out.below hb2)
          have HBV2 := hide (HBV1.out.move (keep_below hb2))
          clear hk2 hb2 HF1 HBV1 HBD1
          have HDB2 := hide (dnum_bound (b.drop un))
          obtain ⟨c2, u2, e2, hD2⟩ : ∃ c2 u2 e2, dnum (b.drop un) = (c2, u2, e2) := ⟨_, _, _, rfl⟩
          rw [hD2] at HDB2 ⊢
          have HD2 := hide hD2
          clear hD2
          simp only [dnumR] at HDB2 ⊢
          by_cases he2 : e2 = 0
          · subst he2
            have hdb2 := HDB2.out rfl
            have HLF : Hid (lfirst b = lthird 1 c2 (un + u2) b) := by
              show _ = _
              unfold lfirst
              rw [if_neg HNE.out, HD.out]
              simp only [ne_eq, not_true_eq_false, if_false]
              rw [HD2.out]
              simp
            have HAT : Hid (un + u2 ≤ b.length) := by have h1 := hdb2.2.1; rw [List.length_drop] at h1; have := HUN.out; show _ ≤ _; omega
            have hun : (un : Int) + (u2 : Int) ≤ 9223372036854775807 := by have := HAT.out; omega
            have hsum : (un : Int) + (u2 : Int) = ((un + u2 : Nat) : Int) := by omega
            clear HDB2 hdb2 HUN HD HD2 HNE
            have q0 : w2.cell? ⟨w.heap.size + 1, 0, none⟩ = some (.int .i64 0) := blk_cell HF2.out.l rfl
            have f0 : w2.frozen? ⟨w.heap.size + 1, 0, none⟩ = false := blk_frozen 0 HF2.out.l
            have HF3 := hide (HF2.out.set 0 (.int .i64 1))
            have q1 : (w2.setCell ⟨w.heap.size + 1, 0, none⟩ (.int .i64 1)).cell? ⟨w.heap.size + 1, 1, none⟩ = some (.int .u64 112) := blk_cell HF3.out.l rfl
            have f1 : (w2.setCell ⟨w.heap.size + 1, 0, none⟩ (.int .i64 1)).frozen? ⟨w.heap.size + 1, 1, none⟩ = false := blk_frozen 1 HF3.out.l
            have HFX : Hid (Fq w ((w2.setCell ⟨w.heap.size + 1, 0, none⟩ (.int .i64 1)).setCell ⟨w.heap.size + 1, 1, none⟩ (.int .u64 (c2 : Nat))) w.heap.size (w.heap.size + 1) #[.int .i64 1, .int .u64 (c2 : Nat), .int .u64 0, .string ⟨#[]⟩]) := HF3.out.set 1 (.int .u64 (c2 : Nat))
            have HBV := hide (HB.out.move (keep_below HFX.out.b))
            clear HF2 HF3 HBV2
            generalize hat4 : un + u2 = at4 at HLF HAT hsum
            clear hat4
            go_wp2_with (refine wpList_drop rfl 56 57 rfl _ b at4 rfl rfl HBV.out HAT.out ?_)
            intro ad nd cd hbd hnd
            have HBD := hide hbd
            clear hbd hnd
            generalize (w2.setCell ⟨w.heap.size + 1, 0, none⟩ (.int .i64 1)).setCell ⟨w.heap.size + 1, 1, none⟩ (.int .u64 (c2 : Nat)) = wx at *
            go_wp2_with fail
            refine (refDRead_any wx _ (b.drop at4) HBD.out).mono ?_
            rintro e w5 ⟨vd, rfl, ho5, hb5⟩
            have HF5 := hide (HFX.out.below hb5)
            have HVD := hide (BSl.own ho5 (dread_bytes4 (fun x hx => hby x (List.mem_of_mem_drop hx))))
            obtain ⟨ae, ce, hve, _⟩ := own_form ho5
            subst hve
            have HVL : Hid (∀ k, (Value.slice ae (dread (b.drop at4)).2.1.length ce).ownBlock = some k → ¬ k = w.heap.size + 1) := fun k hk e => own_not ho5 HF5.out.l (by decide) (by rw [← e]; exact hk)
            clear ho5 hb5
            by_cases hre : (dread (b.drop at4)).2.2.2 = 0
            · as_aux_lemma =>
              have HE : Hid (lthird 1 c2 at4 b = (⟨1, c2, (dread (b.drop at4)).1, (dread (b.drop at4)).2.1⟩, at4 + (dread (b.drop at4)).2.2.1, 0)) := by show _ = _; unfold lthird; rw [if_pos hre]
              have hnr : ((at4 : Nat) : Int) + (((dread (b.drop at4)).2.2.1 : Nat) : Int) ≤ 9223372036854775807 := by have h1 := (dread_back hre).1; rw [List.length_drop] at h1; have := HAT.out; omega
              rw [hre]
              generalize (dread (b.drop at4)).2.2.1 = nr at *
              generalize (dread (b.drop at4)).1 = hr at *
              generalize (dread (b.drop at4)).2.1 = dr at *
              have q2 : w5.cell? ⟨w.heap.size + 1, 2, none⟩ = some (.int .u64 0) := blk_cell HF5.out.l rfl
              have f2 : w5.frozen? ⟨w.heap.size + 1, 2, none⟩ = false := blk_frozen 2 HF5.out.l
              have HF6 := hide (HF5.out.set 2 (.int .u64 (hr : Nat)))
              have hk6 : Kp (fun q => q = w.heap.size + 1) w5 (w5.setCell ⟨w.heap.size + 1, 2, none⟩ (.int .u64 (hr : Nat))) := (Kp.refl _ _).setCell _ _ (fun _ => rfl)
              have cv := (hk6.bsl HVD.out HVL.out).text
              have q3 : (w5.setCell ⟨w.heap.size + 1, 2, none⟩ (.int .u64 (hr : Nat))).cell? ⟨w.heap.size + 1, 3, none⟩ = some (.string ⟨#[]⟩) := blk_cell HF6.out.l rfl
              have f3 : (w5.setCell ⟨w.heap.size + 1, 2, none⟩ (.int .u64 (hr : Nat))).frozen? ⟨w.heap.size + 1, 3, none⟩ = false := blk_frozen 3 HF6.out.l
              have HF7 := hide (HF6.out.set 3 (.string (nstr dr)))
              have HL7 : Hid (((w5.setCell ⟨w.heap.size + 1, 2, none⟩ (.int .u64 (hr : Nat))).setCell ⟨w.heap.size + 1, 3, none⟩ (.string (nstr dr))).heap[w.heap.size + 1]? = some (.cells #[.int .i64 1, .int .u64 (c2 : Nat), .int .u64 (hr : Nat), .string (nstr dr)] 57 (0, 0))) := HF7.out.l
              have HR7 := hide HF7.out.r
              have HB7 := hide HF7.out.b
              clear hk6 HF5 HF6 HF7
              go_wp2_with (first
                | (refine wpList_loadAll rfl rfl (w.heap.size + 1) #[.int .i64 1, .int .u64 (c2 : Nat), .int .u64 (hr : Nat), .string (nstr dr)] 57 rfl HL7.out Tryz.underlying57 info61 ?_)
                | (refine wpList_storeRow rfl rfl w.heap.size zlk #[.int .i64 1, .int .u64 (c2 : Nat), .int .u64 (hr : Nat), .string (nstr dr)] 57 rfl rfl HR7.out info61 rfl (by kernel_rfl) ?_))
              exact bodyPost_ret (first_end (row_same HR7.out) rfl rfl rfl rfl) rfl ⟨by rw [HLF.out, HE.out]; simp only [Int.natCast_add]; rfl, (HB7.out.trans ((row_kp _ _ _).below HB7.out.size (fun q e => by omega)))⟩
            · as_aux_lemma =>
              have HE : Hid (lthird 1 c2 at4 b = (Lk.none, 0, lerr (dread (b.drop at4)).2.2.2)) := by show _ = _; unfold lthird; rw [if_neg hre]
              have g9 : (((dread (b.drop at4)).2.2.2 : Int) == 0) = false := beq_eq_false_iff_ne.2 (by omega)
              have HR5 := hide HF5.out.r
              generalize (dread (b.drop at4)).2.2.2 = er at *
              generalize (dread (b.drop at4)).2.2.1 = nr at *
              generalize (dread (b.drop at4)).1 = hr at *
              go_wp2_with fail
              refine (refDigest_any w5 er).mono ?_
              rintro e w6 ⟨rfl, rfl⟩
              go_wp2_with (refine wpList_zero rfl rfl w.heap.size rfl rfl HR5.out ?_)
              exact bodyPost_ret (first_end HR5.out rfl rfl rfl rfl) rfl ⟨by rw [HLF.out, HE.out]; rfl, HF5.out.b⟩
          · have HLF : Hid (lfirst b = (Lk.none, 0, 42)) := by
              show _ = _
              unfold lfirst
              rw [if_neg HNE.out, HD.out]
              simp only [ne_eq, not_true_eq_false, if_false]
              rw [HD2.out]
              simp [he2]
            have g2 : ((e2 : Int) == 0) = false := beq_eq_false_iff_ne.2 (by omega)
            have HR2 := hide HF2.out.r
            clear HDB2 HD HD2 HNE
            go_wp2_with (refine wpList_zero rfl rfl w.heap.size rfl rfl HR2.out ?_)
            exact bodyPost_ret (first_end HR2.out rfl rfl rfl rfl) rfl ⟨by rw [HLF.out]; rfl, HF2.out.b⟩
        · have HLF : Hid (lfirst b = (Lk.none, 0, 41)) := by
            show _ = _
            unfold lfirst
            rw [if_neg HNE.out, HD.out]
            simp [hvn]
          have g2 : ((vn : Int) == 1) = false := beq_eq_false_iff_ne.2 (by omega)
          have HR1 := hide HF1.out.r
          clear HDB HD HNE hdb
          go_wp2_with (refine wpList_zero rfl rfl w.heap.size rfl rfl HR1.out ?_)
          exact bodyPost_ret (first_end HR1.out rfl rfl rfl rfl) rfl ⟨by rw [HLF.out]; rfl, HF1.out.b⟩
      · have HLF : Hid (lfirst b = (Lk.none, 0, 42)) := by
          show _ = _
          unfold lfirst
          rw [if_neg HNE.out, HD.out]
          simp [hen]
        have g2 : ((en : Int) == 0) = false := beq_eq_false_iff_ne.2 (by omega)
        have HR1 := hide HF1.out.r
        clear HDB HD HNE
        go_wp2_with (refine wpList_zero rfl rfl w.heap.size rfl rfl HR1.out ?_)
        exact bodyPost_ret (first_end HR1.out rfl rfl rfl rfl) rfl ⟨by rw [HLF.out]; rfl, HF1.out.b⟩
end
section
open Go.RowKit Go
/-- Parse's end. -/
theorem parse_end {wx : World} {R : Nat} {cs : Array Value} {x : Value} {tmps : Array Value} (hr : wx.heap[R]? = some (.cells cs 57 (0, 0))) (hs : cs.size = 4) (hp : tmps.getD 2 undef = .pointer (some ⟨R, 0, none⟩)) (hx : tmps.getD 3 undef = x) :
    (results Tryz.f62 tmps).run Tryz.prog wx = .ok (.tuple #[.agg cs, x]) wx := by
  refine (results_cell_tmp rfl _ _ _).trans ?_
  rw [hp, hx]
  have h1 := run_loadVar_row (P := Tryz.prog) wx R 57 57 cs (0, 0) _ hr Tryz.underlying57 rfl (by rw [hs]; exact info61)
  simp [asAddr, h1, Result.andThen]

set_option maxRecDepth 1000000 in
set_option maxHeartbeats 1000000 in
theorem lParse_any (w : World) (v : Value) (b : List Nat) (hb : BSl w v b) :
    Calls Tryz.prog 62 #[v] w fun e w' => e = .returned (.tuple #[lkv (lparse b).1, .int .i64 ((lparse b).2 : Nat)]) ∧ Below w.heap.size w w' := by
  have HB := hide hb
  obtain ⟨⟨a, cap, rfl, hn, hc⟩, hmax, hby⟩ := hb
  have HR0 : Hid ((w.alloc (.cells #[.int .i64 0, .int .u64 0, .int .u64 0, .string ⟨#[]⟩] 57)).heap[w.heap.size]? = some (.cells zlk 57 (0, 0))) := heap_alloc_new w _
  have HB0 := hide (below_alloc4 w (.cells #[.int .i64 0, .int .u64 0, .int .u64 0, .string ⟨#[]⟩] 57))
  clear hn hc hby
  go_enter Tryz.func62, Tryz.ntmps62
  go_wp2_with fail
  generalize w.alloc (.cells #[.int .i64 0, .int .u64 0, .int .u64 0, .string ⟨#[]⟩] 57) = w0 at *
  refine (lFirst_any w0 _ b (HB.out.move (keep_below HB0.out))).mono ?_
  rintro e w1 ⟨rfl, hb1⟩
  have HR1 : Hid (w1.heap[w.heap.size]? = some (.cells zlk 57 (0, 0))) := (hb1.block _ (blk_lt HR0.out)).trans HR0.out
  have HB1 : Hid (Below w.heap.size w w1) := HB0.out.trans (hb1.mono HB0.out.size)
  have HPR : Hid (lparse b = if (lfirst b).2.2 ≠ 0 then (Lk.none, (lfirst b).2.2) else if (lfirst b).2.1 < b.length then (Lk.none, 44) else ((lfirst b).1, 0)) := rfl
  clear hb1
  generalize lfirst b = r at *
  obtain ⟨⟨lv, lc, lh, ld⟩, n, er⟩ := r
  simp only at HPR ⊢
  have HNE : Hid (w.heap.size ≠ w1.heap.size) := by have := blk_lt HR1.out; show _ ≠ _; omega
  have HL2 : Hid ((w1.alloc (.cells #[.int .i64 lv, .int .u64 (lc : Nat), .int .u64 (lh : Nat), .string (nstr ld)] 57)).heap[w1.heap.size]? = some (.cells #[.int .i64 lv, .int .u64 (lc : Nat), .int .u64 (lh : Nat), .string (nstr ld)] 57 (0, 0))) := heap_alloc_new w1 _
  have HR2 : Hid ((w1.alloc (.cells #[.int .i64 lv, .int .u64 (lc : Nat), .int .u64 (lh : Nat), .string (nstr ld)] 57)).heap[w.heap.size]? = some (.cells zlk 57 (0, 0))) := blk_alloc _ HR1.out
  have HB2 : Hid (Below w.heap.size w (w1.alloc (.cells #[.int .i64 lv, .int .u64 (lc : Nat), .int .u64 (lh : Nat), .string (nstr ld)] 57))) := HB1.out.trans ((below_alloc4 w1 _).mono HB1.out.size)
  clear HR1 HB1
  simp only [lkv]
  by_cases he : er = 0
  · subst he
    by_cases hlt : n < b.length
    · as_aux_lemma =>
      have g1 : (n : Int) < (b.length : Int) := by omega
      have HP2 : Hid (lparse b = (Lk.none, 44)) := by show _ = _; rw [HPR.out]; simp [hlt]
      clear HPR hlt
      go_wp2_with (refine wpList_zero rfl rfl w.heap.size rfl rfl HR2.out ?_)
      exact bodyPost_ret (parse_end HR2.out rfl rfl rfl) rfl ⟨by rw [HP2.out]; rfl, HB2.out⟩
    · as_aux_lemma =>
      have g1 : ¬ (n : Int) < (b.length : Int) := by omega
      have HP2 : Hid (lparse b = (⟨lv, lc, lh, ld⟩, 0)) := by show _ = _; rw [HPR.out]; simp [hlt]
      clear HPR hlt
      go_wp2_with (first
        | (refine wpList_loadAll rfl rfl w1.heap.size #[.int .i64 lv, .int .u64 (lc : Nat), .int .u64 (lh : Nat), .string (nstr ld)] 57 rfl HL2.out Tryz.underlying57 info61 ?_)
        | (refine wpList_storeRow rfl rfl w.heap.size zlk #[.int .i64 lv, .int .u64 (lc : Nat), .int .u64 (lh : Nat), .string (nstr ld)] 57 rfl rfl HR2.out info61 rfl (by kernel_rfl) ?_))
      exact bodyPost_ret (parse_end (row_same HR2.out) rfl rfl rfl) rfl ⟨by rw [HP2.out]; rfl, HB2.out.trans ((row_kp _ _ _).below HB2.out.size (fun q e => by omega))⟩
  · as_aux_lemma =>
    have g1 : ((er : Int) == 0) = false := beq_eq_false_iff_ne.2 (by omega)
    have HP2 : Hid (lparse b = (Lk.none, er)) := by show _ = _; rw [HPR.out]; simp [he]
    clear HPR he
    go_wp2_with (refine wpList_zero rfl rfl w.heap.size rfl rfl HR2.out ?_)
    exact bodyPost_ret (parse_end HR2.out rfl rfl rfl) rfl ⟨by rw [HP2.out]; rfl, HB2.out⟩
end
section
open Go.RowKit Go

end
section
open Go.RowKit Go
/-- Which stands ahead, where they differ. -/
def blt : List Nat → List Nat → Bool
  | x :: r, y :: q => if x = y then blt r q else decide (x < y)
  | _, _ => false
theorem blt_drop {x y : List Nat} {i : Nat} (hx : i < x.length) (hy : i < y.length) : blt (x.drop i) (y.drop i) = if x.getD i 0 = y.getD i 0 then blt (x.drop (i + 1)) (y.drop (i + 1)) else decide (x.getD i 0 < y.getD i 0) := by
  rw [List.drop_eq_getElem_cons hx, List.drop_eq_getElem_cons hy]
  simp [blt, List.getD, hx, hy]
theorem blt_end {x y : List Nat} {i : Nat} (h : ¬ i < x.length ∨ ¬ i < y.length) : blt (x.drop i) (y.drop i) = false := by
  rcases h with h | h
  · rw [List.drop_of_length_le (by omega)]
    rfl
  · rw [List.drop_of_length_le (l := y) (by omega)]
    cases x.drop i <;> rfl
end
section
open Go.RowKit Go
theorem sl_nstr {xs : List Nat} (h : ∀ x ∈ xs, x < 256) : sl (nstr xs) = xs := by
  have key : ∀ l : List Nat, (∀ x ∈ l, x < 256) → (nstr l).data.toList.map UInt8.toNat = l := by
    intro l hl
    simp only [nstr, strOfNums_data, List.map_map]
    conv => rhs; rw [← List.map_id l]
    apply List.map_congr_left
    intro x hx
    have := hl x hx
    simp; omega
  exact key xs h
end
section
open Go.RowKit Go

end
end Go.Proofs.YtdejcapbggjjgaaGreatDoor
