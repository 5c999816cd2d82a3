import Derived.Test.YtedgdnoafajhoaaDoorBkc
namespace Go.Proofs.YtedgdnoafajhoaaDoor
open Go.RowKit

theorem own_below {w w' : World} {B base : Nat} {e : TypeId} {size : Nat} {v : Value} {n : Nat} {xs : List Value} (h : w.ownsRow base e size v n xs) (hb : Below w.heap.size w w') (_hB : B = B) : w'.ownsRow base e size v n xs :=
  (Kp.of_below (S := fun _ => False) hb).owns h (fun _ _ hf => hf)

/-- What Lend gave, with its marks behind it. -/
structure Lnt (w : World) (base g cap : Nat) (xs : List Nat) : Prop where
  own : w.ownsRow base 5 1 (.slice (some ⟨g, 0, none⟩) (xs.length + 70) cap) (xs.length + 70) (bv (xs ++ marks))
  byte : ∀ x ∈ xs, x < 256
  len : xs.length ≤ 140737488351232

theorem Lnt.bsl {w : World} {base g cap : Nat} {xs : List Nat} (h : Lnt w base g cap xs) : BSl w (.slice (some ⟨g, 0, none⟩) xs.length cap) xs := BSl.lent h.own rfl h.byte

theorem Lnt.cap {w : World} {base g cap : Nat} {xs : List Nat} (h : Lnt w base g cap xs) : xs.length + 70 ≤ cap := by
  rcases h.own.2 with ⟨hv, _⟩ | ⟨g', cap', cur, hv, _, _, h1, _⟩
  · cases hv
  · injection hv with _ _ e; subst e; exact h1

theorem Lnt.mark {w : World} {base g cap : Nat} {xs : List Nat} (h : Lnt w base g cap xs) (i : Nat) (hi : i < 70) : w.cell? ⟨g, xs.length + i, none⟩ = some (.int .u8 (165 - (i : Int))) := by
  have hl : xs.length + i < (xs ++ marks).length := by simp [marks]; omega
  have := (own_cell h.own (j := xs.length + i) (bv_get hl)).1
  rw [this]
  have e : (xs ++ marks).getD (xs.length + i) 0 = 165 - i := by
    simp [List.getD, marks, hi]
  rw [e]
  congr 2
  omega

set_option maxRecDepth 1000000 in
set_option maxHeartbeats 400000 in
theorem intact_any {w : World} {base g cap : Nat} {xs : List Nat} (h : Lnt w base g cap xs) (vb : Value) (hb : BSl w vb xs) :
    Calls Tryd.prog 14 #[.slice (some ⟨g, 0, none⟩) xs.length cap, vb] w fun e w' => e = .returned (.bool true) ∧ Kp (fun _ => False) w w' := by
  have HH := hide h
  have hcv1 := h.bsl.text
  have hcv2 := hb.text
  have hcap := h.cap
  have hlen := h.len
  have hcap' : (xs.length : Int) + 70 ≤ (cap : Int) := by omega
  have HLEN := hide hlen
  generalize nstr xs = S at *
  clear h hb hlen
  go_enter Tryd.func14, Tryd.ntmps14
  have hl2 : (xs.length : Int) ≤ 140737488351232 := by have := HLEN.out; omega
  go_wp2
  clear hcv1 hcv2
  go_loopw [6] (fun i wr => ∃ k : Nat, k ≤ 70 ∧ i = .int .i64 k ∧ Kp (fun _ => False) w wr) (fun i _ => 70 - (intOf i).toNat)
  case atStart => exact ⟨0, by omega, rfl, Kp.refl _ _⟩
  case round =>
    obtain ⟨k, hk, rfl, hkp⟩ := hrel
    have HK := hide hkp
    clear hkp
    by_cases hlt : k < 70
    · have hlt' : (k : Int) < 70 := by omega
      have hm := HK.out.cell (HH.out.mark k hlt) (by simp)
      have HMK : Hid (∀ W, Calls Tryd.prog 39 #[.int .i64 (k : Int)] W fun e w' => e = .returned (.int .u8 (165 - (k : Int))) ∧ w' = W) := fun W => mark_any (k : Int) W (by omega) hlt'
      have hb1 : (xs.length : Int) + (k : Int) < (xs.length : Int) + 70 := by omega
      have hwr : IntKind.i64.wrap ((xs.length : Int) + (k : Int)) = (xs.length : Int) + (k : Int) := by rw [IntKind.wrap_i64]; omega
      go_wp2
      go_quiet ((go_at_call 39; exact Calls.quiet_of_same (HMK.out _)))
      go_wp2
      go_roundw
      case rel => exact ⟨k + 1, by omega, by go_num, HK.out.drewN _⟩
      case measure => simp [intOf]; omega
    · have hlt' : ¬ (k : Int) < 70 := by omega
      go_wp2
      go_ret
      exact ⟨rfl, HK.out⟩

theorem into_set (xs ys : List Nat) (k : Nat) (hx : k < xs.length) (hy : k < ys.length) : (bv (ys.take k ++ xs.drop k ++ marks)).set k (.int .u8 ((ys.getD k 0 : Nat) : Int)) = bv (ys.take (k + 1) ++ xs.drop (k + 1) ++ marks) := by
  have e1 : ys.take k ++ xs.drop k ++ marks = ys.take k ++ (xs[k] :: (xs.drop (k + 1) ++ marks)) := by rw [List.drop_eq_getElem_cons hx, List.append_assoc, List.cons_append]
  have e2 : ys.take (k + 1) ++ xs.drop (k + 1) ++ marks = ys.take k ++ (ys[k] :: (xs.drop (k + 1) ++ marks)) := by rw [List.take_succ_eq_append_getElem hy]; simp only [List.append_assoc, List.cons_append, List.nil_append]
  have hl2 : (bv (ys.take k)).length = k := by rw [bv_len, List.length_take]; omega
  have hb : ∀ (z : Nat) (l : List Nat), bv (z :: l) = Value.int .u8 ((z : Nat) : Int) :: bv l := fun _ _ => rfl
  rw [e1, e2, bv_app, bv_app, List.set_append_right (h := by omega), hl2, Nat.sub_self, hb, hb, List.set_cons_zero]
  simp [List.getD, hy]

set_option maxRecDepth 1000000 in
set_option maxHeartbeats 400000 in
theorem into_any {w : World} {base g cap : Nat} {xs ys : List Nat} (h : Lnt w base g cap xs) (vb : Value) (hb : BSl w vb ys) (hlen : ys.length = xs.length) (hne : vb.ownBlock ≠ some g) :
    Calls Tryd.prog 18 #[.slice (some ⟨g, 0, none⟩) xs.length cap, vb] w fun e w' => e = .returned (.tuple #[]) ∧ Lnt w' base g cap ys ∧ Kp (fun k => k = g) w w' := by
  have HH := hide h
  have HB := hide hb
  have HLE := hide hlen
  have HNE := hide hne
  have hmx : xs.length ≤ 9223372036854775807 := by have := h.len; omega
  obtain ⟨⟨ab, capb, rfl, hq1, hc⟩, hq2, hq3⟩ := hb
  have HC := hide hc
  clear h hlen hne hq1 hq2 hq3 hc
  go_enter Tryd.func18, Tryd.ntmps18
  go_wp2
  go_loopw [4] (fun i wr => ∃ k : Nat, k ≤ xs.length ∧ i = .int .i64 k ∧ wr.ownsRow base 5 1 (.slice (some ⟨g, 0, none⟩) (xs.length + 70) cap) (xs.length + 70) (bv (ys.take k ++ xs.drop k ++ marks)) ∧ Kp (fun q => q = g) w wr) (fun i _ => xs.length - (intOf i).toNat)
  case atStart => exact ⟨0, Nat.zero_le _, rfl, by simpa using HH.out.own, Kp.refl _ _⟩
  case round =>
    obtain ⟨k, hk, rfl, hown, hkp⟩ := hrel
    have HO := hide hown
    have HK := hide hkp
    clear hown hkp
    by_cases hlt : k < xs.length
    · have hlt' : (k : Int) < (xs.length : Int) := by omega
      have hlty : k < ys.length := by have := HLE.out; omega
      have hlty' : (k : Int) < (ys.length : Int) := by omega
      rcases HC.out with h | ⟨b1, o1, rfl, hcc⟩
      · rw [h] at hlty; simp at hlty
      have hbg : b1 ≠ g := fun e => HNE.out (by simp [Value.ownBlock, e])
      have cc := HK.out.cell (hcc k hlty) hbg
      have hget : (bv (ys.take k ++ xs.drop k ++ marks))[k]? = some (.int .u8 ((xs.getD k 0 : Nat) : Int)) := by
        have hl : k < (ys.take k ++ xs.drop k ++ marks).length := by simp [marks]; omega
        rw [bv_get hl]
        congr 3
        have hl2 : (ys.take k).length = k := by rw [List.length_take]; omega
        rw [List.append_assoc]
        simp only [List.getD]
        rw [List.getElem?_append_right (by omega), hl2, Nat.sub_self, List.getElem?_append_left (by rw [List.length_drop]; omega)]
        simp
      obtain ⟨cg, fg⟩ := own_cell HO.out hget
      have hset : (bv (ys.take k ++ xs.drop k ++ marks)).set k (.int .u8 ((ys.getD k 0 : Nat) : Int)) = bv (ys.take (k + 1) ++ xs.drop (k + 1) ++ marks) := by
        exact into_set xs ys k hlt hlty
      have HSE := hide hset
      clear hset hget hcc
      generalize xs.getD k 0 = old at *
      generalize ys.getD k 0 = new at *
      go_wp2
      go_roundw
      case rel => exact ⟨k + 1, by omega, by go_num, by rw [← HSE.out]; exact own_set _ HO.out, HK.out.setCell _ _ (fun _ => rfl)⟩
      case measure => simp [intOf]; omega
    · have hlt' : ¬ (k : Int) < (xs.length : Int) := by omega
      go_wp2
      go_end0
      refine ⟨rfl, ⟨?_, HB.out.byte, by rw [HLE.out]; exact HH.out.len⟩, HK.out⟩
      have h := HO.out
      rw [List.take_of_length_le (by have := HLE.out; omega), List.drop_of_length_le (by omega), List.append_nil] at h
      rw [HLE.out]
      exact h

set_option maxRecDepth 1000000 in
set_option maxHeartbeats 400000 in
theorem other_any (w : World) (vb : Value) (xs : List Nat) (hb : BSl w vb xs) (hlen : xs.length ≤ 140737488351232) :
    Calls Tryd.prog 15 #[vb] w fun e w' => ∃ v, e = .returned v ∧ Hid (∃ ys, w'.ownsRow w.heap.size 5 1 v ys.length (bv ys) ∧ (∀ y ∈ ys, y < 256) ∧ ys.length = xs.length ∧ Below w.heap.size w w') := by
  have HB := hide hb
  have HLEN := hide hlen
  obtain ⟨⟨ab, capb, rfl, hq1, hc⟩, hq2, hby⟩ := hb
  have HC := hide hc
  have HBY := hide hby
  clear hq1 hc hby hlen
  go_enter Tryd.func15, Tryd.ntmps15
  go_wp2
  go_loopw [3, 4] (fun l i wr => ∃ (j : Nat) (al : Option Addr) (cl : Nat) (zs : List Nat), j ≤ xs.length ∧ i = .int .i64 ((j : Int) - 1) ∧ l = .slice al (xs.length - j) cl ∧ zs.length = xs.length - j ∧ wr.ownsRow w.heap.size 5 1 (.slice al (xs.length - j) cl) (xs.length - j) (bv zs) ∧ (∀ z ∈ zs, z < 256) ∧ Below w.heap.size w wr) (fun _ i _ => (intOf i + 1).toNat)
  case atStart => exact ⟨xs.length, none, 0, [], Nat.le_refl _, rfl, by rw [Nat.sub_self], by simp, by rw [Nat.sub_self]; exact World.ownsRow_nil _ _ _ _, by simp, Below.refl _ _⟩
  case round =>
    obtain ⟨j, al, cl, zs, hj, rfl, rfl, hzl, hown, hzb, hbel⟩ := hrel
    have HZL := hide hzl
    have HO := hide hown
    have HZB := hide hzb
    have HBE := hide hbel
    clear hzl hown hzb hbel
    by_cases hj0 : 0 < j
    · obtain ⟨j', rfl⟩ : ∃ j', j = j' + 1 := ⟨j - 1, by omega⟩
      rcases HC.out with h | ⟨b1, o1, rfl, hcc⟩
      · rw [h] at hj; simp at hj
      have cc := keep_below HBE.out _ _ (hcc j' (by omega))
      have hx := getD_lt HBY.out j'
      have hcond : (0 : Int) ≤ ((j' + 1 : Nat) : Int) - 1 := by omega
      clear hcc hj0
      generalize xs.getD j' 0 = x at *
      go_wp2_with (at_builtin; refine append_bsl rfl _ _ rfl w.heap.size _ (xs.length - (j' + 1)) zs rfl (HO.out.alloc _) _ [x] rfl (one_bsl _ x hx) ?b1 ?b2 ?_)
      case b1 => have := HLEN.out; simp; omega
      case b2 => have := HBE.out.size; simp; omega
      intro v2 w2 ho2 hg2
      have HBE2 : Hid (Below w.heap.size w w2) := (HBE.out.alloc HBE.out.size _).grown hg2 (by have := HBE.out.size; simp; omega) (fun q hq => (HO.out.lt q hq).1)
      have hn2 : xs.length - (j' + 1) + 1 = xs.length - j' := by omega
      rw [hn2] at ho2
      obtain ⟨a2, c2, hv2, hq3, hq4, hq5⟩ := own_form ho2
      have HO2 := hide ho2
      have HN2 := hide hn2
      subst hv2
      clear hq3 hq4 hq5 ho2 hg2 hn2
      go_wp2
      go_roundw
      case rel =>
        refine ⟨j', a2, c2, zs ++ [x], by omega, by simp, rfl, by have := HZL.out; simp; omega, HO2.out, ?_, HBE2.out⟩
        intro z hz
        rcases List.mem_append.1 hz with hz | hz
        · exact HZB.out z hz
        · rw [List.mem_singleton.1 hz]; exact hx
      case measure => simp [intOf]
    · have hj00 : j = 0 := by omega
      subst hj00
      have hcond : ¬ (0 : Int) ≤ ((0 : Nat) : Int) - 1 := by omega
      rw [Nat.sub_zero] at HZL HO
      rw [Nat.sub_zero]
      have hb1 := BSl.own HO.out HZB.out
      have hb2 := HB.out.move (keep_below HBE.out)
      have hcv1 := hb1.text
      have hcv2 := hb2.text
      generalize nstr xs = S1 at *
      generalize nstr zs = S2 at *
      clear hb1 hb2 hj hj0
      by_cases hpos : 0 < xs.length
      · have hpos' : (0 : Int) < (xs.length : Int) := by omega
        by_cases hsame : S2.toList = S1.toList
        · have hsame' : (S2.toList == S1.toList) = true := beq_iff_eq.2 hsame
          clear hsame
          have hgz : zs.length - 1 < zs.length := by have := HZL.out; omega
          obtain ⟨gg, hgg⟩ : ∃ gg, al = some ⟨gg, 0, none⟩ := by
            rcases HO.out.2 with ⟨_, h0⟩ | ⟨gg, _, _, hv, _⟩
            · omega
            · injection hv with hv; exact ⟨gg, hv⟩
          subst hgg
          obtain ⟨cl1, fl1⟩ := own_cell HO.out (j := xs.length - 1) (by rw [bv_get (by have := HZL.out; omega)])
          have hzx := getD_lt HZB.out (xs.length - 1)
          have hixr : ((xs.length : Int) - 1).toNat = xs.length - 1 := by omega
          have hixb : (0 : Int) ≤ (xs.length : Int) - 1 := by omega
          have hxor : bits .xor .u8 ((zs.getD (xs.length - 1) 0 : Nat) : Int) 1 = ((zs.getD (xs.length - 1) 0 ^^^ 1 : Nat) : Int) := u8_xor_nat _ 1 hzx (by decide)
          have HXL : Hid (zs.getD (xs.length - 1) 0 ^^^ 1 < 256) := Nat.xor_lt_two_pow (n := 8) hzx (by decide)
          generalize zs.getD (xs.length - 1) 0 = z at *
          generalize z ^^^ 1 = z' at *
          go_wp2
          go_ret
          have hown := own_set (j := xs.length - 1) (.int .u8 ((z' : Nat) : Int)) HO.out
          have hset : (bv zs).set (xs.length - 1) (.int .u8 ((z' : Nat) : Int)) = bv (zs.set (xs.length - 1) z') := by simp [bv, List.map_set]
          rw [hset] at hown
          refine ⟨_, rfl, zs.set (xs.length - 1) z', by rw [List.length_set, HZL.out]; exact hown, fun y hy => ?_, by rw [List.length_set]; exact HZL.out, HBE.out.setCell (HO.out.lt gg rfl).1 _⟩
          rcases List.mem_or_eq_of_mem_set hy with h | h
          · exact HZB.out y h
          · rw [h]; exact HXL.out
        · have hsame' : (S2.toList == S1.toList) = false := beq_eq_false_iff_ne.2 hsame
          clear hsame
          go_wp2
          go_ret
          exact ⟨_, rfl, zs, by rw [HZL.out]; exact HO.out, HZB.out, HZL.out, HBE.out⟩
      · have hpos' : ¬ (0 : Int) < (xs.length : Int) := by omega
        go_wp2
        go_ret
        exact ⟨_, rfl, zs, by rw [HZL.out]; exact HO.out, HZB.out, HZL.out, HBE.out⟩

theorem keepG {wr w1 wi : World} {g : Nat} (hb : Below wr.heap.size wr w1) (hk : Kp (fun q => q = g) w1 wi) (hg : wr.heap.size ≤ g) : ∀ p u, wr.cell? p = some u → wi.cell? p = some u := fun p u h =>
  hk.cell (keep_below hb p u h) (by have := World.block_lt_of_cell? wr p h; omega)

theorem Lnt.kp {w w' : World} {base g cap : Nat} {xs : List Nat} {S : Nat → Prop} (h : Lnt w base g cap xs) (hk : Kp S w w') (hs : ¬ S g) : Lnt w' base g cap xs :=
  ⟨hk.owns h.own (fun q hq => by simp [Value.ownBlock] at hq; subst hq; exact hs), h.byte, h.len⟩
end Go.Proofs.YtedgdnoafajhoaaDoor
