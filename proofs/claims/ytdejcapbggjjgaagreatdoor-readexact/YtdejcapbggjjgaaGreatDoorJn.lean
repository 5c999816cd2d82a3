import Derived.Test.YtdejcapbggjjgaaGreatDoorJi
import Derived.Test.YtdejcapbggjjgaaGreatDoorJe
import Derived.Test.YtdejcapbggjjgaaGreatDoorJm
import Derived.Laws.Bits64
import Derived.Test.YtdejcapbggjjgaaGreatDoorJb
import Derived.Test.YtdejcapbggjjgaaGreatDoorJd
namespace Go.Proofs.YtdejcapbggjjgaaGreatDoor
section
open Go.RowKit Go
/-! ### An item that is looked at, in memory -/
def ics (h : HR) (vb : Value) (s : ByteArray) (l : Lk) : Array Value := #[.int .i64 (h.m : Nat), .int .i64 (h.i : Nat), .int .u64 (h.n : Nat), .int .i64 (h.u : Nat), .bool h.s, vb, .string s, .int .i64 l.v, .int .u64 (l.c : Nat), .int .u64 (l.h : Nat), .string (nstr l.d)]
theorem exp_and (n : Nat) (hn : n < 18446744073709551616) : (IntKind.u64.wrap ((BitVec.ofInt 64 (n : Int) &&& BitVec.ofInt 64 9218868437227405312).toNat : Nat) != 9218868437227405312) = finb n := by
  have e : (BitVec.ofInt 64 (n : Int) &&& BitVec.ofInt 64 9218868437227405312).toNat = n / 4503599627370496 % 2048 * 4503599627370496 := by
    have h1 : (BitVec.ofInt 64 (n : Int)).toNat = n := by
      rw [BitVec.toNat_ofInt]
      omega
    have h2 : (BitVec.ofInt 64 9218868437227405312).toNat = 9218868437227405312 := by decide
    rw [BitVec.toNat_and, h1, h2]
    have h3 : (9218868437227405312 : Nat) = 2047 * 2 ^ 52 := by decide
    have h4 : n &&& (2047 * 2 ^ 52) = ((n >>> 52) &&& 2047) <<< 52 := by
      apply Nat.eq_of_testBit_eq
      intro i
      rw [Nat.testBit_and, Nat.testBit_shiftLeft, Nat.testBit_and, Nat.testBit_shiftRight, ← Nat.shiftLeft_eq, Nat.testBit_shiftLeft]
      by_cases hi : 52 ≤ i
      · simp [hi, Nat.add_sub_cancel' hi]
      · simp [hi]
    rw [h3, h4, Nat.shiftLeft_eq, Nat.shiftRight_eq_div_pow, show (2047 : Nat) = 2 ^ 11 - 1 by decide, Nat.and_two_pow_sub_one_eq_mod]
  rw [e]
  unfold finb
  rw [Bool.eq_iff_iff]
  have hw : IntKind.u64.wrap (((n / 4503599627370496 % 2048 * 4503599627370496 : Nat) : Int)) = ((n / 4503599627370496 % 2048 * 4503599627370496 : Nat) : Int) := by
    rw [IntKind.wrap_u64]; omega
  rw [hw]
  simp only [bne_iff_ne, ne_eq, decide_eq_true_eq]
  omega
set_option maxRecDepth 1000000 in
theorem known_any (w : World) (g : Nat) (h : HR) (vb : Value) (s : ByteArray) (l : Lk) (hg : w.heap[g]? = some (.cells (ics h vb s l) 89 (0, 0))) (hn : h.n < 18446744073709551616) :
    Calls Tryz.prog 109 #[.pointer (some ⟨g, 0, none⟩)] w fun e w' => e = .returned (.bool (rknown h)) ∧ w' = w := by
  have c1 : w.cell? ⟨g, 1, none⟩ = some (.int .i64 (h.i : Nat)) := blk_cell (j := 1) hg rfl
  have c2 : w.cell? ⟨g, 2, none⟩ = some (.int .u64 (h.n : Nat)) := blk_cell (j := 2) hg rfl
  have HE := hide (exp_and h.n hn)
  by_cases h20 : h.i = 20
  · have g1 : ((h.i : Int) == 20) = true := beq_iff_eq.2 (by omega)
    have e : rknown h = true := by unfold rknown; simp [h20]
    rw [e]
    go_enter Tryz.func109, Tryz.ntmps109
    go_wp2
    go_ret
    exact ⟨rfl, rfl⟩
  have g1 : ((h.i : Int) == 20) = false := beq_eq_false_iff_ne.2 (by omega)
  by_cases h21 : h.i = 21
  · have g2 : ((h.i : Int) == 21) = true := beq_iff_eq.2 (by omega)
    have e : rknown h = true := by unfold rknown; simp [h21]
    rw [e]
    go_enter Tryz.func109, Tryz.ntmps109
    go_wp2
    go_ret
    exact ⟨rfl, rfl⟩
  have g2 : ((h.i : Int) == 21) = false := beq_eq_false_iff_ne.2 (by omega)
  by_cases h22 : h.i = 22
  · have g3 : ((h.i : Int) == 22) = true := beq_iff_eq.2 (by omega)
    have e : rknown h = true := by unfold rknown; simp [h22]
    rw [e]
    go_enter Tryz.func109, Tryz.ntmps109
    go_wp2
    go_ret
    exact ⟨rfl, rfl⟩
  have g3 : ((h.i : Int) == 22) = false := beq_eq_false_iff_ne.2 (by omega)
  by_cases h27 : h.i = 27
  · have g4 : ((h.i : Int) == 27) = true := beq_iff_eq.2 (by omega)
    have e : rknown h = finb h.n := by unfold rknown; simp [h27]
    rw [e]
    clear h27 h20 h21 h22 e
    go_enter Tryz.func109, Tryz.ntmps109
    go_wp2
    go_ret
    refine ⟨?_, rfl⟩
    rw [← HE.out]
    rfl
  · have g4 : ((h.i : Int) == 27) = false := beq_eq_false_iff_ne.2 (by omega)
    have e : rknown h = false := by unfold rknown; simp [h20, h21, h22, h27]
    rw [e]
    go_enter Tryz.func109, Tryz.ntmps109
    go_wp2
    go_ret
    exact ⟨rfl, rfl⟩
end
section
open Go.RowKit Go
theorem item_set {w : World} {g : Nat} {c : Array Value} (k : Nat) (v : Value) (hg : w.heap[g]? = some (.cells c 89 (0, 0))) : (w.setCell ⟨g, k, none⟩ v).heap[g]? = some (.cells (c.setIfInBounds k v) 89 (0, 0)) ∧ Kp (fun q => q = g) w (w.setCell ⟨g, k, none⟩ v) :=
  ⟨blk_set k v hg, (Kp.refl _ w).setCell _ _ (fun _ => rfl)⟩
/-- What mayBe keeps. -/
def rtext (h : HR) (y : List Nat) (s : ByteArray) : ByteArray := if h.m = 3 then nstr y else s
set_option maxRecDepth 1000000 in
theorem maybe_any (W : World) (hT : Tabs W) (w : World) (hW : Below W.heap.size W w) (g : Nat) (hgW : W.heap.size ≤ g) (h : HR) (vb : Value) (y : List Nat) (s : ByteArray) (l : Lk) (hg : w.heap[g]? = some (.cells (ics h vb s l) 89 (0, 0))) (hb : BSl w vb y) (hyl : y.length ≤ 140737488351232) (hn : h.n < 18446744073709551616) :
    Calls Tryz.prog 95 #[.pointer (some ⟨g, 0, none⟩)] w fun e w' => e = .returned (.bool (rmay h y)) ∧ w'.heap[g]? = some (.cells (ics h vb (rtext h y s) l) 89 (0, 0)) ∧ Kp (fun q => q = g) w w' := by
  have c0 : w.cell? ⟨g, 0, none⟩ = some (.int .i64 (h.m : Nat)) := blk_cell (j := 0) hg rfl
  have HG := hide hg
  have HT := hide hT
  have HWW := hide hW
  have HGW := hide hgW
  have HBB := hide hb
  clear hT hW hgW hg
  by_cases h3 : h.m = 3
  · as_aux_lemma =>
    have g3 : ((h.m : Int) == 3) = true := beq_iff_eq.2 (by omega)
    have e1 : rmay h y = !badb (nstr y) := by unfold rmay; rw [if_pos h3]
    have e2 : rtext h y s = nstr y := by unfold rtext; rw [if_pos h3]
    rw [e1, e2]
    obtain ⟨⟨a, cap, rfl, hn2, hc⟩, hmax, hby⟩ := hb
    have c5 : w.cell? ⟨g, 5, none⟩ = some (.slice a y.length cap) := blk_cell (j := 5) HG.out rfl
    have c6 : w.cell? ⟨g, 6, none⟩ = some (.string s) := blk_cell (j := 6) HG.out rfl
    have f6 := blk_frozen 6 HG.out
    have hcv : Sem.run Tryz.prog (convert 46 9 (.slice a y.length cap)) w = .ok (.string (nstr y)) w := HBB.out.text
    have hset := item_set 6 (.string (nstr y)) HG.out
    have HS1 := hide hset.1
    have HK1 := hide hset.2
    have c6' : (w.setCell ⟨g, 6, none⟩ (.string (nstr y))).cell? ⟨g, 6, none⟩ = some (.string (nstr y)) := blk_cell (j := 6) HS1.out rfl
    have HSZ : Hid ((nstr y).size ≤ 140737488351232) := by show _ ≤ _; rw [nstr_size hby]; exact hyl
    have HWS : Hid (Below W.heap.size W (w.setCell ⟨g, 6, none⟩ (.string (nstr y)))) := HWW.out.trans (HK1.out.below HWW.out.size (fun q e => by have := HGW.out; omega))
    clear hset h3 e1 e2 hn2 hc hmax
    go_enter Tryz.func95, Tryz.ntmps95
    go_wp2_with fail
    refine (valid_any (nstr y) _ HSZ.out (HT.out.next HWS.out)).mono ?_
    rintro e w2 ⟨rfl, hb2⟩
    have HG2 : Hid (w2.heap[g]? = some (.cells (ics h (.slice a y.length cap) (nstr y) l) 89 (0, 0))) := (hb2.block _ (blk_lt HS1.out)).trans HS1.out
    have HK2 : Hid (Kp (fun q => q = g) w w2) := HK1.out.trans (Kp.of_below (S := fun _ => False) hb2) (fun _ _ h => h.elim)
    clear hb2
    go_wp2_with fail
    go_ret
    exact ⟨rfl, HG2.out, HK2.out⟩
  have g3 : ((h.m : Int) == 3) = false := beq_eq_false_iff_ne.2 (by omega)
  have e2 : rtext h y s = s := by unfold rtext; rw [if_neg h3]
  rw [e2]
  by_cases h6 : h.m = 6
  · as_aux_lemma =>
    have g6 : ((h.m : Int) == 6) = true := beq_iff_eq.2 (by omega)
    have c2 : w.cell? ⟨g, 2, none⟩ = some (.int .u64 (h.n : Nat)) := blk_cell (j := 2) HG.out rfl
    have e1 : rmay h y = ((h.n : Int) == 42) := by
      unfold rmay
      rw [if_neg h3, if_pos h6, Bool.eq_iff_iff]
      simp
      omega
    rw [e1]
    clear h3 h6 e1
    go_enter Tryz.func95, Tryz.ntmps95
    go_wp2_with fail
    go_ret
    exact ⟨rfl, HG.out, Kp.refl _ _⟩
  have g6 : ((h.m : Int) == 6) = false := beq_eq_false_iff_ne.2 (by omega)
  by_cases h7 : h.m = 7
  · as_aux_lemma =>
    have g7 : ((h.m : Int) == 7) = true := beq_iff_eq.2 (by omega)
    have e1 : rmay h y = rknown h := by unfold rmay; rw [if_neg h3, if_neg h6, if_pos h7]
    rw [e1]
    clear h3 h6 h7 e1
    go_enter Tryz.func95, Tryz.ntmps95
    go_wp2_with fail
    refine (known_any w g h vb s l HG.out hn).mono ?_
    rintro e w2 ⟨rfl, hw2⟩
    have hw3 := hw2.symm
    subst hw3
    go_wp2_with fail
    go_ret
    exact ⟨rfl, HG.out, Kp.refl _ _⟩
  · as_aux_lemma =>
    have g7 : ((h.m : Int) == 7) = false := beq_eq_false_iff_ne.2 (by omega)
    have e1 : rmay h y = true := by unfold rmay; rw [if_neg h3, if_neg h6, if_neg h7]
    rw [e1]
    clear h3 h6 h7 e1
    go_enter Tryz.func95, Tryz.ntmps95
    go_wp2_with fail
    go_ret
    exact ⟨rfl, HG.out, Kp.refl _ _⟩
/-- What fits keeps. -/
def rlink (want : Nat) (h : HR) (y : List Nat) (l : Lk) : Lk := if want = 2 ∧ h.m = 2 ∧ y.head? = some 0 then (lparse y.tail).1 else l
set_option maxRecDepth 1000000 in
theorem fits8_any (w : World) (g want : Nat) (h : HR) (vb : Value) (y : List Nat) (s : ByteArray) (l : Lk) (hg : w.heap[g]? = some (.cells (ics h vb s l) 89 (0, 0))) (hb : BSl w vb y) (hyl : y.length ≤ 140737488351232) :
    Calls Tryz.prog 96 #[.pointer (some ⟨g, 0, none⟩), .int .i64 (want : Nat)] w fun e w' => e = .returned (.bool (rfit want h y)) ∧ w'.heap[g]? = some (.cells (ics h vb s (rlink want h y l)) 89 (0, 0)) ∧ Kp (fun q => q = g) w w' := by
  have c0 : w.cell? ⟨g, 0, none⟩ = some (.int .i64 (h.m : Nat)) := blk_cell (j := 0) hg rfl
  have HG := hide hg
  have HBB := hide hb
  clear hg
  by_cases h1 : want = 1
  · as_aux_lemma =>
    have g1 : ((want : Int) == 1) = true := beq_iff_eq.2 (by omega)
    have e1 : rfit want h y = ((h.m : Int) == 3) := by
      unfold rfit
      rw [if_pos h1, Bool.eq_iff_iff]
      simp
      omega
    have e2 : rlink want h y l = l := by unfold rlink; rw [if_neg (by omega)]
    rw [e1, e2]
    clear h1 e1 e2
    go_enter Tryz.func96, Tryz.ntmps96
    go_wp2_with fail
    go_ret
    exact ⟨rfl, HG.out, Kp.refl _ _⟩
  have g1 : ((want : Int) == 1) = false := beq_eq_false_iff_ne.2 (by omega)
  by_cases h2 : want = 2
  case neg => as_aux_lemma =>
    have g2 : ((want : Int) == 2) = false := beq_eq_false_iff_ne.2 (by omega)
    have e1 : rfit want h y = true := by unfold rfit; rw [if_neg h1, if_neg h2]
    have e2 : rlink want h y l = l := by unfold rlink; rw [if_neg (by omega)]
    rw [e1, e2]
    clear h1 h2 e1 e2
    go_enter Tryz.func96, Tryz.ntmps96
    go_wp2_with fail
    go_ret
    exact ⟨rfl, HG.out, Kp.refl _ _⟩
  have g2 : ((want : Int) == 2) = true := beq_iff_eq.2 (by omega)
  obtain ⟨⟨a, cap, rfl, hn2, hc⟩, hmax, hby⟩ := hb
  have c5 : w.cell? ⟨g, 5, none⟩ = some (.slice a y.length cap) := blk_cell (j := 5) HG.out rfl
  by_cases hm : h.m = 2
  case neg => as_aux_lemma =>
    have gm : ((h.m : Int) != 2) = true := by rw [bne_iff_ne]; omega
    have e1 : rfit want h y = false := by unfold rfit; rw [if_neg h1, if_pos h2]; simp [hm]
    have e2 : rlink want h y l = l := by unfold rlink; rw [if_neg (by omega)]
    rw [e1, e2]
    clear h1 h2 e1 e2 hm
    go_enter Tryz.func96, Tryz.ntmps96
    go_wp2_with fail
    go_ret
    exact ⟨rfl, HG.out, Kp.refl _ _⟩
  have gm : ((h.m : Int) != 2) = false := by rw [bne_eq_false_iff_eq]; omega
  by_cases hy0 : y = []
  · as_aux_lemma =>
    have gl : ((y.length : Int) == 0) = true := by rw [hy0]; rfl
    have e1 : rfit want h y = false := by unfold rfit; rw [if_neg h1, if_pos h2, hy0]; simp
    have e2 : rlink want h y l = l := by unfold rlink; rw [if_neg (by rw [hy0]; simp)]
    rw [e1, e2]
    clear h1 h2 e1 e2 hm hy0 hc
    go_enter Tryz.func96, Tryz.ntmps96
    go_wp2_with fail
    go_ret
    exact ⟨rfl, HG.out, Kp.refl _ _⟩
  obtain ⟨b, off, rfl, hcc⟩ := hc.resolve_left hy0
  have hl0 : 0 < y.length := List.length_pos_iff.2 hy0
  have gl : ((y.length : Int) == 0) = false := beq_eq_false_iff_ne.2 (by omega)
  have gl2 : (0 : Int) < (y.length : Int) := by omega
  obtain ⟨x, hx0⟩ : ∃ x, y.head? = some x := by
    cases y with
    | nil => exact absurd rfl hy0
    | cons x r => exact ⟨x, rfl⟩
  have hxg : y.getD 0 0 = x := by
    cases y with
    | nil => cases hx0
    | cons z r => simpa using hx0
  have cx : w.cell? ⟨b, off, none⟩ = some (.int .u8 (x : Nat)) := by
    have h := hcc 0 hl0
    rw [hxg] at h
    simpa using h
  by_cases hx : x = 0
  case neg => as_aux_lemma =>
    have gx : ((x : Int) != 0) = true := by rw [bne_iff_ne]; omega
    have e1 : rfit want h y = false := by unfold rfit; rw [if_neg h1, if_pos h2, hx0]; simp [hx]
    have e2 : rlink want h y l = l := by unfold rlink; rw [if_neg (by rw [hx0]; simp [hx])]
    rw [e1, e2]
    clear h1 h2 e1 e2 hm hcc hn2 hx hy0 hx0 hxg
    go_enter Tryz.func96, Tryz.ntmps96
    go_wp2_with fail
    go_ret
    exact ⟨rfl, HG.out, Kp.refl _ _⟩
  have gx : ((x : Int) != 0) = false := by rw [bne_eq_false_iff_eq]; omega
  have HNN := hide hn2
  have HD := hide (bsl_drop8 (k := 1) HBB.out hl0)
  have htl : y.drop 1 = y.tail := List.drop_one
  rw [htl] at HD
  have HRF : Hid (rfit want h y = decide ((lparse y.tail).2 = 0)) := by
    show _ = _
    unfold rfit
    rw [if_neg h1, if_pos h2, hx0, hx]
    simp [hm]
  have HRL : Hid (rlink want h y l = (lparse y.tail).1) := by
    show _ = _
    unfold rlink
    rw [if_pos ⟨h2, hm, by rw [hx0, hx]⟩]
  have HL0 := hide hl0
  have HEE : Hid (decide ((lparse y.tail).2 = 0) = (((lparse y.tail).2 : Int) == 0)) := by
    show _ = _
    rw [Bool.eq_iff_iff]
    simp
  rw [HRF.out, HRL.out, HEE.out]
  clear h1 h2 hm hcc hn2 hx hy0 hx0 hxg hl0 htl HRF HRL HEE
  go_enter Tryz.func96, Tryz.ntmps96
  go_wp2_with (refine wpList_exec rfl (exec_drop (k := 1) rfl rfl rfl HL0.out HNN.out.1 HNN.out.2) ?_)
  refine (parse4_any w _ y.tail HD.out).mono ?_
  rintro e w1 ⟨rfl, hb1⟩
  have HG1 : Hid (w1.heap[g]? = some (.cells (ics h (.slice (some ⟨b, off, none⟩) y.length cap) s l) 89 (0, 0))) := (hb1.block _ (blk_lt HG.out)).trans HG.out
  have HB1 := hide hb1
  clear hb1 c0 c5 cx
  generalize hpr : lparse y.tail = pr at *
  have HPR := hide hpr
  clear hpr
  obtain ⟨⟨lv, lc, lh, ld⟩, er⟩ := pr
  have HG2 := hide (blk_alloc (.cells #[.int .i64 lv, .int .u64 (lc : Nat), .int .u64 (lh : Nat), .string (nstr ld)] 57) HG1.out)
  have HK2 : Hid (Kp (fun q => q = g) w (w1.alloc (.cells #[.int .i64 lv, .int .u64 (lc : Nat), .int .u64 (lh : Nat), .string (nstr ld)] 57))) := (Kp.of_below HB1.out).alloc _
  have HI4 : Hid ((Tryz.prog.info? 57).map (·.size) = some [Value.int .i64 lv, .int .u64 (lc : Nat), .int .u64 (lh : Nat), .string (nstr ld)].length) := info61
  simp only [lkv]
  clear HG HBB HD
  go_wp2_with (refine wpList_storePart rfl rfl g 7 (ics h (.slice (some ⟨b, off, none⟩) y.length cap) s l).toList [.int .i64 lv, .int .u64 (lc : Nat), .int .u64 (lh : Nat), .string (nstr ld)] 89 rfl rfl HG2.out HI4.out (by simp [ics]) (by simp [Value.oneCell']) ?_)
  intro w3 HG3 HK3
  have HG4 : Hid (w3.heap[g]? = some (.cells (ics h (.slice (some ⟨b, off, none⟩) y.length cap) s ⟨lv, lc, lh, ld⟩) 89 (0, 0))) := HG3
  clear HG3
  go_wp2_with fail
  go_ret
  exact ⟨by rw [HPR.out]; rfl, by rw [HPR.out]; exact HG4.out, HK2.out.trans HK3.out (fun _ _ h => h)⟩
end
section
open Go.RowKit Go
/-- A list or a map that is open: its kind, keys, items, how many are wanted. -/
structure Nst where
  k : Int
  ks : List ByteArray
  is : List Tv
  n : Nat
def Nst.val (x : Nst) : Tv := .mk x.k false false 0 0 ⟨#[]⟩ [] ⟨0, 0, 0, []⟩ x.ks x.is
def tz8 (k : Int) : Tv := .mk k false false 0 0 ⟨#[]⟩ [] ⟨0, 0, 0, []⟩ [] []
/-- The tree that an item is which has no items and no name. -/
def rleaf (h : HR) (y : List Nat) : Tv :=
  if h.m = 0 ∨ h.m = 1 then .mk 3 false (decide (h.m = 1)) h.n 0 ⟨#[]⟩ [] ⟨0, 0, 0, []⟩ [] []
  else if h.m = 2 then .mk 6 false false 0 0 ⟨#[]⟩ y ⟨0, 0, 0, []⟩ [] []
  else if h.m = 3 then .mk 5 false false 0 0 (nstr y) [] ⟨0, 0, 0, []⟩ [] []
  else if h.i = 27 then .mk 4 false false 0 h.n ⟨#[]⟩ [] ⟨0, 0, 0, []⟩ [] []
  else if h.i = 22 then tz8 1
  else .mk 2 (decide (h.i = 21)) false 0 0 ⟨#[]⟩ [] ⟨0, 0, 0, []⟩ [] []
/-- What is gone on with. -/
inductive Lab where
  | plain | name | done (v : Tv) | inside
structure Mst where
  lab : Lab
  p : Nat
  st : List Nst
/-- The answer: its code, its place, its tree. -/
structure Res where
  e : Nat
  p : Nat
  v : Tv
def mstep (b : List Nat) (d : Nat) (s : Mst) : Mst ⊕ Res :=
  match s.lab with
  | .plain =>
    if rtake 0 (decide (s.st.length = d)) [] (b.drop s.p) ≠ 0 then .inr ⟨rtake 0 (decide (s.st.length = d)) [] (b.drop s.p), s.p, tz8 0⟩
    else if (hrd (b.drop s.p)).m = 6 then .inl ⟨.name, s.p + rused (b.drop s.p), s.st⟩
    else if (hrd (b.drop s.p)).m = 4 then .inl ⟨.inside, s.p + rused (b.drop s.p), ⟨8, [], [], (hrd (b.drop s.p)).n⟩ :: s.st⟩
    else if (hrd (b.drop s.p)).m = 5 then .inl ⟨.inside, s.p + rused (b.drop s.p), ⟨9, [], [], (hrd (b.drop s.p)).n⟩ :: s.st⟩
    else .inl ⟨.done (rleaf (hrd (b.drop s.p)) (rbody (b.drop s.p))), s.p + rused (b.drop s.p), s.st⟩
  | .name =>
    if rtake 2 (decide (s.st.length = d)) [] (b.drop s.p) ≠ 0 then .inr ⟨rtake 2 (decide (s.st.length = d)) [] (b.drop s.p), s.p, tz8 0⟩
    else .inl ⟨.done (.mk 7 false false 0 0 ⟨#[]⟩ [] (lparse (rbody (b.drop s.p)).tail).1 [] []), s.p + rused (b.drop s.p), s.st⟩
  | .done v =>
    match s.st with
    | [] => .inr ⟨0, s.p, v⟩
    | x :: q => .inl ⟨.inside, s.p, ⟨x.k, x.ks, x.is ++ [v], x.n - 1⟩ :: q⟩
  | .inside =>
    match s.st with
    | [] => .inr ⟨0, s.p, tz8 0⟩
    | x :: q =>
      if x.n = 0 then .inl ⟨.done x.val, s.p, q⟩
      else if x.k = 8 then .inl ⟨.plain, s.p, s.st⟩
      else if rtake 1 (decide (s.st.length = d)) x.ks (b.drop s.p) ≠ 0 then .inr ⟨rtake 1 (decide (s.st.length = d)) x.ks (b.drop s.p), s.p, tz8 0⟩
      else .inl ⟨.plain, s.p + rused (b.drop s.p), ⟨x.k, x.ks ++ [nstr (rbody (b.drop s.p))], x.is, x.n⟩ :: q⟩
def mrun (b : List Nat) (d : Nat) : Nat → Mst → Option Res
  | 0, _ => none
  | n + 1, s => match mstep b d s with
    | .inl s' => mrun b d n s'
    | .inr r => some r
theorem mrun_next {b : List Nat} {d n : Nat} {s s' : Mst} (h : mstep b d s = .inl s') : mrun b d (n + 1) s = mrun b d n s' := by rw [mrun, h]
theorem mrun_end {b : List Nat} {d n : Nat} {s : Mst} {r : Res} (h : mstep b d s = .inr r) : mrun b d (n + 1) s = some r := by rw [mrun, h]
theorem mrun_more {b : List Nat} {d : Nat} : ∀ {n m : Nat} {s : Mst} {r : Res}, n ≤ m → mrun b d n s = some r → mrun b d m s = some r
  | 0, _, _, _, _, h => by cases h
  | n + 1, 0, _, _, hm, _ => by omega
  | n + 1, m + 1, s, r, hm, h => by
    cases hs : mstep b d s with
    | inl s' =>
      rw [mrun_next hs] at h ⊢
      exact mrun_more (by omega) h
    | inr r' =>
      rw [mrun_end hs] at h ⊢
      exact h
theorem mrun_one {b : List Nat} {d n m : Nat} {s : Mst} {r r' : Res} (h : mrun b d n s = some r) (h' : mrun b d m s = some r') : r = r' := by
  have h1 := mrun_more (Nat.le_max_left n m) h
  have h2 := mrun_more (Nat.le_max_right n m) h'
  rw [h1] at h2
  injection h2
theorem rtake_app {want : Nat} {full : Bool} {ks : List ByteArray} {b tl : List Nat} (h : rtake want full ks b ≠ 82) (hne : b ≠ [] ∨ True) : rtake want full ks (b ++ tl) = rtake want full ks b ∧ (rtake want full ks b = 0 → rbody (b ++ tl) = rbody b ∧ hrd (b ++ tl) = hrd b ∧ rused (b ++ tl) = rused b ∧ rused b ≤ b.length) := by
  cases b with
  | nil => exact absurd (by cases full <;> rfl) h
  | cons x r =>
    have en : rnest (x :: r ++ tl) = rnest (x :: r) := rfl
    unfold rtake at h ⊢
    rw [en]
    by_cases h1 : rnest (x :: r) = true ∧ full = true
    · rw [if_pos h1, if_pos h1]
      exact ⟨rfl, fun h => by cases h⟩
    · rw [if_neg h1] at h
      rw [if_neg h1, if_neg h1]
      have h2 : rlook want (x :: r) ≠ 82 := fun e => by
        rw [if_pos (by rw [e]; decide)] at h
        exact h e
      obtain ⟨e1, e2⟩ := rlook_app (tl := tl) h2
      rw [e1]
      by_cases h3 : rlook want (x :: r) ≠ 0
      · rw [if_pos h3, if_pos h3]
        exact ⟨rfl, fun e => absurd e h3⟩
      · have h4 : rlook want (x :: r) = 0 := Decidable.not_not.1 h3
        obtain ⟨f1, f2, f3⟩ := e2 h4
        rw [if_neg h3, if_neg h3, f2, f1]
        refine ⟨rfl, fun _ => ⟨rfl, rfl, ?_, f3⟩⟩
        unfold rused
        rw [f1, f2]
theorem rtake_look {want : Nat} {full : Bool} {ks : List ByteArray} {b : List Nat} (h : rtake want full ks b = 0) : rlook want b = 0 ∧ ¬ (rnest b = true ∧ full = true) := by
  unfold rtake at h
  by_cases h1 : rnest b = true ∧ full = true
  · rw [if_pos h1] at h; cases h
  rw [if_neg h1] at h
  by_cases h2 : rlook want b ≠ 0
  · rw [if_pos h2] at h; exact absurd h h2
  exact ⟨Decidable.not_not.1 h2, h1⟩
/-- The step, with something behind the bytes. -/
theorem mstep_app {b tl : List Nat} {d : Nat} {s : Mst} (hp : s.p ≤ b.length) : (∀ s', mstep b d s = .inl s' → mstep (b ++ tl) d s = .inl s' ∧ s'.p ≤ b.length ∧ s.p ≤ s'.p) ∧ (∀ r, mstep b d s = .inr r → r.p = s.p ∧ (r.e ≠ 82 → mstep (b ++ tl) d s = .inr r)) := by
  obtain ⟨lab, p, st⟩ := s
  simp only at hp
  have hd : (b ++ tl).drop p = b.drop p ++ tl := List.drop_append_of_le_length hp
  have hl : (b.drop p).length = b.length - p := List.length_drop
  have key : ∀ want ks, (rtake want (decide (st.length = d)) ks (b.drop p) ≠ 82 → rtake want (decide (st.length = d)) ks (b.drop p ++ tl) = rtake want (decide (st.length = d)) ks (b.drop p)) ∧ (rtake want (decide (st.length = d)) ks (b.drop p) = 0 → rbody (b.drop p ++ tl) = rbody (b.drop p) ∧ hrd (b.drop p ++ tl) = hrd (b.drop p) ∧ rused (b.drop p ++ tl) = rused (b.drop p) ∧ p + rused (b.drop p) ≤ b.length) := fun want ks => by
    refine ⟨fun h => (rtake_app h (.inr trivial)).1, fun h => ?_⟩
    obtain ⟨a1, a2, a3, a4⟩ := (rtake_app (tl := tl) (by rw [h]; decide) (.inr trivial)).2 h
    exact ⟨a1, a2, a3, by omega⟩
  cases lab with
  | plain =>
    obtain ⟨k1, k2⟩ := key 0 []
    unfold mstep
    simp only [hd]
    by_cases h0 : rtake 0 (decide (st.length = d)) [] (b.drop p) ≠ 0
    · rw [if_pos h0]
      refine ⟨fun s' h => (by cases h), fun r h => ?_⟩
      injection h with h
      subst h
      exact ⟨rfl, fun he => by rw [k1 he, if_pos h0]⟩
    · have h1 : rtake 0 (decide (st.length = d)) [] (b.drop p) = 0 := Decidable.not_not.1 h0
      obtain ⟨a1, a2, a3, a4⟩ := k2 h1
      rw [if_neg h0, k1 (by rw [h1]; decide), if_neg h0, a1, a2, a3]
      refine ⟨fun s' h => ⟨h, ?_⟩, fun r h => ?_⟩
      · revert h
        repeat' split
        all_goals (intro h; injection h with h; subst h; exact ⟨a4, Nat.le_add_right _ _⟩)
      · revert h
        repeat' split
        all_goals (intro h; cases h)
  | name =>
    obtain ⟨k1, k2⟩ := key 2 []
    unfold mstep
    simp only [hd]
    by_cases h0 : rtake 2 (decide (st.length = d)) [] (b.drop p) ≠ 0
    · rw [if_pos h0]
      refine ⟨fun s' h => (by cases h), fun r h => ?_⟩
      injection h with h
      subst h
      exact ⟨rfl, fun he => by rw [k1 he, if_pos h0]⟩
    · have h1 : rtake 2 (decide (st.length = d)) [] (b.drop p) = 0 := Decidable.not_not.1 h0
      obtain ⟨a1, a2, a3, a4⟩ := k2 h1
      rw [if_neg h0, k1 (by rw [h1]; decide), if_neg h0, a1, a3]
      refine ⟨fun s' h => ⟨h, ?_⟩, fun r h => by cases h⟩
      injection h with h
      subst h
      exact ⟨a4, Nat.le_add_right _ _⟩
  | done v =>
    cases st with
    | nil =>
      refine ⟨fun s' h => (by cases h), fun r h => ⟨?_, fun _ => h⟩⟩
      injection h with h
      subst h
      rfl
    | cons x q =>
      refine ⟨fun s' h => ⟨h, ?_⟩, fun r h => by cases h⟩
      injection h with h
      subst h
      exact ⟨hp, Nat.le_refl _⟩
  | inside =>
    cases st with
    | nil =>
      refine ⟨fun s' h => (by cases h), fun r h => ⟨?_, fun _ => h⟩⟩
      injection h with h
      subst h
      rfl
    | cons x q =>
      obtain ⟨k1, k2⟩ := key 1 x.ks
      unfold mstep
      simp only [hd]
      by_cases hn : x.n = 0
      · rw [if_pos hn, if_pos hn]
        refine ⟨fun s' h => ⟨h, ?_⟩, fun r h => by cases h⟩
        injection h with h
        subst h
        exact ⟨hp, Nat.le_refl _⟩
      rw [if_neg hn, if_neg hn]
      by_cases h8 : x.k = 8
      · rw [if_pos h8, if_pos h8]
        refine ⟨fun s' h => ⟨h, ?_⟩, fun r h => by cases h⟩
        injection h with h
        subst h
        exact ⟨hp, Nat.le_refl _⟩
      rw [if_neg h8, if_neg h8]
      by_cases h0 : rtake 1 (decide ((x :: q).length = d)) x.ks (b.drop p) ≠ 0
      · rw [if_pos h0]
        refine ⟨fun s' h => (by cases h), fun r h => ?_⟩
        injection h with h
        subst h
        exact ⟨rfl, fun he => by rw [k1 he, if_pos h0]⟩
      · have h1 : rtake 1 (decide ((x :: q).length = d)) x.ks (b.drop p) = 0 := Decidable.not_not.1 h0
        obtain ⟨a1, a2, a3, a4⟩ := k2 h1
        rw [if_neg h0, k1 (by rw [h1]; decide), if_neg h0, a1, a3]
        refine ⟨fun s' h => ⟨h, ?_⟩, fun r h => by cases h⟩
        injection h with h
        subst h
        exact ⟨a4, Nat.le_add_right _ _⟩
theorem mrun_at {b : List Nat} {d : Nat} : ∀ {n : Nat} {s : Mst} {r : Res}, s.p ≤ b.length → mrun b d n s = some r → s.p ≤ r.p ∧ r.p ≤ b.length
  | 0, _, _, _, h => by cases h
  | n + 1, s, r, hp, h => by
    obtain ⟨h1, h2⟩ := mstep_app (tl := []) (d := d) hp
    cases hs : mstep b d s with
    | inl s' =>
      rw [mrun_next hs] at h
      obtain ⟨_, a1, a2⟩ := h1 s' hs
      obtain ⟨a3, a4⟩ := mrun_at a1 h
      exact ⟨Nat.le_trans a2 a3, a4⟩
    | inr r' =>
      rw [mrun_end hs] at h
      injection h with h
      subst h
      rw [(h2 r' hs).1]
      exact ⟨Nat.le_refl _, hp⟩
end
section
open Go.RowKit Go
theorem rlook_e {want : Nat} {b : List Nat} (h : rlook want b = 0) : (hrd b).e = 0 := by
  unfold rlook at h
  by_cases h1 : (hrd b).e = 20
  · rw [if_pos h1] at h; cases h
  rw [if_neg h1] at h
  by_cases h2 : (hrd b).e ≠ 0 ∨ (hrd b).i = 31
  · rw [if_pos h2] at h; cases h
  rcases Nat.decEq (hrd b).e 0 with h3 | h3
  · exact absurd (.inl h3) h2
  · exact h3
theorem hrd_m {x : Nat} {r : List Nat} (h : (hrd (x :: r)).e = 0) : (hrd (x :: r)).m = x / 32 := by
  by_cases h1 : 27 < x % 32
  · by_cases h2 : x % 32 = 31 ∧ x / 32 ≠ 0 ∧ x / 32 ≠ 1 ∧ x / 32 ≠ 6
    · rw [hrd_end h2.1 h2.2]
    · rw [hrd_info h1 h2] at h; cases h
  · by_cases h2 : x % 32 < 24
    · rw [hrd_small h2]
    · by_cases h3 : r.length < hwide (x % 32)
      · rw [hrd_short (by omega) (by omega) h3] at h; cases h
      · by_cases h4 : x / 32 = 7 ∧ x % 32 = 24 ∧ bnum 0 (r.take (hwide (x % 32))) < 32
        · rw [hrd_low h4.2.1 h3 h4.1 h4.2.2] at h; cases h
        · rw [hrd_long (by omega) (by omega) h3 h4]
theorem rnest_of {b : List Nat} (h : (hrd b).e = 0) (hm : (hrd b).m = 4 ∨ (hrd b).m = 5) : rnest b = true := by
  cases b with
  | nil => cases h
  | cons x r =>
    rw [hrd_m h] at hm
    exact decide_eq_true hm
theorem rtake_deep {want : Nat} {full full' : Bool} {ks : List ByteArray} {b : List Nat} (hf : full' = true → full = true) (h : rtake want full ks b ≠ 81) : rtake want full' ks b = rtake want full ks b := by
  have h1 : ¬ (rnest b = true ∧ full = true) := fun e => h (by unfold rtake; rw [if_pos e])
  have h2 : ¬ (rnest b = true ∧ full' = true) := fun e => h1 ⟨e.1, hf e.2⟩
  unfold rtake
  rw [if_neg h1, if_neg h2]
theorem mstep_deep {b : List Nat} {d d' : Nat} {s : Mst} (hs : s.st.length ≤ d) (hd : d ≤ d') : (∀ s', mstep b d s = .inl s' → mstep b d' s = .inl s' ∧ s'.st.length ≤ d) ∧ (∀ r, mstep b d s = .inr r → r.p = s.p ∧ (r.e ≠ 81 → mstep b d' s = .inr r)) := by
  obtain ⟨lab, p, st⟩ := s
  simp only at hs
  have hf : decide (st.length = d') = true → decide (st.length = d) = true := fun h => by
    rw [decide_eq_true_eq] at h ⊢
    omega
  have key : ∀ want ks, rtake want (decide (st.length = d)) ks (b.drop p) ≠ 81 → rtake want (decide (st.length = d')) ks (b.drop p) = rtake want (decide (st.length = d)) ks (b.drop p) := fun want ks h => rtake_deep hf h
  cases lab with
  | plain =>
    have k1 := key 0 []
    unfold mstep
    by_cases h0 : rtake 0 (decide (st.length = d)) [] (b.drop p) ≠ 0
    · simp only [if_pos h0]
      refine ⟨fun s' h => (by cases h), fun r h => ?_⟩
      injection h with h
      subst h
      exact ⟨rfl, fun he => by rw [k1 he, if_pos h0]⟩
    · have h1 : rtake 0 (decide (st.length = d)) [] (b.drop p) = 0 := Decidable.not_not.1 h0
      obtain ⟨hl, hn⟩ := rtake_look h1
      have hlt : (hrd (b.drop p)).m = 4 ∨ (hrd (b.drop p)).m = 5 → st.length + 1 ≤ d := fun hm => by
        have h2 := rnest_of (rlook_e hl) hm
        have h3 : ¬ st.length = d := fun e => hn ⟨h2, decide_eq_true e⟩
        omega
      simp only [if_neg h0, k1 (by rw [h1]; decide)]
      refine ⟨fun s' h => ⟨h, ?_⟩, fun r h => ?_⟩
      · revert h
        by_cases m6 : (hrd (b.drop p)).m = 6
        · rw [if_pos m6]; intro h; injection h with h; subst h; exact hs
        rw [if_neg m6]
        by_cases m4 : (hrd (b.drop p)).m = 4
        · rw [if_pos m4]; intro h; injection h with h; subst h; exact hlt (.inl m4)
        rw [if_neg m4]
        by_cases m5 : (hrd (b.drop p)).m = 5
        · rw [if_pos m5]; intro h; injection h with h; subst h; exact hlt (.inr m5)
        rw [if_neg m5]
        intro h; injection h with h; subst h; exact hs
      · revert h
        repeat' split
        all_goals (intro h; cases h)
  | name =>
    have k1 := key 2 []
    unfold mstep
    by_cases h0 : rtake 2 (decide (st.length = d)) [] (b.drop p) ≠ 0
    · simp only [if_pos h0]
      refine ⟨fun s' h => (by cases h), fun r h => ?_⟩
      injection h with h
      subst h
      exact ⟨rfl, fun he => by rw [k1 he, if_pos h0]⟩
    · have h1 : rtake 2 (decide (st.length = d)) [] (b.drop p) = 0 := Decidable.not_not.1 h0
      simp only [if_neg h0, k1 (by rw [h1]; decide)]
      refine ⟨fun s' h => ⟨h, ?_⟩, fun r h => by cases h⟩
      injection h with h
      subst h
      exact hs
  | done v =>
    cases st with
    | nil =>
      refine ⟨fun s' h => (by cases h), fun r h => ⟨?_, fun _ => h⟩⟩
      injection h with h
      subst h
      rfl
    | cons x q =>
      refine ⟨fun s' h => ⟨h, ?_⟩, fun r h => by cases h⟩
      injection h with h
      subst h
      exact hs
  | inside =>
    cases st with
    | nil =>
      refine ⟨fun s' h => (by cases h), fun r h => ⟨?_, fun _ => h⟩⟩
      injection h with h
      subst h
      rfl
    | cons x q =>
      have k1 := key 1 x.ks
      unfold mstep
      dsimp only
      by_cases hn : x.n = 0
      · rw [if_pos hn, if_pos hn]
        refine ⟨fun s' h => ⟨h, ?_⟩, fun r h => by cases h⟩
        injection h with h
        subst h
        exact Nat.le_of_succ_le hs
      rw [if_neg hn, if_neg hn]
      by_cases h8 : x.k = 8
      · rw [if_pos h8, if_pos h8]
        refine ⟨fun s' h => ⟨h, ?_⟩, fun r h => by cases h⟩
        injection h with h
        subst h
        exact hs
      rw [if_neg h8, if_neg h8]
      by_cases h0 : rtake 1 (decide ((x :: q).length = d)) x.ks (b.drop p) ≠ 0
      · rw [if_pos h0]
        refine ⟨fun s' h => (by cases h), fun r h => ?_⟩
        injection h with h
        subst h
        exact ⟨rfl, fun he => by rw [k1 he, if_pos h0]⟩
      · have h1 : rtake 1 (decide ((x :: q).length = d)) x.ks (b.drop p) = 0 := Decidable.not_not.1 h0
        rw [if_neg h0, k1 (by rw [h1]; decide), if_neg h0]
        refine ⟨fun s' h => ⟨h, ?_⟩, fun r h => by cases h⟩
        injection h with h
        subst h
        exact hs
/-- Where reading begins. -/
def m0 : Mst := ⟨.plain, 0, []⟩
/-- Decode's fault out of First's answer. -/
def dflt (b : List Nat) (r : Res) : Nat × Nat := if r.e = 0 then (if r.p < b.length then (85, r.p) else (0, 0)) else (r.e, r.p)
end
section
open Go.RowKit Go
/-- A value out of its parts, none of which lies in S. -/
theorem Tis.of {w : World} {S : Nat → Prop} {t : Tv} {vy vk vi : Value} {B : Nat} {L : List (Array Value)} (hb : Tbd t) (hy : BSl w vy t.y) (hys : t.y ≠ [] → ∀ q, vy.ownBlock = some q → ¬ S q) (hk : SSl w vk t.ks) (hks : t.ks ≠ [] → ∀ q, vk.ownBlock = some q → ¬ S q)
    (hv : w.ownsRow B 61 13 vi t.is.length (vfl L)) (hvs : t.is ≠ [] → ∀ q, vi.ownBlock = some q → ¬ S q) (hm : t.is.length ≤ 140737488351232) (hL : L.length = t.is.length) (h13 : ∀ c ∈ L, c.size = 13) (hi : ∀ (i : Nat) (u : Tv) (c : Array Value), t.is[i]? = some u → L[i]? = some c → Tis w S u c) : Tis w S t (vcs t vy vk vi) := by
  rcases id hv.2 with ⟨e, h0⟩ | ⟨g, cap, cur, e, _, _, h1, _⟩
  · subst e
    have e2 : t.is = [] := List.length_eq_zero_iff.1 h0
    exact Tis.mk t vy vk _ hb hy hys hk hks (fun _ => #[]) none 0 (by rw [h0]) ⟨by omega, fun _ => rfl⟩ hm (fun i u hu => by rw [e2] at hu; simp at hu) (.inl e2)
  · subst e
    refine Tis.mk t vy vk _ hb hy hys hk hks (fun i => L.getD i #[]) (some ⟨g, 0, none⟩) cap rfl ⟨by omega, fun h => by cases h⟩ hm (fun i u hu => ?_) ?_
    · have hil := (List.getElem?_eq_some_iff.1 hu).1
      have hc : L[i]? = some (L.getD i #[]) := by rw [List.getD_eq_getElem?_getD, List.getElem?_eq_getElem (by omega)]; rfl
      exact hi i u _ hu hc
    · by_cases e2 : t.is = []
      · exact .inl e2
      · refine .inr ⟨g, 0, rfl, hvs e2 g rfl, fun i hil j u hu => ?_⟩
        rw [Nat.zero_add]
        have hc : L[i]? = some (L.getD i #[]) := by rw [List.getD_eq_getElem?_getD, List.getElem?_eq_getElem (by omega)]; rfl
        exact own_val hv h13 hc j u hu
end
section
open Go.RowKit Go
/-! ### The lists and maps that are open, in memory -/
/-- A nest's cells. -/
def ncs (x : Nst) (vk vi : Value) : Array Value := (vcs x.val (.slice none 0 0) vk vi).push (.int .u64 (x.n : Nat))
/-- The blocks that are written to. -/
def Lvs (M : Nat → Prop) (v : Value) (n : Nat) (K I : Nat → Value) (q : Nat) : Prop := M q ∨ v.ownBlock = some q ∨ ∃ i, i < n ∧ ((K i).ownBlock = some q ∨ (I i).ownBlock = some q)
/-- One that is open: its rows and its items. -/
structure Ent8 (w : World) (lo : Nat) (S : Nat → Prop) (x : Nst) (vk vi : Value) (L : List (Array Value)) : Prop where
  k : w.ownsRow lo 9 1 vk x.ks.length (sv x.ks)
  i : w.ownsRow lo 61 13 vi x.is.length (vfl L)
  kz : ∀ s ∈ x.ks, s.size ≤ 140737488351232
  kl : x.ks.length ≤ 140737488351232
  il : x.is.length ≤ 140737488351232
  n : L.length = x.is.length
  s : ∀ c ∈ L, c.size = 13
  t : ∀ (j : Nat) (u : Tv) (c : Array Value), x.is[j]? = some u → L[j]? = some c → Tis w S u c
  z : x.n < 18446744073709551616
structure Opn (w : World) (lo : Nat) (M : Nat → Prop) (v : Value) (st : List Nst) (C : List (Array Value)) (K I : Nat → Value) (L : Nat → List (Array Value)) : Prop where
  o : w.ownsRow lo 95 14 v st.length (vfl C)
  n : C.length = st.length
  c : ∀ i x, st[i]? = some x → C[i]? = some (ncs x (K i) (I i))
  m : ∀ q, M q → v.ownBlock ≠ some q
  mz : ∀ q, M q → q < w.heap.size
  e : ∀ i x, st[i]? = some x → Ent8 w lo (Lvs M v st.length K I) x (K i) (I i) (L i)
  d : ∀ i, i < st.length → ∀ q, (K i).ownBlock = some q ∨ (I i).ownBlock = some q → ¬ M q ∧ v.ownBlock ≠ some q ∧ ∀ j, j < st.length → j ≠ i → (K j).ownBlock ≠ some q ∧ (I j).ownBlock ≠ some q
  dd : ∀ i, i < st.length → ∀ q, (K i).ownBlock = some q → (I i).ownBlock ≠ some q
theorem Opn.live {w : World} {lo : Nat} {M : Nat → Prop} {v : Value} {st : List Nst} {C : List (Array Value)} {K I : Nat → Value} {L : Nat → List (Array Value)} (h : Opn w lo M v st C K I L) {q : Nat} (hq : Lvs M v st.length K I q) : q < w.heap.size := by
  rcases hq with hq | hq | ⟨i, hi, hq⟩
  · exact h.mz q hq
  · exact (h.o.lt q hq).2
  · have he := h.e i _ (List.getElem?_eq_getElem hi)
    rcases hq with hq | hq
    · exact (he.k.lt q hq).2
    · exact (he.i.lt q hq).2
/-- Writing elsewhere, or at the machine's own block. -/
theorem Opn.kp {w w' : World} {lo : Nat} {M : Nat → Prop} {v : Value} {st : List Nst} {C : List (Array Value)} {K I : Nat → Value} {L : Nat → List (Array Value)} (h : Opn w lo M v st C K I L) (hk : Kp M w w') : Opn w' lo M v st C K I L := by
  refine ⟨hk.owns h.o (fun q hq e => h.m q e hq), h.n, h.c, h.m, fun q hq => Nat.lt_of_lt_of_le (h.mz q hq) hk.size, fun i x hx => ?_, h.d, h.dd⟩
  have hi := (List.getElem?_eq_some_iff.1 hx).1
  obtain ⟨a1, a2, a3, a4, a5, a6, a7, a8, a9⟩ := h.e i x hx
  exact ⟨hk.owns a1 (fun q hq e => (h.d i hi q (.inl hq)).1 e), hk.owns a2 (fun q hq e => (h.d i hi q (.inr hq)).1 e), a3, a4, a5, a6, a7, fun j u c e1 e2 => (a8 j u c e1 e2).kp (hk.mono (fun _ _ e => .inl e)), a9⟩
theorem Opn.next {w w' : World} {lo : Nat} {M : Nat → Prop} {v : Value} {st : List Nst} {C : List (Array Value)} {K I : Nat → Value} {L : Nat → List (Array Value)} (h : Opn w lo M v st C K I L) (hb : Below w.heap.size w w') : Opn w' lo M v st C K I L := h.kp (Kp.of_below hb)
/-- A value that lies in none of these blocks goes on so. -/
theorem Tis.live {w w' : World} {S T : Nat → Prop} {u : Tv} {c : Array Value} (h : Tis w S u c) (hk : Kp S w w') (ht : ∀ q, T q → S q ∨ w.heap.size ≤ q) : Tis w' T u c :=
  (h.widen.kp (hk.mono (fun _ _ e => .inl e))).mono ht
theorem set_at {α : Type} {l : List α} {i : Nat} {x y : α} (hi : i < l.length) (h : (l.set i x)[i]? = some y) : y = x := by
  rw [List.getElem?_set_self hi] at h
  injection h with h
  exact h.symm
/-- The innermost one is changed. -/
theorem Opn.upd {w w' : World} {lo : Nat} {M : Nat → Prop} {v : Value} {st : List Nst} {C : List (Array Value)} {K I : Nat → Value} {L : Nat → List (Array Value)} (h : Opn w lo M v st C K I L) {t : Nat} (ht : t < st.length) {x' : Nst} {vk' vi' : Value} {L' : List (Array Value)}
    (hk : Kp (fun q => v.ownBlock = some q ∨ (K t).ownBlock = some q ∨ (I t).ownBlock = some q) w w') (ho : w'.ownsRow lo 95 14 v st.length (vfl (C.set t (ncs x' vk' vi'))))
    (hk1 : w'.ownsRow lo 9 1 vk' x'.ks.length (sv x'.ks)) (hkb : vk'.ownBlock = (K t).ownBlock ∨ ∀ q, vk'.ownBlock = some q → w.heap.size ≤ q) (hi1 : w'.ownsRow lo 61 13 vi' x'.is.length (vfl L')) (hib : vi'.ownBlock = (I t).ownBlock ∨ ∀ q, vi'.ownBlock = some q → w.heap.size ≤ q) (hne : ∀ q, vk'.ownBlock = some q → vi'.ownBlock ≠ some q)
    (kz : ∀ s ∈ x'.ks, s.size ≤ 140737488351232) (kl : x'.ks.length ≤ 140737488351232) (il : x'.is.length ≤ 140737488351232) (hn : L'.length = x'.is.length) (hs : ∀ c ∈ L', c.size = 13) (hz : x'.n < 18446744073709551616)
    (hit : ∀ (j : Nat) (u : Tv) (c : Array Value), x'.is[j]? = some u → L'[j]? = some c → Tis w (Lvs M v st.length K I) u c) :
    Opn w' lo M v (st.set t x') (C.set t (ncs x' vk' vi')) (fun i => if i = t then vk' else K i) (fun i => if i = t then vi' else I i) (fun i => if i = t then L' else L i) := by
  have hsub : ∀ q, (v.ownBlock = some q ∨ (K t).ownBlock = some q ∨ (I t).ownBlock = some q) → Lvs M v st.length K I q := fun q hq => by
    rcases hq with hq | hq | hq
    · exact .inr (.inl hq)
    · exact .inr (.inr ⟨t, ht, .inl hq⟩)
    · exact .inr (.inr ⟨t, ht, .inr hq⟩)
  have hkL : Kp (Lvs M v st.length K I) w w' := hk.mono (fun q _ e => hsub q e)
  have hnew : ∀ q, (vk'.ownBlock = some q ∨ vi'.ownBlock = some q) → ((K t).ownBlock = some q ∨ (I t).ownBlock = some q) ∨ w.heap.size ≤ q := fun q hq => by
    rcases hq with hq | hq
    · rcases hkb with e | e
      · exact .inl (.inl (e ▸ hq))
      · exact .inr (e q hq)
    · rcases hib with e | e
      · exact .inl (.inr (e ▸ hq))
      · exact .inr (e q hq)
  have hT : ∀ q, Lvs M v (st.set t x').length (fun i => if i = t then vk' else K i) (fun i => if i = t then vi' else I i) q → Lvs M v st.length K I q ∨ w.heap.size ≤ q := fun q hq => by
    rcases hq with hq | hq | ⟨i, hi, hq⟩
    · exact .inl (.inl hq)
    · exact .inl (.inr (.inl hq))
    · rw [List.length_set] at hi
      by_cases e : i = t
      · simp only [e, if_true] at hq
        rcases hnew q hq with h1 | h1
        · exact .inl (hsub q (.inr h1))
        · exact .inr h1
      · simp only [if_neg e] at hq
        exact .inl (.inr (.inr ⟨i, hi, hq⟩))
  have hold : ∀ i, i < st.length → i ≠ t → ∀ q, ((K i).ownBlock = some q ∨ (I i).ownBlock = some q) → ¬ (v.ownBlock = some q ∨ (K t).ownBlock = some q ∨ (I t).ownBlock = some q) := fun i hi e q hq hf => by
    obtain ⟨d1, d2, d3⟩ := h.d i hi q hq
    rcases hf with hf | hf | hf
    · exact d2 hf
    · exact (d3 t ht (fun e2 => e e2.symm)).1 hf
    · exact (d3 t ht (fun e2 => e e2.symm)).2 hf
  refine ⟨by rw [List.length_set]; exact ho, by rw [List.length_set, List.length_set]; exact h.n, fun i x hx => ?_, h.m, fun q hq => Nat.lt_of_lt_of_le (h.mz q hq) hk.size, fun i x hx => ?_, fun i hi q hq => ?_, fun i hi q hq => ?_⟩
  · by_cases e : i = t
    · subst e
      rw [set_at ht hx]
      simp only [if_true]
      rw [List.getElem?_set_self (by rw [h.n]; exact ht)]
    · rw [List.getElem?_set_ne (fun e2 => e e2.symm)] at hx
      simp only [if_neg e]
      rw [List.getElem?_set_ne (fun e2 => e e2.symm)]
      exact h.c i x hx
  · by_cases e : i = t
    · subst e
      rw [set_at ht hx]
      simp only [if_true]
      exact ⟨hk1, hi1, kz, kl, il, hn, hs, fun j u c e1 e2 => (hit j u c e1 e2).live hkL hT, hz⟩
    · rw [List.getElem?_set_ne (fun e2 => e e2.symm)] at hx
      have hi := (List.getElem?_eq_some_iff.1 hx).1
      simp only [if_neg e]
      obtain ⟨a1, a2, a3, a4, a5, a6, a7, a8, a9⟩ := h.e i x hx
      exact ⟨hk.owns a1 (fun q hq => hold i hi e q (.inl hq)), hk.owns a2 (fun q hq => hold i hi e q (.inr hq)), a3, a4, a5, a6, a7, fun j u c e1 e2 => (a8 j u c e1 e2).live hkL hT, a9⟩
  · rw [List.length_set] at hi
    by_cases e : i = t
    · subst e
      simp only [if_true] at hq
      rcases hnew q hq with h1 | h1
      · obtain ⟨d1, d2, d3⟩ := h.d i ht q h1
        refine ⟨d1, d2, fun j hj hji => ?_⟩
        rw [List.length_set] at hj
        simp only [if_neg hji]
        exact d3 j hj hji
      · have hlt := fun hl => Nat.lt_irrefl _ (Nat.lt_of_le_of_lt h1 (h.live (q := q) hl))
        refine ⟨fun e => hlt (.inl e), fun e => hlt (.inr (.inl e)), fun j hj hji => ?_⟩
        rw [List.length_set] at hj
        simp only [if_neg hji]
        exact ⟨fun e => hlt (.inr (.inr ⟨j, hj, .inl e⟩)), fun e => hlt (.inr (.inr ⟨j, hj, .inr e⟩))⟩
    · simp only [if_neg e] at hq
      obtain ⟨d1, d2, d3⟩ := h.d i hi q hq
      have hqL : q < w.heap.size := h.live (.inr (.inr ⟨i, hi, hq⟩))
      refine ⟨d1, d2, fun j hj hji => ?_⟩
      rw [List.length_set] at hj
      by_cases e2 : j = t
      · subst e2
        simp only [if_true]
        have hn2 : ¬ (vk'.ownBlock = some q ∨ vi'.ownBlock = some q) := fun hv => by
          rcases hnew q hv with h1 | h1
          · rcases h1 with h1 | h1
            · exact (d3 j hj hji).1 h1
            · exact (d3 j hj hji).2 h1
          · omega
        exact ⟨fun e => hn2 (.inl e), fun e => hn2 (.inr e)⟩
      · simp only [if_neg e2]
        exact d3 j hj hji
  · rw [List.length_set] at hi
    by_cases e : i = t
    · subst e
      simp only [if_true] at hq ⊢
      exact hne q hq
    · simp only [if_neg e] at hq ⊢
      exact h.dd i hi q hq
/-- One more is opened. -/
theorem Opn.push {w w' : World} {lo : Nat} {M : Nat → Prop} {v v' : Value} {st : List Nst} {C : List (Array Value)} {K I : Nat → Value} {L : Nat → List (Array Value)} (h : Opn w lo M v st C K I L) {k : Int} {n : Nat} (hz : n < 18446744073709551616) {c : Array Value} (hc : c = ncs ⟨k, [], [], n⟩ (.slice none 0 0) (.slice none 0 0))
    (ho : w'.ownsRow lo 95 14 v' (st.length + 1) (vfl C ++ c.toList)) (hg : w.grownBy w' v.ownBlock) (hv : v'.ownBlock = v.ownBlock ∨ v'.ownBlock = some w.heap.size) :
    Opn w' lo M v' (st ++ [⟨k, [], [], n⟩]) (C ++ [c]) (fun i => if i = st.length then .slice none 0 0 else K i) (fun i => if i = st.length then .slice none 0 0 else I i) (fun i => if i = st.length then [] else L i) := by
  have hk : Kp (fun q => v.ownBlock = some q) w w' := (Kp.refl _ _).grown hg (fun k _ h => h)
  have hkL : Kp (Lvs M v st.length K I) w w' := hk.mono (fun q _ e => .inr (.inl e))
  have hvn : ∀ q, v'.ownBlock = some q → v.ownBlock = some q ∨ q = w.heap.size := fun q hq => by
    rcases hv with e | e
    · exact .inl (e ▸ hq)
    · rw [e] at hq
      injection hq with hq
      exact .inr hq.symm
  have hT : ∀ q, Lvs M v' (st ++ [(⟨k, [], [], n⟩ : Nst)]).length (fun i => if i = st.length then .slice none 0 0 else K i) (fun i => if i = st.length then .slice none 0 0 else I i) q → Lvs M v st.length K I q ∨ w.heap.size ≤ q := fun q hq => by
    rcases hq with hq | hq | ⟨i, hi, hq⟩
    · exact .inl (.inl hq)
    · rcases hvn q hq with e | e
      · exact .inl (.inr (.inl e))
      · exact .inr (by omega)
    · rw [List.length_append, List.length_singleton] at hi
      by_cases e : i = st.length
      · simp only [e, if_true] at hq
        rcases hq with hq | hq <;> cases hq
      · simp only [if_neg e] at hq
        exact .inl (.inr (.inr ⟨i, by omega, hq⟩))
  have hlv : ∀ q, q < w.heap.size → v'.ownBlock = some q → v.ownBlock = some q := fun q hq e => by
    rcases hvn q e with e | e
    · exact e
    · omega
  refine ⟨?_, ?_, fun i x hx => ?_, fun q hq e => h.m q hq (hlv q (h.mz q hq) e), fun q hq => Nat.lt_of_lt_of_le (h.mz q hq) hk.size, fun i x hx => ?_, fun i hi q hq => ?_, fun i hi q hq => ?_⟩
  · rw [vfl_app, List.length_append]
    have e : vfl [c] = c.toList := by simp [vfl]
    rw [e]
    exact ho
  · rw [List.length_append, List.length_append, h.n]
    rfl
  · have hi := (List.getElem?_eq_some_iff.1 hx).1
    rw [List.length_append, List.length_singleton] at hi
    by_cases e : i = st.length
    · subst e
      have hx2 : x = ⟨k, [], [], n⟩ := by simpa using hx.symm
      subst hx2
      simp only [if_true]
      rw [← h.n]
      simp [hc]
    · rw [List.getElem?_append_left (by omega)] at hx
      simp only [if_neg e]
      rw [List.getElem?_append_left (by rw [h.n]; omega)]
      exact h.c i x hx
  · have hi := (List.getElem?_eq_some_iff.1 hx).1
    rw [List.length_append, List.length_singleton] at hi
    by_cases e : i = st.length
    · subst e
      have hx2 : x = ⟨k, [], [], n⟩ := by simpa using hx.symm
      subst hx2
      simp only [if_true]
      exact ⟨World.ownsRow_nil _ _ _ _, World.ownsRow_nil _ _ _ _, by simp, by simp, by simp, rfl, by simp, fun j u c e1 _ => by simp at e1, hz⟩
    · rw [List.getElem?_append_left (by omega)] at hx
      simp only [if_neg e]
      obtain ⟨a1, a2, a3, a4, a5, a6, a7, a8, a9⟩ := h.e i x hx
      exact ⟨hk.owns a1 (fun q hq => (h.d i (by omega) q (.inl hq)).2.1), hk.owns a2 (fun q hq => (h.d i (by omega) q (.inr hq)).2.1), a3, a4, a5, a6, a7, fun j u c e1 e2 => (a8 j u c e1 e2).live hkL hT, a9⟩
  · rw [List.length_append, List.length_singleton] at hi
    by_cases e : i = st.length
    · simp only [e, if_true] at hq
      rcases hq with hq | hq <;> cases hq
    · simp only [if_neg e] at hq
      have hil : i < st.length := by omega
      obtain ⟨d1, d2, d3⟩ := h.d i hil q hq
      refine ⟨d1, fun e2 => d2 (hlv q (h.live (.inr (.inr ⟨i, hil, hq⟩))) e2), fun j hj hji => ?_⟩
      rw [List.length_append, List.length_singleton] at hj
      by_cases e2 : j = st.length
      · simp only [e2, if_true]
        exact ⟨fun h => (by cases h), fun h => (by cases h)⟩
      · simp only [if_neg e2]
        exact d3 j (by omega) hji
  · rw [List.length_append, List.length_singleton] at hi
    by_cases e : i = st.length
    · simp only [e, if_true] at hq
      cases hq
    · simp only [if_neg e] at hq ⊢
      exact h.dd i (by omega) q hq
theorem own_less {w : World} {B e s g n cap : Nat} {C : List (Array Value)} {c : Array Value} (hs : ∀ d ∈ C, d.size = s) (h : w.ownsRow B e s (.slice (some ⟨g, 0, none⟩) (n + 1) cap) (n + 1) (vfl (C ++ [c]))) (hn : C.length = n) : w.ownsRow B e s (.slice (some ⟨g, 0, none⟩) n cap) n (vfl C) := by
  have hl : (vfl C).length = n * s := by
    rw [← hn]
    clear h hn
    induction C with
    | nil => simp [vfl]
    | cons a r ih =>
      have h1 := ih (fun d hd => hs d (List.mem_cons_of_mem _ hd))
      have h2 := hs a (List.mem_cons_self ..)
      have e : vfl (a :: r) = a.toList ++ vfl r := by simp [vfl]
      rw [e, List.length_append, h1, Array.length_toList, h2, List.length_cons, Nat.succ_mul, Nat.add_comm]
  rcases h.2 with ⟨hv, _⟩ | ⟨g', cap', cur, hv, hb, hg, h1, h2, h3, h4⟩
  · cases hv
  injection hv with e1 e2 e3
  injection e1 with e1
  injection e1 with e1 _ _
  subst e1
  subst e3
  refine ⟨hl, .inr ⟨g, cap, cur, rfl, hb, hg, by omega, h2, h3, ?_⟩⟩
  have h5 : (cur.toList.take ((n + 1) * s)).take (n * s) = (vfl (C ++ [c])).take (n * s) := by rw [h4]
  rw [List.take_take, Nat.min_eq_left (by rw [Nat.succ_mul]; omega), vfl_app, List.take_append_of_le_length (by omega)] at h5
  rw [h5, List.take_of_length_le (by omega)]
theorem val_tbd (x : Nst) : Tbd x.val := by
  obtain ⟨k, ks, is, n⟩ := x
  exact ⟨by show (0 : Nat) < _; decide, by show (0 : Nat) < _; decide, by show (ByteArray.mk #[]).size ≤ _; decide, by show ([] : List Nat).length ≤ _; decide, ⟨by show (0 : Nat) < _; decide, by show (0 : Nat) < _; decide, fun x hx => (by cases hx), by show ([] : List Nat).length ≤ _; decide⟩, by show ([] : List Nat).length ≤ _; decide⟩
theorem bsl_none (w : World) : BSl w (.slice none 0 0) [] := ⟨⟨none, 0, rfl, ⟨by simp, fun _ => rfl⟩, .inl rfl⟩, by simp, by simp⟩
/-- The innermost one is whole. -/
theorem Opn.pop {w : World} {lo : Nat} {M : Nat → Prop} {v : Value} {q : List Nst} {x : Nst} {C : List (Array Value)} {K I : Nat → Value} {L : Nat → List (Array Value)} (h : Opn w lo M v (q ++ [x]) C K I L) :
    ∃ g cap, v = .slice (some ⟨g, 0, none⟩) (q.length + 1) cap ∧ q.length + 1 ≤ cap ∧ Opn w lo M (.slice (some ⟨g, 0, none⟩) q.length cap) q (C.take q.length) K I L ∧ Tis w (Lvs M (.slice (some ⟨g, 0, none⟩) q.length cap) q.length K I) x.val (vcs x.val (.slice none 0 0) (K q.length) (I q.length)) := by
  have hlen : (q ++ [x]).length = q.length + 1 := by simp
  have ho := h.o
  rw [hlen] at ho
  obtain ⟨g, cap, hv, hcap⟩ : ∃ g cap, v = .slice (some ⟨g, 0, none⟩) (q.length + 1) cap ∧ q.length + 1 ≤ cap := by
    rcases ho.2 with ⟨_, h0⟩ | ⟨g, cap, cur, hv, _, _, h1, _⟩
    · omega
    · exact ⟨g, cap, hv, h1⟩
  subst hv
  have hcl : C.length = q.length + 1 := by rw [h.n, hlen]
  have hctop : C[q.length]? = some (ncs x (K q.length) (I q.length)) := h.c q.length x (by simp)
  have hC : C = C.take q.length ++ [ncs x (K q.length) (I q.length)] := by
    refine List.ext_getElem? fun i => ?_
    by_cases hi : i < q.length
    · rw [List.getElem?_append_left (by rw [List.length_take]; omega), List.getElem?_take_of_lt hi]
    · by_cases hi2 : i = q.length
      · subst hi2
        rw [List.getElem?_append_right (by rw [List.length_take]; omega), List.length_take, Nat.min_eq_left (by omega), Nat.sub_self]
        exact hctop
      · rw [List.getElem?_eq_none (by omega), List.getElem?_eq_none (by rw [List.length_append, List.length_take, List.length_singleton]; omega)]
  have hz14 : ∀ d ∈ C.take q.length, d.size = 14 := fun d hd => by
    obtain ⟨i, hi⟩ := List.getElem?_of_mem hd
    have hil : i < q.length := by have := (List.getElem?_eq_some_iff.1 hi).1; rw [List.length_take] at this; omega
    rw [List.getElem?_take_of_lt hil] at hi
    have hx : (q ++ [x])[i]? = some q[i] := by rw [List.getElem?_append_left hil]; exact List.getElem?_eq_getElem hil
    rw [h.c i _ hx] at hi
    injection hi with hi
    rw [← hi]
    rfl
  have ho2 : w.ownsRow lo 95 14 (.slice (some ⟨g, 0, none⟩) q.length cap) q.length (vfl (C.take q.length)) := by
    rw [hC] at ho
    exact own_less hz14 ho (by rw [List.length_take]; omega)
  have hsub : ∀ p, Lvs M (.slice (some ⟨g, 0, none⟩) q.length cap) q.length K I p → Lvs M (.slice (some ⟨g, 0, none⟩) (q.length + 1) cap) (q ++ [x]).length K I p := fun p hp => by
    rcases hp with hp | hp | ⟨i, hi, hp⟩
    · exact .inl hp
    · exact .inr (.inl hp)
    · exact .inr (.inr ⟨i, by rw [hlen]; omega, hp⟩)
  refine ⟨g, cap, rfl, hcap, ⟨ho2, by rw [List.length_take]; omega, fun i y hy => ?_, h.m, h.mz, fun i y hy => ?_, fun i hi p hp => ?_, fun i hi p hp => ?_⟩, ?_⟩
  · have hi := (List.getElem?_eq_some_iff.1 hy).1
    rw [List.getElem?_take_of_lt hi]
    exact h.c i y (by rw [List.getElem?_append_left hi]; exact hy)
  · have hi := (List.getElem?_eq_some_iff.1 hy).1
    obtain ⟨a1, a2, a3, a4, a5, a6, a7, a8, a9⟩ := h.e i y (by rw [List.getElem?_append_left hi]; exact hy)
    exact ⟨a1, a2, a3, a4, a5, a6, a7, fun j u c e1 e2 => (a8 j u c e1 e2).mono hsub, a9⟩
  · obtain ⟨d1, d2, d3⟩ := h.d i (by rw [hlen]; omega) p hp
    exact ⟨d1, d2, fun j hj hji => d3 j (by rw [hlen]; omega) hji⟩
  · exact h.dd i (by rw [hlen]; omega) p hp
  · obtain ⟨a1, a2, a3, a4, a5, a6, a7, a8, a9⟩ := h.e q.length x (by simp)
    have hno : ∀ p, (K q.length).ownBlock = some p ∨ (I q.length).ownBlock = some p → ¬ Lvs M (.slice (some ⟨g, 0, none⟩) q.length cap) q.length K I p := fun p hp hl => by
      obtain ⟨d1, d2, d3⟩ := h.d q.length (by rw [hlen]; omega) p hp
      rcases hl with hl | hl | ⟨i, hi, hl⟩
      · exact d1 hl
      · exact d2 hl
      · have h9 := d3 i (by rw [hlen]; omega) (by omega)
        rcases hl with hl | hl
        · exact h9.1 hl
        · exact h9.2 hl
    exact Tis.of (val_tbd x) (bsl_none w) (fun h => absurd rfl h) (SSl.own a1 rfl a4 a3) (fun _ p hp => hno p (.inl hp)) a2 (fun _ p hp => hno p (.inr hp)) a5 a6 a7 (fun j u c e1 e2 => (a8 j u c e1 e2).mono hsub)
end
section
open Go.RowKit Go
def zi : Array Value := #[.int .i64 0, .int .i64 0, .int .u64 0, .int .i64 0, .bool false, .slice none 0 0, .string ⟨#[]⟩, .int .i64 0, .int .u64 0, .int .u64 0, .string ⟨#[]⟩]
theorem infoI : (Tryz.prog.info? 89).map (·.size) = some 11 := by kernel_rfl
/-- Where look stands: its answer, the head. -/
structure Lkw (w wx : World) : Prop where
  b : Below w.heap.size w wx
  r : wx.heap[w.heap.size]? = some (.cells zi 89 (0, 0))
theorem Lkw.next {w wx wy : World} (h : Lkw w wx) (hb : Below wx.heap.size wx wy) : Lkw w wy := ⟨h.b.trans (hb.mono h.b.size), (hb.block _ (blk_lt h.r)).trans h.r⟩
theorem end_look {wx : World} {R : Nat} {c : Array Value} {e : Int} {tmps : Array Value} (hn : c.size = 11) (hr : wx.heap[R]? = some (.cells c 89 (0, 0))) (hp : tmps.getD 4 undef = .pointer (some ⟨R, 0, none⟩)) (he : tmps.getD 5 undef = .int .i64 e) : (results Tryz.f85 tmps).run Tryz.prog wx = .ok (.tuple #[.agg c, .int .i64 e]) wx := by
  have h1 := run_loadVar_row (P := Tryz.prog) wx R 89 89 c (0, 0) _ hr Tryz.underlying89 rfl (by rw [hn]; exact infoI)
  refine (results_cell_tmp rfl _ _ _).trans ?_
  rw [hp, he]
  simp [asAddr, h1, Result.andThen]
theorem hrd_bd (b : List Nat) (hb : ∀ x ∈ b, x < 256) : (hrd b).n < 18446744073709551616 ∧ (hrd b).m ≤ 7 ∧ ((hrd b).e = 0 → (hrd b).u ≤ b.length) := by
  cases b with
  | nil => exact ⟨by decide, by decide, fun h => by cases h⟩
  | cons x r =>
    have hx := hb x (List.mem_cons_self ..)
    refine ⟨?_, ?_, fun h => (hrd_app (tl := []) (b := x :: r) (by rw [h]; decide)).2⟩
    · by_cases h1 : 27 < x % 32
      · by_cases h2 : x % 32 = 31 ∧ x / 32 ≠ 0 ∧ x / 32 ≠ 1 ∧ x / 32 ≠ 6
        · rw [hrd_end h2.1 h2.2]; show 0 < _; decide
        · rw [hrd_info h1 h2]; show 0 < _; decide
      · by_cases h2 : x % 32 < 24
        · rw [hrd_small h2]; show x % 32 < _; omega
        · by_cases h3 : r.length < hwide (x % 32)
          · rw [hrd_short (by omega) (by omega) h3]; show 0 < _; decide
          · by_cases h4 : x / 32 = 7 ∧ x % 32 = 24 ∧ bnum 0 (r.take (hwide (x % 32))) < 32
            · rw [hrd_low h4.2.1 h3 h4.1 h4.2.2]; show 0 < _; decide
            · rw [hrd_long (by omega) (by omega) h3 h4]
              show bnum 0 (r.take (hwide (x % 32))) < _
              have h5 := bnum_lt (r.take (hwide (x % 32))) 0 (fun y hy => hb y (List.mem_cons_of_mem _ (List.mem_of_mem_take hy)))
              have h6 : (r.take (hwide (x % 32))).length ≤ 8 := by rw [List.length_take]; have := hwide_le (x % 32); omega
              have h7 : 256 ^ (r.take (hwide (x % 32))).length ≤ 256 ^ 8 := Nat.pow_le_pow_right (by decide) h6
              have h8 : (256 : Nat) ^ 8 = 18446744073709551616 := by decide
              omega
    · by_cases h0 : (hrd (x :: r)).e = 0
      · rw [hrd_m h0]; omega
      · by_cases h1 : 27 < x % 32
        · by_cases h2 : x % 32 = 31 ∧ x / 32 ≠ 0 ∧ x / 32 ≠ 1 ∧ x / 32 ≠ 6
          · rw [hrd_end h2.1 h2.2]; show x / 32 ≤ 7; omega
          · rw [hrd_info h1 h2]; exact Nat.zero_le _
        · by_cases h2 : x % 32 < 24
          · rw [hrd_small h2]; show x / 32 ≤ 7; omega
          · by_cases h3 : r.length < hwide (x % 32)
            · rw [hrd_short (by omega) (by omega) h3]; exact Nat.zero_le _
            · by_cases h4 : x / 32 = 7 ∧ x % 32 = 24 ∧ bnum 0 (r.take (hwide (x % 32))) < 32
              · rw [hrd_low h4.2.1 h3 h4.1 h4.2.2]; exact Nat.zero_le _
              · rw [hrd_long (by omega) (by omega) h3 h4]; show x / 32 ≤ 7; omega
theorem exec_itemAt {o : Oper} {a : Act} {p : Operand} {g : Nat} {h : HR} {vb : Value} {s : ByteArray} {l : Lk} {w : World} (ho : o.op = .load 89 p) (hp : a.eval p = .pointer (some ⟨g, 0, none⟩)) (hg : w.heap[g]? = some (.cells (ics h vb s l) 89 (0, 0))) : (execOp a.eval o).run Tryz.prog w = .ok (.value (.agg (ics h vb s l))) w := by
  have h1 := run_loadVar_row (P := Tryz.prog) w g 89 89 (ics h vb s l) (0, 0) _ hg Tryz.underlying89 rfl infoI
  unfold execOp
  simp only [ho, Sem.run_bind, hp, Instr.loadAt, Instr.sureAddr, Sem.run_pure, Result.andThen, h1]
/-- What look tells. -/
theorem ics_all (h : HR) {vb : Value} (s : ByteArray) (l : Lk) (h1 : vb.oneCell' = true) : (ics h vb s l).all (·.oneCell') = true := by
  rw [Array.all_eq_true']
  intro u hu
  simp only [ics, List.mem_toArray, List.mem_cons, List.not_mem_nil, or_false] at hu
  rcases hu with rfl | rfl | rfl | rfl | rfl | rfl | rfl | rfl | rfl | rfl | rfl <;> first | rfl | exact h1
theorem zi_all : zi.all (·.oneCell') = true := by
  rw [Array.all_eq_true']
  intro u hu
  simp only [zi, List.mem_toArray, List.mem_cons, List.not_mem_nil, or_false] at hu
  rcases hu with rfl | rfl | rfl | rfl | rfl | rfl | rfl | rfl | rfl | rfl | rfl <;> rfl
def LookP (w : World) (want : Nat) (b : List Nat) (e : Ending) (w' : World) : Prop := Below w.heap.size w w' ∧ ∃ c, c.size = 11 ∧ c.all (·.oneCell') = true ∧ e = .returned (.tuple #[.agg c, .int .i64 (rlook want b : Nat)]) ∧ (rlook want b = 0 → ∃ vb, c = ics (hrd b) vb (rtext (hrd b) (rbody b) ⟨#[]⟩) (rlink want (hrd b) (rbody b) ⟨0, 0, 0, []⟩) ∧ BSl w' vb (rbody b))
theorem LookP.bad {w w' : World} {want : Nat} {b : List Nat} {k : Nat} (hb : Below w.heap.size w w') (hk : rlook want b = k) (h0 : k ≠ 0) : LookP w want b (.returned (.tuple #[.agg zi, .int .i64 (k : Nat)])) w' :=
  ⟨hb, zi, rfl, zi_all, by rw [hk], fun h => absurd (hk.symm.trans h) h0⟩
theorem LookP.good {w w' : World} {want : Nat} {b : List Nat} {h : HR} {y : List Nat} {s : ByteArray} {l : Lk} {vb : Value} (hb : Below w.heap.size w w') (hk : rlook want b = 0) (hh : hrd b = h) (hy : rbody b = y) (hs : s = rtext h y ⟨#[]⟩) (hl : l = rlink want h y ⟨0, 0, 0, []⟩) (hv : BSl w' vb y) (h1 : vb.oneCell' = true) : LookP w want b (.returned (.tuple #[.agg (ics h vb s l), .int .i64 0])) w' :=
  ⟨hb, ics h vb s l, rfl, ics_all h s l h1, by rw [hk]; rfl, fun _ => ⟨vb, by rw [hh, hy, hs, hl], by rw [hy]; exact hv⟩⟩
theorem bsl_one {w : World} {v : Value} {xs : List Nat} (h : BSl w v xs) : v.oneCell' = true := by
  obtain ⟨⟨a, c, hv, _⟩, _⟩ := h
  rw [hv]
  rfl
set_option maxRecDepth 1000000 in
set_option maxHeartbeats 4000000 in
theorem look8_any (W : World) (hT : Tabs W) (w : World) (hW : Below W.heap.size W w) (v : Value) (b : List Nat) (hb : BSl w v b) (hbl : b.length ≤ 140737488351232) (want : Nat) :
    Calls Tryz.prog 85 #[v, .int .i64 (want : Nat)] w (LookP w want b) := by
  have HBB := hide hb
  have HT := hide hT
  have HWW := hide hW
  have HQ0 : Hid (Lkw w (w.alloc (.cells zi 89))) := ⟨below_alloc4 w _, heap_alloc_new w _⟩
  obtain ⟨⟨a, cap, rfl, hn2, hc⟩, hmax, hby⟩ := hb
  have HN2 := hide hn2
  clear hT hW hc hn2 hmax hby
  unfold zi at HQ0
  go_enter Tryz.func85, Tryz.ntmps85
  go_wp2_with fail
  generalize w.alloc (.cells #[.int .i64 0, .int .i64 0, .int .u64 0, .int .i64 0, .bool false, .slice none 0 0, .string ⟨#[]⟩, .int .i64 0, .int .u64 0, .int .u64 0, .string ⟨#[]⟩] 89) = w0 at *
  refine (read_any w0 _ b (HBB.out.move (keep_below HQ0.out.b))).mono ?_
  rintro e w1 ⟨rfl, hb1⟩
  have HQ1 := hide (HQ0.out.next hb1)
  have HWX : Hid (w.heap.size < w1.heap.size) := blk_lt HQ1.out.r
  clear hb1 HQ0
  have HRK : Hid (rlook want b = if (hrd b).e = 20 then 82 else if (hrd b).e ≠ 0 ∨ (hrd b).i = 31 then 83 else if ((hrd b).m = 2 ∨ (hrd b).m = 3) ∧ b.length - (hrd b).u < (hrd b).n then 82 else if rmay (hrd b) (rbody b) = false ∨ rfit want (hrd b) (rbody b) = false then 83 else 0) := rfl
  have HRY : Hid (rbody b = if (hrd b).m = 2 ∨ (hrd b).m = 3 then (b.drop (hrd b).u).take (hrd b).n else []) := rfl
  have HHN : Hid ((hrd b).n < 18446744073709551616 ∧ (hrd b).m ≤ 7 ∧ ((hrd b).e = 0 → (hrd b).u ≤ b.length)) := hrd_bd b HBB.out.byte
  generalize hh : hrd b = h at *
  have HHH := hide hh
  clear hh
  obtain ⟨hm, hi, hn, hu, hs, he⟩ := h
  simp only at HRK HRY HHN
  have HQ2 := hide (HQ1.out.next (below_alloc4 w1 (.cells #[.int .i64 (hm : Nat), .int .i64 (hi : Nat), .int .u64 (hn : Nat), .int .i64 (hu : Nat), .bool hs] 87)))
  have HG2 : Hid ((w1.alloc (.cells #[.int .i64 (hm : Nat), .int .i64 (hi : Nat), .int .u64 (hn : Nat), .int .i64 (hu : Nat), .bool hs] 87)).heap[w1.heap.size]? = some (.cells #[.int .i64 (hm : Nat), .int .i64 (hi : Nat), .int .u64 (hn : Nat), .int .i64 (hu : Nat), .bool hs] 87 (0, 0))) := heap_alloc_new w1 _
  have HI1 : Hid ((Tryz.prog.info? 89).map (·.size) = some zi.size) := infoI
  have HA1 : Hid (zi.all (·.oneCell') = true) := zi_all
  simp only [HR.val]
  clear HQ1
  by_cases h20 : he = 20
  · as_aux_lemma =>
    have g1 : ((he : Int) == 20) = true := beq_iff_eq.2 (by omega)
    have HK : Hid (rlook want b = 82) := by show _ = _; rw [HRK.out, if_pos h20]
    have HR2 := hide HQ2.out.r
    clear h20 HRK HRY
    go_wp2_with (refine wpList_storeRow rfl rfl w.heap.size zi zi 89 rfl rfl HR2.out HI1.out rfl HA1.out ?_)
    exact bodyPost_ret (end_look rfl (row_same HR2.out) rfl rfl) rfl (LookP.bad (HQ2.out.b.trans ((row_kp _ _ _).below HQ2.out.b.size (fun q e => by omega))) HK.out (by decide))
  have g1 : ((he : Int) == 20) = false := beq_eq_false_iff_ne.2 (by omega)
  by_cases h0 : he = 0
  case neg => as_aux_lemma =>
    have g2 : ((he : Int) != 0) = true := by rw [bne_iff_ne]; omega
    have HK : Hid (rlook want b = 83) := by show _ = _; rw [HRK.out, if_neg h20, if_pos (.inl h0)]
    have HR2 := hide HQ2.out.r
    clear h20 h0 HRK HRY
    go_wp2_with (refine wpList_storeRow rfl rfl w.heap.size zi zi 89 rfl rfl HR2.out HI1.out rfl HA1.out ?_)
    exact bodyPost_ret (end_look rfl (row_same HR2.out) rfl rfl) rfl (LookP.bad (HQ2.out.b.trans ((row_kp _ _ _).below HQ2.out.b.size (fun q e => by omega))) HK.out (by decide))
  have g2 : ((he : Int) != 0) = false := by rw [bne_eq_false_iff_eq]; omega
  by_cases h31 : hi = 31
  · as_aux_lemma =>
    have g3 : ((hi : Int) == 31) = true := beq_iff_eq.2 (by omega)
    have HK : Hid (rlook want b = 83) := by show _ = _; rw [HRK.out, if_neg h20, if_pos (.inr h31)]
    have HR2 := hide HQ2.out.r
    clear h20 h0 h31 HRK HRY
    go_wp2_with (refine wpList_storeRow rfl rfl w.heap.size zi zi 89 rfl rfl HR2.out HI1.out rfl HA1.out ?_)
    exact bodyPost_ret (end_look rfl (row_same HR2.out) rfl rfl) rfl (LookP.bad (HQ2.out.b.trans ((row_kp _ _ _).below HQ2.out.b.size (fun q e => by omega))) HK.out (by decide))
  have g3 : ((hi : Int) == 31) = false := beq_eq_false_iff_ne.2 (by omega)
  have HRK2 : Hid (rlook want b = if (hm = 2 ∨ hm = 3) ∧ b.length - hu < hn then 82 else if rmay ⟨hm, hi, hn, hu, hs, he⟩ (rbody b) = false ∨ rfit want ⟨hm, hi, hn, hu, hs, he⟩ (rbody b) = false then 83 else 0) := by
    show _ = _
    rw [HRK.out, if_neg h20, if_neg (by omega)]
  have HUB : Hid (hu ≤ b.length) := HHN.out.2.2 h0
  clear HRK h20 h31 h0
  have HG3 : Hid (((w1.alloc (.cells #[.int .i64 (hm : Nat), .int .i64 (hi : Nat), .int .u64 (hn : Nat), .int .i64 (hu : Nat), .bool hs] 87)).alloc (.cells #[.int .i64 (hm : Nat), .int .i64 (hi : Nat), .int .u64 (hn : Nat), .int .i64 (hu : Nat), .bool hs, .slice none 0 0, .string ⟨#[]⟩, .int .i64 0, .int .u64 0, .int .u64 0, .string ⟨#[]⟩] 89)).heap[w1.heap.size + 1]? = some (.cells (ics ⟨hm, hi, hn, hu, hs, he⟩ (.slice none 0 0) ⟨#[]⟩ ⟨0, 0, 0, []⟩) 89 (0, 0))) := by
    have h := heap_alloc_new (w1.alloc (.cells #[.int .i64 (hm : Nat), .int .i64 (hi : Nat), .int .u64 (hn : Nat), .int .i64 (hu : Nat), .bool hs] 87)) (.cells #[.int .i64 (hm : Nat), .int .i64 (hi : Nat), .int .u64 (hn : Nat), .int .i64 (hu : Nat), .bool hs, .slice none 0 0, .string ⟨#[]⟩, .int .i64 0, .int .u64 0, .int .u64 0, .string ⟨#[]⟩] 89)
    have e : (w1.alloc (.cells #[.int .i64 (hm : Nat), .int .i64 (hi : Nat), .int .u64 (hn : Nat), .int .i64 (hu : Nat), .bool hs] 87)).heap.size = w1.heap.size + 1 := by simp
    rw [e] at h
    exact h
  have HQ3 := hide (HQ2.out.next (below_alloc4 _ (.cells #[.int .i64 (hm : Nat), .int .i64 (hi : Nat), .int .u64 (hn : Nat), .int .i64 (hu : Nat), .bool hs, .slice none 0 0, .string ⟨#[]⟩, .int .i64 0, .int .u64 0, .int .u64 0, .string ⟨#[]⟩] 89)))
  have HGH := hide (blk_alloc (.cells #[.int .i64 (hm : Nat), .int .i64 (hi : Nat), .int .u64 (hn : Nat), .int .i64 (hu : Nat), .bool hs, .slice none 0 0, .string ⟨#[]⟩, .int .i64 0, .int .u64 0, .int .u64 0, .string ⟨#[]⟩] 89) HG2.out)
  go_upto_region 7 with fail
  generalize (w1.alloc (.cells #[.int .i64 (hm : Nat), .int .i64 (hi : Nat), .int .u64 (hn : Nat), .int .i64 (hu : Nat), .bool hs] 87)).alloc (.cells #[.int .i64 (hm : Nat), .int .i64 (hi : Nat), .int .u64 (hn : Nat), .int .i64 (hu : Nat), .bool hs, .slice none 0 0, .string ⟨#[]⟩, .int .i64 0, .int .u64 0, .int .u64 0, .string ⟨#[]⟩] 89) = w3 at *
  clear HQ2 HG2
  have d0 : w3.cell? ⟨w1.heap.size, 0, none⟩ = some (.int .i64 (hm : Nat)) := blk_cell HGH.out rfl
  by_cases hs2 : hm = 2 ∨ hm = 3
  · as_aux_lemma =>
    have HDR := hide (bsl_drop8 (k := hu) HBB.out HUB.out)
    obtain ⟨a2, n2, c2, hd2, hn2, hc2⟩ : ∃ a2 n2 c2, dropS a b.length cap hu = .slice a2 n2 c2 ∧ n2 = b.length - hu ∧ n2 ≤ c2 := by
      obtain ⟨⟨a2, c2, h1, h2, _⟩, _⟩ := HDR.out
      rw [List.length_drop] at h1 h2
      exact ⟨a2, _, c2, h1, rfl, h2.1⟩
    have HD2 := hide hd2
    rw [hd2] at HDR
    have HC2 := hide hc2
    have d2 : w3.cell? ⟨w1.heap.size, 2, none⟩ = some (.int .u64 (hn : Nat)) := blk_cell HGH.out rfl
    have d3 : w3.cell? ⟨w1.heap.size, 3, none⟩ = some (.int .i64 (hu : Nat)) := blk_cell HGH.out rfl
    have HS2 := hide hs2
    go_cut [35] from 28 to 35 (fun bb wx => bb = .bool true ∧ wx = w3)
    case first => as_aux_lemma =>
      by_cases hm2 : hm = 2
      · as_aux_lemma =>
        have g4 : ((hm : Int) == 2) = true := beq_iff_eq.2 (by omega)
        go_wp2_with fail
        go_meet
        case rel => exact ⟨rfl, rfl⟩
      · as_aux_lemma =>
        have g4 : ((hm : Int) == 2) = false := beq_eq_false_iff_ne.2 (by omega)
        have g5 : ((hm : Int) == 3) = true := beq_iff_eq.2 (by have := HS2.out; omega)
        go_wp2_with fail
        go_meet
        case rel => exact ⟨rfl, rfl⟩
    obtain ⟨rfl, hwc⟩ := hcut
    have hwc2 := hwc.symm
    subst hwc2
    have gw : IntKind.u64.wrap (n2 : Int) = (n2 : Int) := by rw [IntKind.wrap_u64]; omega
    by_cases hlt : n2 < hn
    · as_aux_lemma =>
      have g6 : (n2 : Int) < (hn : Int) := by omega
      have HK : Hid (rlook want b = 82) := by show _ = _; rw [HRK2.out, if_pos ⟨HS2.out, by omega⟩]
      have HR2 := hide HQ3.out.r
      have HEX : Hid (hu ≤ b.length ∧ b.length ≤ cap ∧ (a = none → cap = 0)) := ⟨HUB.out, HN2.out.1, HN2.out.2⟩
      clear hlt HRK2 HRY hs2
      go_wp2_with (first
        | (refine wpList_exec rfl (v := .slice a2 n2 c2) (by rw [← HD2.out]; exact exec_drop (k := hu) rfl rfl rfl HEX.out.1 HEX.out.2.1 HEX.out.2.2) ?_)
        | (refine wpList_storeRow rfl rfl w.heap.size zi zi 89 rfl rfl HR2.out HI1.out rfl HA1.out ?_))
      exact bodyPost_ret (end_look rfl (row_same HR2.out) rfl rfl) rfl (LookP.bad (HQ3.out.b.trans ((row_kp _ _ _).below HQ3.out.b.size (fun q e => by omega))) HK.out (by decide))
    have g6 : ¬ (n2 : Int) < (hn : Int) := by omega
    have HRK3 : Hid (rlook want b = if rmay ⟨hm, hi, hn, hu, hs, he⟩ (rbody b) = false ∨ rfit want ⟨hm, hi, hn, hu, hs, he⟩ (rbody b) = false then 83 else 0) := by show _ = _; rw [HRK2.out, if_neg (fun h => hlt (by have := h.2; omega))]
    have HYE : Hid (rbody b = (b.drop hu).take hn) := by show _ = _; rw [HRY.out, if_pos HS2.out]
    have HBV : Hid (BSl w (.slice a2 hn c2) (rbody b)) := by
      rw [HYE.out]
      exact bsl_take8 HDR.out (by rw [List.length_drop]; omega)
    have HYL : Hid ((rbody b).length ≤ 140737488351232) := by
      show _ ≤ _
      rw [HYE.out, List.length_take, List.length_drop]
      omega
    have HEX : Hid (hu ≤ b.length ∧ b.length ≤ cap ∧ (a = none → cap = 0)) := ⟨HUB.out, HN2.out.1, HN2.out.2⟩
    have HEY : Hid (hn ≤ n2 ∧ n2 ≤ c2) := ⟨by omega, HC2.out⟩
    have c5 : w3.cell? ⟨w1.heap.size + 1, 5, none⟩ = some (.slice none 0 0) := blk_cell HG3.out rfl
    have f5 := blk_frozen 5 HG3.out
    have hst := item_set 5 (.slice a2 hn c2) HG3.out
    have HG5 : Hid ((w3.setCell ⟨w1.heap.size + 1, 5, none⟩ (.slice a2 hn c2)).heap[w1.heap.size + 1]? = some (.cells (ics ⟨hm, hi, hn, hu, hs, he⟩ (.slice a2 hn c2) ⟨#[]⟩ ⟨0, 0, 0, []⟩) 89 (0, 0))) := hst.1
    have HQ5 : Hid (Lkw w (w3.setCell ⟨w1.heap.size + 1, 5, none⟩ (.slice a2 hn c2))) := ⟨HQ3.out.b.trans (hst.2.below HQ3.out.b.size (fun q e => by have := HWX.out; omega)), (hst.2.block _ (blk_lt HQ3.out.r) (by have := HWX.out; omega)).trans HQ3.out.r⟩
    clear hst hlt HRK2 HRY HYE hs2 HS2
    go_upto_region 12 with (first
      | (refine wpList_exec rfl (v := .slice a2 n2 c2) (by rw [← HD2.out]; exact exec_drop (k := hu) rfl rfl rfl HEX.out.1 HEX.out.2.1 HEX.out.2.2) ?_)
      | (refine wpList_exec rfl (v := .slice a2 hn c2) (exec_take (k := hn) rfl rfl rfl HEY.out.1 HEY.out.2) ?_))
    generalize w3.setCell ⟨w1.heap.size + 1, 5, none⟩ (.slice a2 hn c2) = w5 at *
    have HQ6b : Hid (W.heap.size ≤ w1.heap.size + 1) := by have := HWW.out.size; have := HWX.out; show _ ≤ _; omega
    go_wp2_with fail
    refine (maybe_any W HT.out w5 (HWW.out.trans (HQ5.out.b.mono HWW.out.size)) (w1.heap.size + 1) HQ6b.out ⟨hm, hi, hn, hu, hs, he⟩ (.slice a2 hn c2) (rbody b) ⟨#[]⟩ ⟨0, 0, 0, []⟩ HG5.out (HBV.out.move (keep_below HQ5.out.b)) HYL.out HHN.out.1).mono ?_
    rintro e w6 ⟨rfl, hg6, hk6⟩
    have HG6 := hide hg6
    have HQ6 : Hid (Lkw w w6) := ⟨HQ5.out.b.trans (hk6.below HQ5.out.b.size (fun q e => by have := HWX.out; omega)), (hk6.block _ (blk_lt HQ5.out.r) (by have := HWX.out; omega)).trans HQ5.out.r⟩
    clear hg6 hk6
    by_cases hmb : rmay ⟨hm, hi, hn, hu, hs, he⟩ (rbody b) = false
    · as_aux_lemma =>
      rw [hmb]
      have HK : Hid (rlook want b = 83) := by show _ = _; rw [HRK3.out, if_pos (.inl hmb)]
      have HR2 := hide HQ6.out.r
      clear hmb HRK3
      go_wp2_with (refine wpList_storeRow rfl rfl w.heap.size zi zi 89 rfl rfl HR2.out HI1.out rfl HA1.out ?_)
      exact bodyPost_ret (end_look rfl (row_same HR2.out) rfl rfl) rfl (LookP.bad (HQ6.out.b.trans ((row_kp _ _ _).below HQ6.out.b.size (fun q e => by omega))) HK.out (by decide))
    have HMB : Hid (rmay ⟨hm, hi, hn, hu, hs, he⟩ (rbody b) = true) := by show _ = _; simpa using hmb
    rw [HMB.out]
    clear hmb
    go_wp2_with fail
    refine (fits8_any w6 (w1.heap.size + 1) want ⟨hm, hi, hn, hu, hs, he⟩ (.slice a2 hn c2) (rbody b) _ ⟨0, 0, 0, []⟩ HG6.out (HBV.out.move (keep_below HQ6.out.b)) HYL.out).mono ?_
    rintro e w7 ⟨rfl, hg7, hk7⟩
    have HG7 := hide hg7
    have HQ7 : Hid (Lkw w w7) := ⟨HQ6.out.b.trans (hk7.below HQ6.out.b.size (fun q e => by have := HWX.out; omega)), (hk7.block _ (blk_lt HQ6.out.r) (by have := HWX.out; omega)).trans HQ6.out.r⟩
    clear hg7 hk7 HQ6 HG6
    have HR2 := hide HQ7.out.r
    by_cases hft : rfit want ⟨hm, hi, hn, hu, hs, he⟩ (rbody b) = false
    · as_aux_lemma =>
      rw [hft]
      have HK : Hid (rlook want b = 83) := by show _ = _; rw [HRK3.out, if_pos (.inr hft)]
      clear hft HRK3
      go_wp2_with (refine wpList_storeRow rfl rfl w.heap.size zi zi 89 rfl rfl HR2.out HI1.out rfl HA1.out ?_)
      exact bodyPost_ret (end_look rfl (row_same HR2.out) rfl rfl) rfl (LookP.bad (HQ7.out.b.trans ((row_kp _ _ _).below HQ7.out.b.size (fun q e => by omega))) HK.out (by decide))
    have HFT : Hid (rfit want ⟨hm, hi, hn, hu, hs, he⟩ (rbody b) = true) := by show _ = _; simpa using hft
    rw [HFT.out]
    have HK : Hid (rlook want b = 0) := by show _ = _; rw [HRK3.out, if_neg (by rw [HMB.out, HFT.out]; simp)]
    have HV1 := hide (bsl_one HBV.out)
    have HA3 := hide (ics_all (⟨hm, hi, hn, hu, hs, he⟩ : HR) (rtext ⟨hm, hi, hn, hu, hs, he⟩ (rbody b) ⟨#[]⟩) (rlink want ⟨hm, hi, hn, hu, hs, he⟩ (rbody b) ⟨0, 0, 0, []⟩) HV1.out)
    have HI3 : Hid ((Tryz.prog.info? 89).map (·.size) = some (ics ⟨hm, hi, hn, hu, hs, he⟩ (.slice a2 hn c2) (rtext ⟨hm, hi, hn, hu, hs, he⟩ (rbody b) ⟨#[]⟩) (rlink want ⟨hm, hi, hn, hu, hs, he⟩ (rbody b) ⟨0, 0, 0, []⟩)).size) := infoI
    have HZ3 : Hid (zi.size = (ics ⟨hm, hi, hn, hu, hs, he⟩ (.slice a2 hn c2) (rtext ⟨hm, hi, hn, hu, hs, he⟩ (rbody b) ⟨#[]⟩) (rlink want ⟨hm, hi, hn, hu, hs, he⟩ (rbody b) ⟨0, 0, 0, []⟩)).size) := rfl
    clear hft
    go_wp2_with (first
      | (refine wpList_exec rfl (exec_itemAt (g := w1.heap.size + 1) rfl rfl HG7.out) ?_)
      | (refine wpList_storeRow rfl rfl w.heap.size zi (ics ⟨hm, hi, hn, hu, hs, he⟩ (.slice a2 hn c2) (rtext ⟨hm, hi, hn, hu, hs, he⟩ (rbody b) ⟨#[]⟩) (rlink want ⟨hm, hi, hn, hu, hs, he⟩ (rbody b) ⟨0, 0, 0, []⟩)) 89 rfl rfl HR2.out HI3.out HZ3.out HA3.out ?_))
    have hbz : Below w.heap.size w (w7.setRow w.heap.size (ics ⟨hm, hi, hn, hu, hs, he⟩ (.slice a2 hn c2) (rtext ⟨hm, hi, hn, hu, hs, he⟩ (rbody b) ⟨#[]⟩) (rlink want ⟨hm, hi, hn, hu, hs, he⟩ (rbody b) ⟨0, 0, 0, []⟩))) := HQ7.out.b.trans ((row_kp _ _ _).below HQ7.out.b.size (fun q e => by omega))
    exact bodyPost_ret (end_look rfl (row_same HR2.out) rfl rfl) rfl (LookP.good hbz HK.out HHH.out rfl rfl rfl (HBV.out.move (keep_below hbz)) HV1.out)
  · as_aux_lemma =>
    have g4 : ((hm : Int) == 2) = false := beq_eq_false_iff_ne.2 (by omega)
    have g5 : ((hm : Int) == 3) = false := beq_eq_false_iff_ne.2 (by omega)
    have HRK3 : Hid (rlook want b = if rmay ⟨hm, hi, hn, hu, hs, he⟩ (rbody b) = false ∨ rfit want ⟨hm, hi, hn, hu, hs, he⟩ (rbody b) = false then 83 else 0) := by show _ = _; rw [HRK2.out, if_neg (fun h => hs2 h.1)]
    have HYE : Hid (rbody b = []) := by show _ = _; rw [HRY.out, if_neg hs2]
    have HBV : Hid (BSl w (.slice none 0 0) (rbody b)) := by rw [HYE.out]; exact bsl_none w
    have HYL : Hid ((rbody b).length ≤ 140737488351232) := by rw [HYE.out]; exact Nat.zero_le _
    clear HRK2 hs2 HRY HYE
    go_upto_region 12 with fail
    have HQ6b : Hid (W.heap.size ≤ w1.heap.size + 1) := by have := HWW.out.size; have := HWX.out; show _ ≤ _; omega
    go_wp2_with fail
    refine (maybe_any W HT.out w3 (HWW.out.trans (HQ3.out.b.mono HWW.out.size)) (w1.heap.size + 1) HQ6b.out ⟨hm, hi, hn, hu, hs, he⟩ (.slice none 0 0) (rbody b) ⟨#[]⟩ ⟨0, 0, 0, []⟩ HG3.out (HBV.out.move (keep_below HQ3.out.b)) HYL.out HHN.out.1).mono ?_
    rintro e w6 ⟨rfl, hg6, hk6⟩
    have HG6 := hide hg6
    have HQ6 : Hid (Lkw w w6) := ⟨HQ3.out.b.trans (hk6.below HQ3.out.b.size (fun q e => by have := HWX.out; omega)), (hk6.block _ (blk_lt HQ3.out.r) (by have := HWX.out; omega)).trans HQ3.out.r⟩
    clear hg6 hk6
    by_cases hmb : rmay ⟨hm, hi, hn, hu, hs, he⟩ (rbody b) = false
    · as_aux_lemma =>
      rw [hmb]
      have HK : Hid (rlook want b = 83) := by show _ = _; rw [HRK3.out, if_pos (.inl hmb)]
      have HR2 := hide HQ6.out.r
      clear hmb HRK3
      go_wp2_with (refine wpList_storeRow rfl rfl w.heap.size zi zi 89 rfl rfl HR2.out HI1.out rfl HA1.out ?_)
      exact bodyPost_ret (end_look rfl (row_same HR2.out) rfl rfl) rfl (LookP.bad (HQ6.out.b.trans ((row_kp _ _ _).below HQ6.out.b.size (fun q e => by omega))) HK.out (by decide))
    have HMB : Hid (rmay ⟨hm, hi, hn, hu, hs, he⟩ (rbody b) = true) := by show _ = _; simpa using hmb
    rw [HMB.out]
    clear hmb
    go_wp2_with fail
    refine (fits8_any w6 (w1.heap.size + 1) want ⟨hm, hi, hn, hu, hs, he⟩ (.slice none 0 0) (rbody b) _ ⟨0, 0, 0, []⟩ HG6.out (HBV.out.move (keep_below HQ6.out.b)) HYL.out).mono ?_
    rintro e w7 ⟨rfl, hg7, hk7⟩
    have HG7 := hide hg7
    have HQ7 : Hid (Lkw w w7) := ⟨HQ6.out.b.trans (hk7.below HQ6.out.b.size (fun q e => by have := HWX.out; omega)), (hk7.block _ (blk_lt HQ6.out.r) (by have := HWX.out; omega)).trans HQ6.out.r⟩
    clear hg7 hk7 HQ6 HG6
    have HR2 := hide HQ7.out.r
    by_cases hft : rfit want ⟨hm, hi, hn, hu, hs, he⟩ (rbody b) = false
    · as_aux_lemma =>
      rw [hft]
      have HK : Hid (rlook want b = 83) := by show _ = _; rw [HRK3.out, if_pos (.inr hft)]
      clear hft HRK3
      go_wp2_with (refine wpList_storeRow rfl rfl w.heap.size zi zi 89 rfl rfl HR2.out HI1.out rfl HA1.out ?_)
      exact bodyPost_ret (end_look rfl (row_same HR2.out) rfl rfl) rfl (LookP.bad (HQ7.out.b.trans ((row_kp _ _ _).below HQ7.out.b.size (fun q e => by omega))) HK.out (by decide))
    have HFT : Hid (rfit want ⟨hm, hi, hn, hu, hs, he⟩ (rbody b) = true) := by show _ = _; simpa using hft
    rw [HFT.out]
    have HK : Hid (rlook want b = 0) := by show _ = _; rw [HRK3.out, if_neg (by rw [HMB.out, HFT.out]; simp)]
    have HV1 := hide (bsl_one HBV.out)
    have HA3 := hide (ics_all (⟨hm, hi, hn, hu, hs, he⟩ : HR) (rtext ⟨hm, hi, hn, hu, hs, he⟩ (rbody b) ⟨#[]⟩) (rlink want ⟨hm, hi, hn, hu, hs, he⟩ (rbody b) ⟨0, 0, 0, []⟩) HV1.out)
    have HI3 : Hid ((Tryz.prog.info? 89).map (·.size) = some (ics ⟨hm, hi, hn, hu, hs, he⟩ (.slice none 0 0) (rtext ⟨hm, hi, hn, hu, hs, he⟩ (rbody b) ⟨#[]⟩) (rlink want ⟨hm, hi, hn, hu, hs, he⟩ (rbody b) ⟨0, 0, 0, []⟩)).size) := infoI
    have HZ3 : Hid (zi.size = (ics ⟨hm, hi, hn, hu, hs, he⟩ (.slice none 0 0) (rtext ⟨hm, hi, hn, hu, hs, he⟩ (rbody b) ⟨#[]⟩) (rlink want ⟨hm, hi, hn, hu, hs, he⟩ (rbody b) ⟨0, 0, 0, []⟩)).size) := rfl
    clear hft
    go_wp2_with (first
      | (refine wpList_exec rfl (exec_itemAt (g := w1.heap.size + 1) rfl rfl HG7.out) ?_)
      | (refine wpList_storeRow rfl rfl w.heap.size zi (ics ⟨hm, hi, hn, hu, hs, he⟩ (.slice none 0 0) (rtext ⟨hm, hi, hn, hu, hs, he⟩ (rbody b) ⟨#[]⟩) (rlink want ⟨hm, hi, hn, hu, hs, he⟩ (rbody b) ⟨0, 0, 0, []⟩)) 89 rfl rfl HR2.out HI3.out HZ3.out HA3.out ?_))
    have hbz : Below w.heap.size w (w7.setRow w.heap.size (ics ⟨hm, hi, hn, hu, hs, he⟩ (.slice none 0 0) (rtext ⟨hm, hi, hn, hu, hs, he⟩ (rbody b) ⟨#[]⟩) (rlink want ⟨hm, hi, hn, hu, hs, he⟩ (rbody b) ⟨0, 0, 0, []⟩))) := HQ7.out.b.trans ((row_kp _ _ _).below HQ7.out.b.size (fun q e => by omega))
    exact bodyPost_ret (end_look rfl (row_same HR2.out) rfl rfl) rfl (LookP.good hbz HK.out HHH.out rfl rfl rfl (HBV.out.move (keep_below hbz)) HV1.out)
end
end Go.Proofs.YtdejcapbggjjgaaGreatDoor
