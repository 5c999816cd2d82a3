import Derived.Test.YtadilnmkjcmnnaaGreatDoorJi
import Derived.Test.YtadilnmkjcmnnaaGreatDoorJq
import Derived.Test.YtadilnmkjcmnnaaGreatDoorJr
import Derived.Laws.Bits64
import Derived.Test.YtadilnmkjcmnnaaGreatDoorJg
import Derived.Test.YtadilnmkjcmnnaaGreatDoorJd
import Derived.Test.YtadilnmkjcmnnaaGreatDoorJm
import Derived.Test.YtadilnmkjcmnnaaGreatDoorJl
namespace Go.Proofs.YtadilnmkjcmnnaaGreatDoor
section
open Go.RowKit Go
/-! ### An item that is looked at, in memory -/
def ics (h : HR) (vb : Value) (s : ByteArray) (l : Lk) : Array Value := #[.int .i64 (h.m : Nat), .int .i64 (h.i : Nat), .int .u64 (h.n : Nat), .int .i64 (h.u : Nat), .bool h.s, vb, .string s, .int .i64 l.v, .int .u64 (l.c : Nat), .int .u64 (l.h : Nat), .string (nstr l.d)]
theorem exp_and (n : Nat) (hn : n < 18446744073709551616) : (IntKind.u64.wrap ((BitVec.ofInt 64 (n : Int) &&& BitVec.ofInt 64 9218868437227405312).toNat : Nat) != 9218868437227405312) = finb n := by
  have e : (BitVec.ofInt 64 (n : Int) &&& BitVec.ofInt 64 9218868437227405312).toNat = n / 4503599627370496 % 2048 * 4503599627370496 := by
    have h1 : (BitVec.ofInt 64 (n : Int)).toNat = n := by
      rw [BitVec.toNat_ofInt]
      omega
    have h2 : (BitVec.ofInt 64 9218868437227405312).toNat = 9218868437227405312 := by decide
    rw [BitVec.toNat_and, h1, h2]
    have h3 : (9218868437227405312 : Nat) = 2047 * 2 ^ 52 := by decide
    have h4 : n &&& (2047 * 2 ^ 52) = ((n >>> 52) &&& 2047) <<< 52 := by
      apply Nat.eq_of_testBit_eq
      intro i
      rw [Nat.testBit_and, Nat.testBit_shiftLeft, Nat.testBit_and, Nat.testBit_shiftRight, ← Nat.shiftLeft_eq, Nat.testBit_shiftLeft]
      by_cases hi : 52 ≤ i
      · simp [hi, Nat.add_sub_cancel' hi]
      · simp [hi]
    rw [h3, h4, Nat.shiftLeft_eq, Nat.shiftRight_eq_div_pow, show (2047 : Nat) = 2 ^ 11 - 1 by decide, Nat.and_two_pow_sub_one_eq_mod]
  rw [e]
  unfold finb
  rw [Bool.eq_iff_iff]
  have hw : IntKind.u64.wrap (((n / 4503599627370496 % 2048 * 4503599627370496 : Nat) : Int)) = ((n / 4503599627370496 % 2048 * 4503599627370496 : Nat) : Int) := by
    rw [IntKind.wrap_u64]; omega
  rw [hw]
  simp only [bne_iff_ne, ne_eq, decide_eq_true_eq]
  omega
set_option maxRecDepth 1000000 in
theorem known_any (w : World) (g : Nat) (h : HR) (vb : Value) (s : ByteArray) (l : Lk) (hg : w.heap[g]? = some (.cells (ics h vb s l) 115 (0, 0))) (hn : h.n < 18446744073709551616) :
    Calls Tryz.prog 175 #[.pointer (some ⟨g, 0, none⟩)] w fun e w' => e = .returned (.bool (rknown h)) ∧ w' = w := by
  have c1 : w.cell? ⟨g, 1, none⟩ = some (.int .i64 (h.i : Nat)) := blk_cell (j := 1) hg rfl
  have c2 : w.cell? ⟨g, 2, none⟩ = some (.int .u64 (h.n : Nat)) := blk_cell (j := 2) hg rfl
  have HE := hide (exp_and h.n hn)
  by_cases h20 : h.i = 20
  · have g1 : ((h.i : Int) == 20) = true := beq_iff_eq.2 (by omega)
    have e : rknown h = true := by unfold rknown; simp [h20]
    rw [e]
    go_enter Tryz.func175, Tryz.ntmps175
    go_wp2
    go_ret
    exact ⟨rfl, rfl⟩
  have g1 : ((h.i : Int) == 20) = false := beq_eq_false_iff_ne.2 (by omega)
  by_cases h21 : h.i = 21
  · have g2 : ((h.i : Int) == 21) = true := beq_iff_eq.2 (by omega)
    have e : rknown h = true := by unfold rknown; simp [h21]
    rw [e]
    go_enter Tryz.func175, Tryz.ntmps175
    go_wp2
    go_ret
    exact ⟨rfl, rfl⟩
  have g2 : ((h.i : Int) == 21) = false := beq_eq_false_iff_ne.2 (by omega)
  by_cases h22 : h.i = 22
  · have g3 : ((h.i : Int) == 22) = true := beq_iff_eq.2 (by omega)
    have e : rknown h = true := by unfold rknown; simp [h22]
    rw [e]
    go_enter Tryz.func175, Tryz.ntmps175
    go_wp2
    go_ret
    exact ⟨rfl, rfl⟩
  have g3 : ((h.i : Int) == 22) = false := beq_eq_false_iff_ne.2 (by omega)
  by_cases h27 : h.i = 27
  · have g4 : ((h.i : Int) == 27) = true := beq_iff_eq.2 (by omega)
    have e : rknown h = finb h.n := by unfold rknown; simp [h27]
    rw [e]
    clear h27 h20 h21 h22 e
    go_enter Tryz.func175, Tryz.ntmps175
    go_wp2
    go_ret
    refine ⟨?_, rfl⟩
    rw [← HE.out]
    rfl
  · have g4 : ((h.i : Int) == 27) = false := beq_eq_false_iff_ne.2 (by omega)
    have e : rknown h = false := by unfold rknown; simp [h20, h21, h22, h27]
    rw [e]
    go_enter Tryz.func175, Tryz.ntmps175
    go_wp2
    go_ret
    exact ⟨rfl, rfl⟩
end
section
open Go.RowKit Go
theorem wpList_exec {ops : Array Oper} {rest : List Oper} {o : Oper} {a : Act} {Q : Exit → Act → World → Prop} {w : World} {v : Value} (hgd : o.guard = none) (hr : (execOp a.eval o).run Tryz.prog w = .ok (.value v) w) (h : wpList Tryz.prog ops Q rest (a.put o.dst v) w) : wpList Tryz.prog ops Q (o :: rest) a w := by
  refine wpList_plain hgd fun K hK => ?_
  unfold Oper.wp
  rw [hr]
  exact hK _ _ h
/-- b[k:]. -/
def dropS (ad : Option Addr) (n cap k : Nat) : Value := match ad with
  | none => .slice none 0 0
  | some p => if cap = k then .slice (some p) 0 0 else .slice (some (p.add k)) (n - k) (cap - k)
theorem bsl_drop8 {w : World} {ad : Option Addr} {n cap k : Nat} {xs : List Nat} (h : BSl w (.slice ad n cap) xs) (hk : k ≤ xs.length) : BSl w (dropS ad n cap k) (xs.drop k) := by
  obtain ⟨⟨ad', cap', hv, hn, hc⟩, hmax, hby⟩ := h
  injection hv with e1 e2 e3
  subst e1 e2 e3
  have hlen : (xs.drop k).length = xs.length - k := List.length_drop
  cases ad with
  | none =>
    have hc0 := hn.2 rfl
    have e : xs.drop k = [] := List.drop_of_length_le (by omega)
    rw [e]
    exact ⟨⟨none, 0, rfl, ⟨Nat.le_refl _, fun _ => rfl⟩, .inl rfl⟩, by simp, by simp⟩
  | some p =>
    unfold dropS
    simp only
    by_cases hkk : cap = k
    · rw [if_pos hkk]
      have e : xs.drop k = [] := List.drop_of_length_le (by omega)
      rw [e]
      exact ⟨⟨some p, 0, rfl, ⟨Nat.le_refl _, fun e => by cases e⟩, .inl rfl⟩, by simp, by simp⟩
    · rw [if_neg hkk]
      refine ⟨⟨some (p.add k), cap - k, by rw [hlen], ⟨by rw [hlen]; omega, fun e => by cases e⟩, ?_⟩, by rw [hlen]; omega, fun z hz => hby z (List.mem_of_mem_drop hz)⟩
      rcases hc with hx0 | ⟨b, off, e, hcell⟩
      · left
        rw [hx0]
        simp
      · right
        injection e with e
        subst e
        have hadd : (⟨b, off, none⟩ : Addr).add k = ⟨b, off + k, none⟩ := by unfold Addr.add; split <;> simp_all
        rw [hadd]
        refine ⟨b, off + k, rfl, fun j hj => ?_⟩
        rw [hlen] at hj
        have h2 := hcell (k + j) (by omega)
        rw [← Nat.add_assoc] at h2
        rw [h2]
        simp [List.getD, List.getElem?_drop]
set_option maxRecDepth 1000000 in
theorem exec_drop {o : Oper} {a : Act} {x y : Operand} {w : World} {ad : Option Addr} {n cap k : Nat} (ho : o.op = .slice 46 x (some y) none none) (hx : a.eval x = .slice ad n cap) (hy : a.eval y = .int .i64 (k : Nat)) (hk : k ≤ n) (hn : n ≤ cap) (hz : ad = none → cap = 0) : (execOp a.eval o).run Tryz.prog w = .ok (.value (dropS ad n cap k)) w := by
  unfold execOp
  simp only [ho, Option.map_some, Option.map_none, hx, hy]
  clear ho
  have hki : (k : Int) ≤ (n : Int) := by omega
  have hkc : (k : Int) ≤ (cap : Int) := by omega
  cases ad with
  | none =>
    have hc0 := hz rfl
    have hn0 : n = 0 := by omega
    have hk0 : k = 0 := by omega
    subst hk0 hn0 hc0
    unfold dropS
    go_simp
  | some p =>
    unfold dropS
    by_cases hkk : cap = k
    · have hnk : n = k := by omega
      subst hkk hnk
      simp only [if_true]
      go_simp
    · have hkl : (k : Int) < (cap : Int) := by omega
      simp only [if_neg hkk]
      go_simp
set_option maxRecDepth 1000000 in
theorem exec_take {o : Oper} {a : Act} {x y : Operand} {w : World} {ad : Option Addr} {n cap k : Nat} (ho : o.op = .slice 46 x none (some y) none) (hx : a.eval x = .slice ad n cap) (hy : a.eval y = .int .u64 (k : Nat)) (hk : k ≤ n) (hn : n ≤ cap) : (execOp a.eval o).run Tryz.prog w = .ok (.value (.slice ad k cap)) w := by
  unfold execOp
  simp only [ho, Option.map_some, Option.map_none, hx, hy]
  clear ho
  have hki : (k : Int) ≤ (n : Int) := by omega
  have hkc : (k : Int) ≤ (cap : Int) := by omega
  go_simp
theorem bsl_take8 {w : World} {ad : Option Addr} {n cap k : Nat} {xs : List Nat} (h : BSl w (.slice ad n cap) xs) (hk : k ≤ xs.length) : BSl w (.slice ad k cap) (xs.take k) := by
  obtain ⟨⟨ad', cap', hv, hn, hc⟩, hmax, hby⟩ := h
  injection hv with e1 e2 e3
  subst e1 e2 e3
  have hlen : (xs.take k).length = k := by rw [List.length_take]; omega
  refine ⟨⟨ad, cap, by rw [hlen], ⟨by rw [hlen]; omega, hn.2⟩, ?_⟩, by rw [hlen]; omega, fun z hz => hby z (List.mem_of_mem_take hz)⟩
  rcases hc with hx0 | ⟨b, off, e, hcell⟩
  · left
    rw [hx0]
    simp
  · right
    refine ⟨b, off, e, fun j hj => ?_⟩
    rw [hlen] at hj
    rw [hcell j (by omega)]
    simp [List.getD, hj]
end
section
open Go.RowKit Go
theorem item_set {w : World} {g : Nat} {c : Array Value} (k : Nat) (v : Value) (hg : w.heap[g]? = some (.cells c 115 (0, 0))) : (w.setCell ⟨g, k, none⟩ v).heap[g]? = some (.cells (c.setIfInBounds k v) 115 (0, 0)) ∧ Kp (fun q => q = g) w (w.setCell ⟨g, k, none⟩ v) :=
  ⟨blk_set k v hg, (Kp.refl _ w).setCell _ _ (fun _ => rfl)⟩
/-- What mayBe keeps. -/
def rtext (h : HR) (y : List Nat) (s : ByteArray) : ByteArray := if h.m = 3 then nstr y else s
set_option maxRecDepth 1000000 in
theorem maybe_any (W : World) (hT : Tabs W) (w : World) (hW : Below W.heap.size W w) (g : Nat) (hgW : W.heap.size ≤ g) (h : HR) (vb : Value) (y : List Nat) (s : ByteArray) (l : Lk) (hg : w.heap[g]? = some (.cells (ics h vb s l) 115 (0, 0))) (hb : BSl w vb y) (hyl : y.length ≤ 140737488351232) (hn : h.n < 18446744073709551616) :
    Calls Tryz.prog 151 #[.pointer (some ⟨g, 0, none⟩)] w fun e w' => e = .returned (.bool (rmay h y)) ∧ w'.heap[g]? = some (.cells (ics h vb (rtext h y s) l) 115 (0, 0)) ∧ Kp (fun q => q = g) w w' := by
  have c0 : w.cell? ⟨g, 0, none⟩ = some (.int .i64 (h.m : Nat)) := blk_cell (j := 0) hg rfl
  have HG := hide hg
  have HT := hide hT
  have HWW := hide hW
  have HGW := hide hgW
  have HBB := hide hb
  clear hT hW hgW hg
  by_cases h3 : h.m = 3
  · as_aux_lemma =>
    have g3 : ((h.m : Int) == 3) = true := beq_iff_eq.2 (by omega)
    have e1 : rmay h y = !badb (nstr y) := by unfold rmay; rw [if_pos h3]
    have e2 : rtext h y s = nstr y := by unfold rtext; rw [if_pos h3]
    rw [e1, e2]
    obtain ⟨⟨a, cap, rfl, hn2, hc⟩, hmax, hby⟩ := hb
    have c5 : w.cell? ⟨g, 5, none⟩ = some (.slice a y.length cap) := blk_cell (j := 5) HG.out rfl
    have c6 : w.cell? ⟨g, 6, none⟩ = some (.string s) := blk_cell (j := 6) HG.out rfl
    have f6 := blk_frozen 6 HG.out
    have hcv : Sem.run Tryz.prog (convert 46 9 (.slice a y.length cap)) w = .ok (.string (nstr y)) w := HBB.out.text
    have hset := item_set 6 (.string (nstr y)) HG.out
    have HS1 := hide hset.1
    have HK1 := hide hset.2
    have c6' : (w.setCell ⟨g, 6, none⟩ (.string (nstr y))).cell? ⟨g, 6, none⟩ = some (.string (nstr y)) := blk_cell (j := 6) HS1.out rfl
    have HSZ : Hid ((nstr y).size ≤ 140737488351232) := by show _ ≤ _; rw [nstr_size hby]; exact hyl
    have HWS : Hid (Below W.heap.size W (w.setCell ⟨g, 6, none⟩ (.string (nstr y)))) := HWW.out.trans (HK1.out.below HWW.out.size (fun q e => by have := HGW.out; omega))
    clear hset h3 e1 e2 hn2 hc hmax
    go_enter Tryz.func151, Tryz.ntmps151
    go_wp2_with fail
    refine (valid_any (nstr y) _ HSZ.out (HT.out.next HWS.out)).mono ?_
    rintro e w2 ⟨rfl, hb2⟩
    have HG2 : Hid (w2.heap[g]? = some (.cells (ics h (.slice a y.length cap) (nstr y) l) 115 (0, 0))) := (hb2.block _ (blk_lt HS1.out)).trans HS1.out
    have HK2 : Hid (Kp (fun q => q = g) w w2) := HK1.out.trans (Kp.of_below (S := fun _ => False) hb2) (fun _ _ h => h.elim)
    clear hb2
    go_wp2_with fail
    go_ret
    exact ⟨rfl, HG2.out, HK2.out⟩
  have g3 : ((h.m : Int) == 3) = false := beq_eq_false_iff_ne.2 (by omega)
  have e2 : rtext h y s = s := by unfold rtext; rw [if_neg h3]
  rw [e2]
  by_cases h6 : h.m = 6
  · as_aux_lemma =>
    have g6 : ((h.m : Int) == 6) = true := beq_iff_eq.2 (by omega)
    have c2 : w.cell? ⟨g, 2, none⟩ = some (.int .u64 (h.n : Nat)) := blk_cell (j := 2) HG.out rfl
    have e1 : rmay h y = ((h.n : Int) == 42) := by
      unfold rmay
      rw [if_neg h3, if_pos h6, Bool.eq_iff_iff]
      simp
      omega
    rw [e1]
    clear h3 h6 e1
    go_enter Tryz.func151, Tryz.ntmps151
    go_wp2_with fail
    go_ret
    exact ⟨rfl, HG.out, Kp.refl _ _⟩
  have g6 : ((h.m : Int) == 6) = false := beq_eq_false_iff_ne.2 (by omega)
  by_cases h7 : h.m = 7
  · as_aux_lemma =>
    have g7 : ((h.m : Int) == 7) = true := beq_iff_eq.2 (by omega)
    have e1 : rmay h y = rknown h := by unfold rmay; rw [if_neg h3, if_neg h6, if_pos h7]
    rw [e1]
    clear h3 h6 h7 e1
    go_enter Tryz.func151, Tryz.ntmps151
    go_wp2_with fail
    refine (known_any w g h vb s l HG.out hn).mono ?_
    rintro e w2 ⟨rfl, hw2⟩
    have hw3 := hw2.symm
    subst hw3
    go_wp2_with fail
    go_ret
    exact ⟨rfl, HG.out, Kp.refl _ _⟩
  · as_aux_lemma =>
    have g7 : ((h.m : Int) == 7) = false := beq_eq_false_iff_ne.2 (by omega)
    have e1 : rmay h y = true := by unfold rmay; rw [if_neg h3, if_neg h6, if_neg h7]
    rw [e1]
    clear h3 h6 h7 e1
    go_enter Tryz.func151, Tryz.ntmps151
    go_wp2_with fail
    go_ret
    exact ⟨rfl, HG.out, Kp.refl _ _⟩
/-- What fits keeps. -/
def rlink (want : Nat) (h : HR) (y : List Nat) (l : Lk) : Lk := if want = 2 ∧ h.m = 2 ∧ y.head? = some 0 then (lparse y.tail).1 else l
set_option maxRecDepth 1000000 in
theorem fits8_any (w : World) (g want : Nat) (h : HR) (vb : Value) (y : List Nat) (s : ByteArray) (l : Lk) (hg : w.heap[g]? = some (.cells (ics h vb s l) 115 (0, 0))) (hb : BSl w vb y) (hyl : y.length ≤ 140737488351232) :
    Calls Tryz.prog 152 #[.pointer (some ⟨g, 0, none⟩), .int .i64 (want : Nat)] w fun e w' => e = .returned (.bool (rfit want h y)) ∧ w'.heap[g]? = some (.cells (ics h vb s (rlink want h y l)) 115 (0, 0)) ∧ Kp (fun q => q = g) w w' := by
  have c0 : w.cell? ⟨g, 0, none⟩ = some (.int .i64 (h.m : Nat)) := blk_cell (j := 0) hg rfl
  have HG := hide hg
  have HBB := hide hb
  clear hg
  by_cases h1 : want = 1
  · as_aux_lemma =>
    have g1 : ((want : Int) == 1) = true := beq_iff_eq.2 (by omega)
    have e1 : rfit want h y = ((h.m : Int) == 3) := by
      unfold rfit
      rw [if_pos h1, Bool.eq_iff_iff]
      simp
      omega
    have e2 : rlink want h y l = l := by unfold rlink; rw [if_neg (by omega)]
    rw [e1, e2]
    clear h1 e1 e2
    go_enter Tryz.func152, Tryz.ntmps152
    go_wp2_with fail
    go_ret
    exact ⟨rfl, HG.out, Kp.refl _ _⟩
  have g1 : ((want : Int) == 1) = false := beq_eq_false_iff_ne.2 (by omega)
  by_cases h2 : want = 2
  case neg => as_aux_lemma =>
    have g2 : ((want : Int) == 2) = false := beq_eq_false_iff_ne.2 (by omega)
    have e1 : rfit want h y = true := by unfold rfit; rw [if_neg h1, if_neg h2]
    have e2 : rlink want h y l = l := by unfold rlink; rw [if_neg (by omega)]
    rw [e1, e2]
    clear h1 h2 e1 e2
    go_enter Tryz.func152, Tryz.ntmps152
    go_wp2_with fail
    go_ret
    exact ⟨rfl, HG.out, Kp.refl _ _⟩
  have g2 : ((want : Int) == 2) = true := beq_iff_eq.2 (by omega)
  obtain ⟨⟨a, cap, rfl, hn2, hc⟩, hmax, hby⟩ := hb
  have c5 : w.cell? ⟨g, 5, none⟩ = some (.slice a y.length cap) := blk_cell (j := 5) HG.out rfl
  by_cases hm : h.m = 2
  case neg => as_aux_lemma =>
    have gm : ((h.m : Int) != 2) = true := by rw [bne_iff_ne]; omega
    have e1 : rfit want h y = false := by unfold rfit; rw [if_neg h1, if_pos h2]; simp [hm]
    have e2 : rlink want h y l = l := by unfold rlink; rw [if_neg (by omega)]
    rw [e1, e2]
    clear h1 h2 e1 e2 hm
    go_enter Tryz.func152, Tryz.ntmps152
    go_wp2_with fail
    go_ret
    exact ⟨rfl, HG.out, Kp.refl _ _⟩
  have gm : ((h.m : Int) != 2) = false := by rw [bne_eq_false_iff_eq]; omega
  by_cases hy0 : y = []
  · as_aux_lemma =>
    have gl : ((y.length : Int) == 0) = true := by rw [hy0]; rfl
    have e1 : rfit want h y = false := by unfold rfit; rw [if_neg h1, if_pos h2, hy0]; simp
    have e2 : rlink want h y l = l := by unfold rlink; rw [if_neg (by rw [hy0]; simp)]
    rw [e1, e2]
    clear h1 h2 e1 e2 hm hy0 hc
    go_enter Tryz.func152, Tryz.ntmps152
    go_wp2_with fail
    go_ret
    exact ⟨rfl, HG.out, Kp.refl _ _⟩
  obtain ⟨b, off, rfl, hcc⟩ := hc.resolve_left hy0
  have hl0 : 0 < y.length := List.length_pos_iff.2 hy0
  have gl : ((y.length : Int) == 0) = false := beq_eq_false_iff_ne.2 (by omega)
  have gl2 : (0 : Int) < (y.length : Int) := by omega
  obtain ⟨x, hx0⟩ : ∃ x, y.head? = some x := by
    cases y with
    | nil => exact absurd rfl hy0
    | cons x r => exact ⟨x, rfl⟩
  have hxg : y.getD 0 0 = x := by
    cases y with
    | nil => cases hx0
    | cons z r => simpa using hx0
  have cx : w.cell? ⟨b, off, none⟩ = some (.int .u8 (x : Nat)) := by
    have h := hcc 0 hl0
    rw [hxg] at h
    simpa using h
  by_cases hx : x = 0
  case neg => as_aux_lemma =>
    have gx : ((x : Int) != 0) = true := by rw [bne_iff_ne]; omega
    have e1 : rfit want h y = false := by unfold rfit; rw [if_neg h1, if_pos h2, hx0]; simp [hx]
    have e2 : rlink want h y l = l := by unfold rlink; rw [if_neg (by rw [hx0]; simp [hx])]
    rw [e1, e2]
    clear h1 h2 e1 e2 hm hcc hn2 hx hy0 hx0 hxg
    go_enter Tryz.func152, Tryz.ntmps152
    go_wp2_with fail
    go_ret
    exact ⟨rfl, HG.out, Kp.refl _ _⟩
  have gx : ((x : Int) != 0) = false := by rw [bne_eq_false_iff_eq]; omega
  have HNN := hide hn2
  have HD := hide (bsl_drop8 (k := 1) HBB.out hl0)
  have htl : y.drop 1 = y.tail := List.drop_one
  rw [htl] at HD
  have HRF : Hid (rfit want h y = decide ((lparse y.tail).2 = 0)) := by
    show _ = _
    unfold rfit
    rw [if_neg h1, if_pos h2, hx0, hx]
    simp [hm]
  have HRL : Hid (rlink want h y l = (lparse y.tail).1) := by
    show _ = _
    unfold rlink
    rw [if_pos ⟨h2, hm, by rw [hx0, hx]⟩]
  have HL0 := hide hl0
  have HEE : Hid (decide ((lparse y.tail).2 = 0) = (((lparse y.tail).2 : Int) == 0)) := by
    show _ = _
    rw [Bool.eq_iff_iff]
    simp
  rw [HRF.out, HRL.out, HEE.out]
  clear h1 h2 hm hcc hn2 hx hy0 hx0 hxg hl0 htl HRF HRL HEE
  go_enter Tryz.func152, Tryz.ntmps152
  go_wp2_with (refine wpList_exec rfl (exec_drop (k := 1) rfl rfl rfl HL0.out HNN.out.1 HNN.out.2) ?_)
  refine (parse4_any w _ y.tail HD.out).mono ?_
  rintro e w1 ⟨rfl, hb1⟩
  have HG1 : Hid (w1.heap[g]? = some (.cells (ics h (.slice (some ⟨b, off, none⟩) y.length cap) s l) 115 (0, 0))) := (hb1.block _ (blk_lt HG.out)).trans HG.out
  have HB1 := hide hb1
  clear hb1 c0 c5 cx
  generalize hpr : lparse y.tail = pr at *
  have HPR := hide hpr
  clear hpr
  obtain ⟨⟨lv, lc, lh, ld⟩, er⟩ := pr
  have HG2 := hide (blk_alloc (.cells #[.int .i64 lv, .int .u64 (lc : Nat), .int .u64 (lh : Nat), .string (nstr ld)] 59) HG1.out)
  have HK2 : Hid (Kp (fun q => q = g) w (w1.alloc (.cells #[.int .i64 lv, .int .u64 (lc : Nat), .int .u64 (lh : Nat), .string (nstr ld)] 59))) := (Kp.of_below HB1.out).alloc _
  have HI4 : Hid ((Tryz.prog.info? 59).map (·.size) = some [Value.int .i64 lv, .int .u64 (lc : Nat), .int .u64 (lh : Nat), .string (nstr ld)].length) := info61
  simp only [lkv]
  clear HG HBB HD
  go_wp2_with (refine wpList_storePart rfl rfl g 7 (ics h (.slice (some ⟨b, off, none⟩) y.length cap) s l).toList [.int .i64 lv, .int .u64 (lc : Nat), .int .u64 (lh : Nat), .string (nstr ld)] 115 rfl rfl HG2.out HI4.out (by simp [ics]) (by simp [Value.oneCell']) ?_)
  intro w3 HG3 HK3
  have HG4 : Hid (w3.heap[g]? = some (.cells (ics h (.slice (some ⟨b, off, none⟩) y.length cap) s ⟨lv, lc, lh, ld⟩) 115 (0, 0))) := HG3
  clear HG3
  go_wp2_with fail
  go_ret
  exact ⟨by rw [HPR.out]; rfl, by rw [HPR.out]; exact HG4.out, HK2.out.trans HK3.out (fun _ _ h => h)⟩
end
section
open Go.RowKit Go
/-- A value out of its parts, none of which lies in S. -/
theorem Tis.of {w : World} {S : Nat → Prop} {t : Tv} {vy vk vi : Value} {B : Nat} {L : List (Array Value)} (hb : Tbd t) (hy : BSl w vy t.y) (hys : t.y ≠ [] → ∀ q, vy.ownBlock = some q → ¬ S q) (hk : SSl w vk t.ks) (hks : t.ks ≠ [] → ∀ q, vk.ownBlock = some q → ¬ S q)
    (hv : w.ownsRow B 62 13 vi t.is.length (vfl L)) (hvs : t.is ≠ [] → ∀ q, vi.ownBlock = some q → ¬ S q) (hm : t.is.length ≤ 140737488351232) (hL : L.length = t.is.length) (h13 : ∀ c ∈ L, c.size = 13) (hi : ∀ (i : Nat) (u : Tv) (c : Array Value), t.is[i]? = some u → L[i]? = some c → Tis w S u c) : Tis w S t (vcs t vy vk vi) := by
  rcases id hv.2 with ⟨e, h0⟩ | ⟨g, cap, cur, e, _, _, h1, _⟩
  · subst e
    have e2 : t.is = [] := List.length_eq_zero_iff.1 h0
    exact Tis.mk t vy vk _ hb hy hys hk hks (fun _ => #[]) none 0 (by rw [h0]) ⟨by omega, fun _ => rfl⟩ hm (fun i u hu => by rw [e2] at hu; simp at hu) (.inl e2)
  · subst e
    refine Tis.mk t vy vk _ hb hy hys hk hks (fun i => L.getD i #[]) (some ⟨g, 0, none⟩) cap rfl ⟨by omega, fun h => by cases h⟩ hm (fun i u hu => ?_) ?_
    · have hil := (List.getElem?_eq_some_iff.1 hu).1
      have hc : L[i]? = some (L.getD i #[]) := by rw [List.getD_eq_getElem?_getD, List.getElem?_eq_getElem (by omega)]; rfl
      exact hi i u _ hu hc
    · by_cases e2 : t.is = []
      · exact .inl e2
      · refine .inr ⟨g, 0, rfl, hvs e2 g rfl, fun i hil j u hu => ?_⟩
        rw [Nat.zero_add]
        have hc : L[i]? = some (L.getD i #[]) := by rw [List.getD_eq_getElem?_getD, List.getElem?_eq_getElem (by omega)]; rfl
        exact own_val hv h13 hc j u hu
end
section
open Go.RowKit Go
/-! ### The lists and maps that are open, in memory -/
/-- A nest's cells. -/
def ncs (x : Nst) (vk vi : Value) : Array Value := (vcs x.val (.slice none 0 0) vk vi).push (.int .u64 (x.n : Nat))
/-- The blocks that are written to. -/
def Lvs (M : Nat → Prop) (v : Value) (n : Nat) (K I : Nat → Value) (q : Nat) : Prop := M q ∨ v.ownBlock = some q ∨ ∃ i, i < n ∧ ((K i).ownBlock = some q ∨ (I i).ownBlock = some q)
/-- One that is open: its rows and its items. -/
structure Ent8 (w : World) (lo : Nat) (S : Nat → Prop) (x : Nst) (vk vi : Value) (L : List (Array Value)) : Prop where
  k : w.ownsRow lo 9 1 vk x.ks.length (sv x.ks)
  i : w.ownsRow lo 62 13 vi x.is.length (vfl L)
  kz : ∀ s ∈ x.ks, s.size ≤ 140737488351232
  kl : x.ks.length ≤ 140737488351232
  il : x.is.length ≤ 140737488351232
  n : L.length = x.is.length
  s : ∀ c ∈ L, c.size = 13
  t : ∀ (j : Nat) (u : Tv) (c : Array Value), x.is[j]? = some u → L[j]? = some c → Tis w S u c
  z : x.n < 18446744073709551616
structure Opn (w : World) (lo : Nat) (M : Nat → Prop) (v : Value) (st : List Nst) (C : List (Array Value)) (K I : Nat → Value) (L : Nat → List (Array Value)) : Prop where
  o : w.ownsRow lo 121 14 v st.length (vfl C)
  n : C.length = st.length
  c : ∀ i x, st[i]? = some x → C[i]? = some (ncs x (K i) (I i))
  m : ∀ q, M q → v.ownBlock ≠ some q
  mz : ∀ q, M q → q < w.heap.size
  e : ∀ i x, st[i]? = some x → Ent8 w lo (Lvs M v st.length K I) x (K i) (I i) (L i)
  d : ∀ i, i < st.length → ∀ q, (K i).ownBlock = some q ∨ (I i).ownBlock = some q → ¬ M q ∧ v.ownBlock ≠ some q ∧ ∀ j, j < st.length → j ≠ i → (K j).ownBlock ≠ some q ∧ (I j).ownBlock ≠ some q
  dd : ∀ i, i < st.length → ∀ q, (K i).ownBlock = some q → (I i).ownBlock ≠ some q
theorem Opn.live {w : World} {lo : Nat} {M : Nat → Prop} {v : Value} {st : List Nst} {C : List (Array Value)} {K I : Nat → Value} {L : Nat → List (Array Value)} (h : Opn w lo M v st C K I L) {q : Nat} (hq : Lvs M v st.length K I q) : q < w.heap.size := by
  rcases hq with hq | hq | ⟨i, hi, hq⟩
  · exact h.mz q hq
  · exact (h.o.lt q hq).2
  · have he := h.e i _ (List.getElem?_eq_getElem hi)
    rcases hq with hq | hq
    · exact (he.k.lt q hq).2
    · exact (he.i.lt q hq).2
/-- Writing elsewhere, or at the machine's own block. -/
theorem Opn.kp {w w' : World} {lo : Nat} {M : Nat → Prop} {v : Value} {st : List Nst} {C : List (Array Value)} {K I : Nat → Value} {L : Nat → List (Array Value)} (h : Opn w lo M v st C K I L) (hk : Kp M w w') : Opn w' lo M v st C K I L := by
  refine ⟨hk.owns h.o (fun q hq e => h.m q e hq), h.n, h.c, h.m, fun q hq => Nat.lt_of_lt_of_le (h.mz q hq) hk.size, fun i x hx => ?_, h.d, h.dd⟩
  have hi := (List.getElem?_eq_some_iff.1 hx).1
  obtain ⟨a1, a2, a3, a4, a5, a6, a7, a8, a9⟩ := h.e i x hx
  exact ⟨hk.owns a1 (fun q hq e => (h.d i hi q (.inl hq)).1 e), hk.owns a2 (fun q hq e => (h.d i hi q (.inr hq)).1 e), a3, a4, a5, a6, a7, fun j u c e1 e2 => (a8 j u c e1 e2).kp (hk.mono (fun _ _ e => .inl e)), a9⟩
theorem Opn.next {w w' : World} {lo : Nat} {M : Nat → Prop} {v : Value} {st : List Nst} {C : List (Array Value)} {K I : Nat → Value} {L : Nat → List (Array Value)} (h : Opn w lo M v st C K I L) (hb : Below w.heap.size w w') : Opn w' lo M v st C K I L := h.kp (Kp.of_below hb)
/-- A value that lies in none of these blocks goes on so. -/
theorem Tis.live {w w' : World} {S T : Nat → Prop} {u : Tv} {c : Array Value} (h : Tis w S u c) (hk : Kp S w w') (ht : ∀ q, T q → S q ∨ w.heap.size ≤ q) : Tis w' T u c :=
  (h.widen.kp (hk.mono (fun _ _ e => .inl e))).mono ht
theorem set_at {α : Type} {l : List α} {i : Nat} {x y : α} (hi : i < l.length) (h : (l.set i x)[i]? = some y) : y = x := by
  rw [List.getElem?_set_self hi] at h
  injection h with h
  exact h.symm
/-- The innermost one is changed. -/
theorem Opn.upd {w w' : World} {lo : Nat} {M : Nat → Prop} {v : Value} {st : List Nst} {C : List (Array Value)} {K I : Nat → Value} {L : Nat → List (Array Value)} (h : Opn w lo M v st C K I L) {t : Nat} (ht : t < st.length) {x' : Nst} {vk' vi' : Value} {L' : List (Array Value)}
    (hk : Kp (fun q => v.ownBlock = some q ∨ (K t).ownBlock = some q ∨ (I t).ownBlock = some q) w w') (ho : w'.ownsRow lo 121 14 v st.length (vfl (C.set t (ncs x' vk' vi'))))
    (hk1 : w'.ownsRow lo 9 1 vk' x'.ks.length (sv x'.ks)) (hkb : vk'.ownBlock = (K t).ownBlock ∨ ∀ q, vk'.ownBlock = some q → w.heap.size ≤ q) (hi1 : w'.ownsRow lo 62 13 vi' x'.is.length (vfl L')) (hib : vi'.ownBlock = (I t).ownBlock ∨ ∀ q, vi'.ownBlock = some q → w.heap.size ≤ q) (hne : ∀ q, vk'.ownBlock = some q → vi'.ownBlock ≠ some q)
    (kz : ∀ s ∈ x'.ks, s.size ≤ 140737488351232) (kl : x'.ks.length ≤ 140737488351232) (il : x'.is.length ≤ 140737488351232) (hn : L'.length = x'.is.length) (hs : ∀ c ∈ L', c.size = 13) (hz : x'.n < 18446744073709551616)
    (hit : ∀ (j : Nat) (u : Tv) (c : Array Value), x'.is[j]? = some u → L'[j]? = some c → Tis w (Lvs M v st.length K I) u c) :
    Opn w' lo M v (st.set t x') (C.set t (ncs x' vk' vi')) (fun i => if i = t then vk' else K i) (fun i => if i = t then vi' else I i) (fun i => if i = t then L' else L i) := by
  have hsub : ∀ q, (v.ownBlock = some q ∨ (K t).ownBlock = some q ∨ (I t).ownBlock = some q) → Lvs M v st.length K I q := fun q hq => by
    rcases hq with hq | hq | hq
    · exact .inr (.inl hq)
    · exact .inr (.inr ⟨t, ht, .inl hq⟩)
    · exact .inr (.inr ⟨t, ht, .inr hq⟩)
  have hkL : Kp (Lvs M v st.length K I) w w' := hk.mono (fun q _ e => hsub q e)
  have hnew : ∀ q, (vk'.ownBlock = some q ∨ vi'.ownBlock = some q) → ((K t).ownBlock = some q ∨ (I t).ownBlock = some q) ∨ w.heap.size ≤ q := fun q hq => by
    rcases hq with hq | hq
    · rcases hkb with e | e
      · exact .inl (.inl (e ▸ hq))
      · exact .inr (e q hq)
    · rcases hib with e | e
      · exact .inl (.inr (e ▸ hq))
      · exact .inr (e q hq)
  have hT : ∀ q, Lvs M v (st.set t x').length (fun i => if i = t then vk' else K i) (fun i => if i = t then vi' else I i) q → Lvs M v st.length K I q ∨ w.heap.size ≤ q := fun q hq => by
    rcases hq with hq | hq | ⟨i, hi, hq⟩
    · exact .inl (.inl hq)
    · exact .inl (.inr (.inl hq))
    · rw [List.length_set] at hi
      by_cases e : i = t
      · simp only [e, if_true] at hq
        rcases hnew q hq with h1 | h1
        · exact .inl (hsub q (.inr h1))
        · exact .inr h1
      · simp only [if_neg e] at hq
        exact .inl (.inr (.inr ⟨i, hi, hq⟩))
  have hold : ∀ i, i < st.length → i ≠ t → ∀ q, ((K i).ownBlock = some q ∨ (I i).ownBlock = some q) → ¬ (v.ownBlock = some q ∨ (K t).ownBlock = some q ∨ (I t).ownBlock = some q) := fun i hi e q hq hf => by
    obtain ⟨d1, d2, d3⟩ := h.d i hi q hq
    rcases hf with hf | hf | hf
    · exact d2 hf
    · exact (d3 t ht (fun e2 => e e2.symm)).1 hf
    · exact (d3 t ht (fun e2 => e e2.symm)).2 hf
  refine ⟨by rw [List.length_set]; exact ho, by rw [List.length_set, List.length_set]; exact h.n, fun i x hx => ?_, h.m, fun q hq => Nat.lt_of_lt_of_le (h.mz q hq) hk.size, fun i x hx => ?_, fun i hi q hq => ?_, fun i hi q hq => ?_⟩
  · by_cases e : i = t
    · subst e
      rw [set_at ht hx]
      simp only [if_true]
      rw [List.getElem?_set_self (by rw [h.n]; exact ht)]
    · rw [List.getElem?_set_ne (fun e2 => e e2.symm)] at hx
      simp only [if_neg e]
      rw [List.getElem?_set_ne (fun e2 => e e2.symm)]
      exact h.c i x hx
  · by_cases e : i = t
    · subst e
      rw [set_at ht hx]
      simp only [if_true]
      exact ⟨hk1, hi1, kz, kl, il, hn, hs, fun j u c e1 e2 => (hit j u c e1 e2).live hkL hT, hz⟩
    · rw [List.getElem?_set_ne (fun e2 => e e2.symm)] at hx
      have hi := (List.getElem?_eq_some_iff.1 hx).1
      simp only [if_neg e]
      obtain ⟨a1, a2, a3, a4, a5, a6, a7, a8, a9⟩ := h.e i x hx
      exact ⟨hk.owns a1 (fun q hq => hold i hi e q (.inl hq)), hk.owns a2 (fun q hq => hold i hi e q (.inr hq)), a3, a4, a5, a6, a7, fun j u c e1 e2 => (a8 j u c e1 e2).live hkL hT, a9⟩
  · rw [List.length_set] at hi
    by_cases e : i = t
    · subst e
      simp only [if_true] at hq
      rcases hnew q hq with h1 | h1
      · obtain ⟨d1, d2, d3⟩ := h.d i ht q h1
        refine ⟨d1, d2, fun j hj hji => ?_⟩
        rw [List.length_set] at hj
        simp only [if_neg hji]
        exact d3 j hj hji
      · have hlt := fun hl => Nat.lt_irrefl _ (Nat.lt_of_le_of_lt h1 (h.live (q := q) hl))
        refine ⟨fun e => hlt (.inl e), fun e => hlt (.inr (.inl e)), fun j hj hji => ?_⟩
        rw [List.length_set] at hj
        simp only [if_neg hji]
        exact ⟨fun e => hlt (.inr (.inr ⟨j, hj, .inl e⟩)), fun e => hlt (.inr (.inr ⟨j, hj, .inr e⟩))⟩
    · simp only [if_neg e] at hq
      obtain ⟨d1, d2, d3⟩ := h.d i hi q hq
      have hqL : q < w.heap.size := h.live (.inr (.inr ⟨i, hi, hq⟩))
      refine ⟨d1, d2, fun j hj hji => ?_⟩
      rw [List.length_set] at hj
      by_cases e2 : j = t
      · subst e2
        simp only [if_true]
        have hn2 : ¬ (vk'.ownBlock = some q ∨ vi'.ownBlock = some q) := fun hv => by
          rcases hnew q hv with h1 | h1
          · rcases h1 with h1 | h1
            · exact (d3 j hj hji).1 h1
            · exact (d3 j hj hji).2 h1
          · omega
        exact ⟨fun e => hn2 (.inl e), fun e => hn2 (.inr e)⟩
      · simp only [if_neg e2]
        exact d3 j hj hji
  · rw [List.length_set] at hi
    by_cases e : i = t
    · subst e
      simp only [if_true] at hq ⊢
      exact hne q hq
    · simp only [if_neg e] at hq ⊢
      exact h.dd i hi q hq
/-- One more is opened. -/
theorem Opn.push {w w' : World} {lo : Nat} {M : Nat → Prop} {v v' : Value} {st : List Nst} {C : List (Array Value)} {K I : Nat → Value} {L : Nat → List (Array Value)} (h : Opn w lo M v st C K I L) {k : Int} {n : Nat} (hz : n < 18446744073709551616) {c : Array Value} (hc : c = ncs ⟨k, [], [], n⟩ (.slice none 0 0) (.slice none 0 0))
    (ho : w'.ownsRow lo 121 14 v' (st.length + 1) (vfl C ++ c.toList)) (hg : w.grownBy w' v.ownBlock) (hv : v'.ownBlock = v.ownBlock ∨ v'.ownBlock = some w.heap.size) :
    Opn w' lo M v' (st ++ [⟨k, [], [], n⟩]) (C ++ [c]) (fun i => if i = st.length then .slice none 0 0 else K i) (fun i => if i = st.length then .slice none 0 0 else I i) (fun i => if i = st.length then [] else L i) := by
  have hk : Kp (fun q => v.ownBlock = some q) w w' := (Kp.refl _ _).grown hg (fun k _ h => h)
  have hkL : Kp (Lvs M v st.length K I) w w' := hk.mono (fun q _ e => .inr (.inl e))
  have hvn : ∀ q, v'.ownBlock = some q → v.ownBlock = some q ∨ q = w.heap.size := fun q hq => by
    rcases hv with e | e
    · exact .inl (e ▸ hq)
    · rw [e] at hq
      injection hq with hq
      exact .inr hq.symm
  have hT : ∀ q, Lvs M v' (st ++ [(⟨k, [], [], n⟩ : Nst)]).length (fun i => if i = st.length then .slice none 0 0 else K i) (fun i => if i = st.length then .slice none 0 0 else I i) q → Lvs M v st.length K I q ∨ w.heap.size ≤ q := fun q hq => by
    rcases hq with hq | hq | ⟨i, hi, hq⟩
    · exact .inl (.inl hq)
    · rcases hvn q hq with e | e
      · exact .inl (.inr (.inl e))
      · exact .inr (by omega)
    · rw [List.length_append, List.length_singleton] at hi
      by_cases e : i = st.length
      · simp only [e, if_true] at hq
        rcases hq with hq | hq <;> cases hq
      · simp only [if_neg e] at hq
        exact .inl (.inr (.inr ⟨i, by omega, hq⟩))
  have hlv : ∀ q, q < w.heap.size → v'.ownBlock = some q → v.ownBlock = some q := fun q hq e => by
    rcases hvn q e with e | e
    · exact e
    · omega
  refine ⟨?_, ?_, fun i x hx => ?_, fun q hq e => h.m q hq (hlv q (h.mz q hq) e), fun q hq => Nat.lt_of_lt_of_le (h.mz q hq) hk.size, fun i x hx => ?_, fun i hi q hq => ?_, fun i hi q hq => ?_⟩
  · rw [vfl_app, List.length_append]
    have e : vfl [c] = c.toList := by simp [vfl]
    rw [e]
    exact ho
  · rw [List.length_append, List.length_append, h.n]
    rfl
  · have hi := (List.getElem?_eq_some_iff.1 hx).1
    rw [List.length_append, List.length_singleton] at hi
    by_cases e : i = st.length
    · subst e
      have hx2 : x = ⟨k, [], [], n⟩ := by simpa using hx.symm
      subst hx2
      simp only [if_true]
      rw [← h.n]
      simp [hc]
    · rw [List.getElem?_append_left (by omega)] at hx
      simp only [if_neg e]
      rw [List.getElem?_append_left (by rw [h.n]; omega)]
      exact h.c i x hx
  · have hi := (List.getElem?_eq_some_iff.1 hx).1
    rw [List.length_append, List.length_singleton] at hi
    by_cases e : i = st.length
    · subst e
      have hx2 : x = ⟨k, [], [], n⟩ := by simpa using hx.symm
      subst hx2
      simp only [if_true]
      exact ⟨World.ownsRow_nil _ _ _ _, World.ownsRow_nil _ _ _ _, by simp, by simp, by simp, rfl, by simp, fun j u c e1 _ => by simp at e1, hz⟩
    · rw [List.getElem?_append_left (by omega)] at hx
      simp only [if_neg e]
      obtain ⟨a1, a2, a3, a4, a5, a6, a7, a8, a9⟩ := h.e i x hx
      exact ⟨hk.owns a1 (fun q hq => (h.d i (by omega) q (.inl hq)).2.1), hk.owns a2 (fun q hq => (h.d i (by omega) q (.inr hq)).2.1), a3, a4, a5, a6, a7, fun j u c e1 e2 => (a8 j u c e1 e2).live hkL hT, a9⟩
  · rw [List.length_append, List.length_singleton] at hi
    by_cases e : i = st.length
    · simp only [e, if_true] at hq
      rcases hq with hq | hq <;> cases hq
    · simp only [if_neg e] at hq
      have hil : i < st.length := by omega
      obtain ⟨d1, d2, d3⟩ := h.d i hil q hq
      refine ⟨d1, fun e2 => d2 (hlv q (h.live (.inr (.inr ⟨i, hil, hq⟩))) e2), fun j hj hji => ?_⟩
      rw [List.length_append, List.length_singleton] at hj
      by_cases e2 : j = st.length
      · simp only [e2, if_true]
        exact ⟨fun h => (by cases h), fun h => (by cases h)⟩
      · simp only [if_neg e2]
        exact d3 j (by omega) hji
  · rw [List.length_append, List.length_singleton] at hi
    by_cases e : i = st.length
    · simp only [e, if_true] at hq
      cases hq
    · simp only [if_neg e] at hq ⊢
      exact h.dd i (by omega) q hq
theorem own_less {w : World} {B e s g n cap : Nat} {C : List (Array Value)} {c : Array Value} (hs : ∀ d ∈ C, d.size = s) (h : w.ownsRow B e s (.slice (some ⟨g, 0, none⟩) (n + 1) cap) (n + 1) (vfl (C ++ [c]))) (hn : C.length = n) : w.ownsRow B e s (.slice (some ⟨g, 0, none⟩) n cap) n (vfl C) := by
  have hl : (vfl C).length = n * s := by
    rw [← hn]
    clear h hn
    induction C with
    | nil => simp [vfl]
    | cons a r ih =>
      have h1 := ih (fun d hd => hs d (List.mem_cons_of_mem _ hd))
      have h2 := hs a (List.mem_cons_self ..)
      have e : vfl (a :: r) = a.toList ++ vfl r := by simp [vfl]
      rw [e, List.length_append, h1, Array.length_toList, h2, List.length_cons, Nat.succ_mul, Nat.add_comm]
  rcases h.2 with ⟨hv, _⟩ | ⟨g', cap', cur, hv, hb, hg, h1, h2, h3, h4⟩
  · cases hv
  injection hv with e1 e2 e3
  injection e1 with e1
  injection e1 with e1 _ _
  subst e1
  subst e3
  refine ⟨hl, .inr ⟨g, cap, cur, rfl, hb, hg, by omega, h2, h3, ?_⟩⟩
  have h5 : (cur.toList.take ((n + 1) * s)).take (n * s) = (vfl (C ++ [c])).take (n * s) := by rw [h4]
  rw [List.take_take, Nat.min_eq_left (by rw [Nat.succ_mul]; omega), vfl_app, List.take_append_of_le_length (by omega)] at h5
  rw [h5, List.take_of_length_le (by omega)]
theorem val_tbd (x : Nst) : Tbd x.val := by
  obtain ⟨k, ks, is, n⟩ := x
  exact ⟨by show (0 : Nat) < _; decide, by show (0 : Nat) < _; decide, by show (ByteArray.mk #[]).size ≤ _; decide, by show ([] : List Nat).length ≤ _; decide, ⟨by show (0 : Nat) < _; decide, by show (0 : Nat) < _; decide, fun x hx => (by cases hx), by show ([] : List Nat).length ≤ _; decide⟩, by show ([] : List Nat).length ≤ _; decide⟩
theorem bsl_none (w : World) : BSl w (.slice none 0 0) [] := ⟨⟨none, 0, rfl, ⟨by simp, fun _ => rfl⟩, .inl rfl⟩, by simp, by simp⟩
/-- The innermost one is whole. -/
theorem Opn.pop {w : World} {lo : Nat} {M : Nat → Prop} {v : Value} {q : List Nst} {x : Nst} {C : List (Array Value)} {K I : Nat → Value} {L : Nat → List (Array Value)} (h : Opn w lo M v (q ++ [x]) C K I L) :
    ∃ g cap, v = .slice (some ⟨g, 0, none⟩) (q.length + 1) cap ∧ q.length + 1 ≤ cap ∧ Opn w lo M (.slice (some ⟨g, 0, none⟩) q.length cap) q (C.take q.length) K I L ∧ Tis w (Lvs M (.slice (some ⟨g, 0, none⟩) q.length cap) q.length K I) x.val (vcs x.val (.slice none 0 0) (K q.length) (I q.length)) := by
  have hlen : (q ++ [x]).length = q.length + 1 := by simp
  have ho := h.o
  rw [hlen] at ho
  obtain ⟨g, cap, hv, hcap⟩ : ∃ g cap, v = .slice (some ⟨g, 0, none⟩) (q.length + 1) cap ∧ q.length + 1 ≤ cap := by
    rcases ho.2 with ⟨_, h0⟩ | ⟨g, cap, cur, hv, _, _, h1, _⟩
    · omega
    · exact ⟨g, cap, hv, h1⟩
  subst hv
  have hcl : C.length = q.length + 1 := by rw [h.n, hlen]
  have hctop : C[q.length]? = some (ncs x (K q.length) (I q.length)) := h.c q.length x (by simp)
  have hC : C = C.take q.length ++ [ncs x (K q.length) (I q.length)] := by
    refine List.ext_getElem? fun i => ?_
    by_cases hi : i < q.length
    · rw [List.getElem?_append_left (by rw [List.length_take]; omega), List.getElem?_take_of_lt hi]
    · by_cases hi2 : i = q.length
      · subst hi2
        rw [List.getElem?_append_right (by rw [List.length_take]; omega), List.length_take, Nat.min_eq_left (by omega), Nat.sub_self]
        exact hctop
      · rw [List.getElem?_eq_none (by omega), List.getElem?_eq_none (by rw [List.length_append, List.length_take, List.length_singleton]; omega)]
  have hz14 : ∀ d ∈ C.take q.length, d.size = 14 := fun d hd => by
    obtain ⟨i, hi⟩ := List.getElem?_of_mem hd
    have hil : i < q.length := by have := (List.getElem?_eq_some_iff.1 hi).1; rw [List.length_take] at this; omega
    rw [List.getElem?_take_of_lt hil] at hi
    have hx : (q ++ [x])[i]? = some q[i] := by rw [List.getElem?_append_left hil]; exact List.getElem?_eq_getElem hil
    rw [h.c i _ hx] at hi
    injection hi with hi
    rw [← hi]
    rfl
  have ho2 : w.ownsRow lo 121 14 (.slice (some ⟨g, 0, none⟩) q.length cap) q.length (vfl (C.take q.length)) := by
    rw [hC] at ho
    exact own_less hz14 ho (by rw [List.length_take]; omega)
  have hsub : ∀ p, Lvs M (.slice (some ⟨g, 0, none⟩) q.length cap) q.length K I p → Lvs M (.slice (some ⟨g, 0, none⟩) (q.length + 1) cap) (q ++ [x]).length K I p := fun p hp => by
    rcases hp with hp | hp | ⟨i, hi, hp⟩
    · exact .inl hp
    · exact .inr (.inl hp)
    · exact .inr (.inr ⟨i, by rw [hlen]; omega, hp⟩)
  refine ⟨g, cap, rfl, hcap, ⟨ho2, by rw [List.length_take]; omega, fun i y hy => ?_, h.m, h.mz, fun i y hy => ?_, fun i hi p hp => ?_, fun i hi p hp => ?_⟩, ?_⟩
  · have hi := (List.getElem?_eq_some_iff.1 hy).1
    rw [List.getElem?_take_of_lt hi]
    exact h.c i y (by rw [List.getElem?_append_left hi]; exact hy)
  · have hi := (List.getElem?_eq_some_iff.1 hy).1
    obtain ⟨a1, a2, a3, a4, a5, a6, a7, a8, a9⟩ := h.e i y (by rw [List.getElem?_append_left hi]; exact hy)
    exact ⟨a1, a2, a3, a4, a5, a6, a7, fun j u c e1 e2 => (a8 j u c e1 e2).mono hsub, a9⟩
  · obtain ⟨d1, d2, d3⟩ := h.d i (by rw [hlen]; omega) p hp
    exact ⟨d1, d2, fun j hj hji => d3 j (by rw [hlen]; omega) hji⟩
  · exact h.dd i (by rw [hlen]; omega) p hp
  · obtain ⟨a1, a2, a3, a4, a5, a6, a7, a8, a9⟩ := h.e q.length x (by simp)
    have hno : ∀ p, (K q.length).ownBlock = some p ∨ (I q.length).ownBlock = some p → ¬ Lvs M (.slice (some ⟨g, 0, none⟩) q.length cap) q.length K I p := fun p hp hl => by
      obtain ⟨d1, d2, d3⟩ := h.d q.length (by rw [hlen]; omega) p hp
      rcases hl with hl | hl | ⟨i, hi, hl⟩
      · exact d1 hl
      · exact d2 hl
      · have h9 := d3 i (by rw [hlen]; omega) (by omega)
        rcases hl with hl | hl
        · exact h9.1 hl
        · exact h9.2 hl
    exact Tis.of (val_tbd x) (bsl_none w) (fun h => absurd rfl h) (SSl.own a1 rfl a4 a3) (fun _ p hp => hno p (.inl hp)) a2 (fun _ p hp => hno p (.inr hp)) a5 a6 a7 (fun j u c e1 e2 => (a8 j u c e1 e2).mono hsub)
end
end Go.Proofs.YtadilnmkjcmnnaaGreatDoor
