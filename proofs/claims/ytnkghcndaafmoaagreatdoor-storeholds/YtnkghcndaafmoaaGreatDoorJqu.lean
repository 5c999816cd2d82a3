import Derived.Test.YtnkghcndaafmoaaGreatDoorJqt
namespace Go.Proofs.YtnkghcndaafmoaaGreatDoor
section
open Go.RowKit Go
section
variable {ops : Array Oper} {rest : List Oper} {o : Oper} {a : Act} {Q : Exit → Act → World → Prop} {w : World}
theorem wpList_lookB (hgd : Region.wanted o (yielded ops a.tmps) = true) {m x : Operand} (ho : o.op = .lookup 105 m x true) {B : Nat} {L : List Blk} {l : Lk} (hm : a.eval m = .map (some B)) (hx : a.eval x = lkv l) (h : Mlb w B L) (hl : Lkx l)
    (hK : wpList Tryz.prog ops Q rest (a.put o.dst (.tuple #[.agg #[.string (nstr ((atB L l).getD []))], .bool (atB L l).isSome])) w) : wpList Tryz.prog ops Q (o :: rest) a w := by
  refine wpList_wanted hgd fun K hK' => ?_
  have hr := h.look hl
  unfold bval at hr
  unfold Oper.wp
  simp [execOp, ho, hm, hx, hr, Result.andThen]
  exact hK' _ _ hK
theorem wpList_putB (hgd : Region.wanted o (yielded ops a.tmps) = true) {m x v : Operand} (ho : o.op = .mapUpdate 105 m x v) {B : Nat} {L : List Blk} {l : Lk} {b : List Nat} (hm : a.eval m = .map (some B)) (hx : a.eval x = lkv l) (hv : a.eval v = bval b) (h : Mlb w B L) (hb : Bgd (l, b)) (hn : L.length < 140737488351232)
    (hK : ∀ w', Mlb w' B (putB L l b) → Kp (fun q => q = B) w w' → w'.heap.size = w.heap.size → wpList Tryz.prog ops Q rest (a.put o.dst undef) w') : wpList Tryz.prog ops Q (o :: rest) a w := by
  refine wpList_wanted hgd fun K hK' => ?_
  obtain ⟨w', hrun, h1, h2, h3⟩ := h.put hb hn
  unfold Oper.wp
  simp [execOp, ho, hm, hx, hv, hrun, Result.andThen]
  exact hK' _ _ (hK w' h1 h2 h3)
theorem wpList_lenB (hgd : Region.wanted o (yielded ops a.tmps) = true) {m : Operand} (ho : o.op = .call { callee := .builtin Builtin.len, args := #[m], argTypes := #[105] }) {B : Nat} {L : List Blk} (hm : a.eval m = .map (some B)) (h : Mlb w B L)
    (hK : wpList Tryz.prog ops Q rest (a.put o.dst (.int .i64 (L.length : Nat))) w) : wpList Tryz.prog ops Q (o :: rest) a w := by
  refine wpList_wanted hgd fun K hK' => ?_
  unfold Oper.wp
  simp [execOp, ho, resolve, invoke, builtin, hm, h.len o.type, Result.andThen]
  exact hK' _ _ hK
end
structure Cpw (w : World) (Bd Bs : Nat) (L d : List Blk) (D : DataW Unit) (wr : World) (left : Lit → Bool) (cnt : Nat) (z : List Blk) : Prop where
  rg : wr.ranges Tryz.prog 41 blkElem Bs w.heap.size d.length D left cnt
  m : Mlb wr Bd (mrg L z)
  k : Kp (fun q => q = Bd) w wr
  n : z.length + cnt ≤ d.length
  nd : ndB z
  l : ∀ l, Lkx l → left (kll l) = ((atB d l).isSome && (atB z l).isNone)
  s : ∀ l b, atB z l = some b → atB d l = some b
theorem len_mrg (L : List Blk) : ∀ z : List Blk, (mrg L z).length ≤ L.length + z.length
  | [] => Nat.le_refl _
  | x :: z => by
    have := len_mrg L z
    have h2 : (delB (mrg L z) x.1).length ≤ (mrg L z).length := List.length_filter_le _ _
    rw [mrg_cons]
    simp only [putB, List.length_cons]
    omega
theorem sameKey_kll {a b : Lk} (ha : Lkx a) (hb : Lkx b) : (kll a).sameKey (kll b) = decide (a = b) := by
  by_cases h : a = b
  · subst h
    rw [WideAt.sameKey_self (kll_key a)]
    simp
  · rw [Maps.sameKey_ne (kll_ne ha hb h)]
    simp [h]
theorem Cpw.step {w wr w2 : World} {Bd Bs : Nat} {L d : List Blk} {D : DataW Unit} {left : Lit → Bool} {cnt cnt' : Nat} {z : List Blk} (h : Cpw w Bd Bs L d D wr left cnt z) {x : Lk} {b : List Nat} (hx : Lkx x) (hl : left (kll x) = true) (hd : atB d x = some b)
    (hr : w2.ranges Tryz.prog 41 blkElem Bs w.heap.size d.length D (fun y => left y && !y.sameKey (kll x)) cnt') (hc : cnt' < cnt) (hm : Mlb w2 Bd (putB (mrg L z) x b)) (hk : Kp (fun q => q = Bd) w w2) :
    Cpw w Bd Bs L d D w2 (fun y => left y && !y.sameKey (kll x)) cnt' ((x, b) :: z) := by
  have h1 := h.l x hx
  rw [hl] at h1
  have h2 := h1.symm
  rw [Bool.and_eq_true] at h2
  have hz : atB z x = none := by simpa using h2.2
  refine ⟨hr, hm, hk, ?_, ndB_cons h.nd hz, fun l hl2 => ?_, fun l c hc2 => ?_⟩
  · have := h.n
    simp only [List.length_cons]
    omega
  · rw [h.l l hl2, sameKey_kll hl2 hx, atB_cons]
    by_cases e : x = l
    · rw [if_pos e]
      simp [e]
    · rw [if_neg e]
      have e2 : ¬ l = x := fun q => e q.symm
      simp [e2]
  · rw [atB_cons] at hc2
    by_cases e : x = l
    · rw [if_pos e] at hc2
      rw [← e, ← Option.some.inj hc2]
      exact hd
    · rw [if_neg e] at hc2
      exact h.s l c hc2
theorem Cpw.done {w wr : World} {Bd Bs : Nat} {L d : List Blk} {D : DataW Unit} {left : Lit → Bool} {cnt : Nat} {z : List Blk} (h : Cpw w Bd Bs L d D wr left cnt z) (hL : ndB L) (hd : ∀ p ∈ d, Bgd p) (hl : ∀ kl, left kl = false) : Mlb wr Bd (mrg L d) := by
  refine h.m.same (ndB_mrg hL d) (fun k => ?_)
  rw [atB_mrg, atB_mrg]
  have hk : atB z k = atB d k := by
    cases hz : atB z k with
    | some b => exact (h.s k b hz).symm
    | none =>
      cases hq : atB d k with
      | none => rfl
      | some b =>
        have hx : Lkx k := (hd _ (atB_mem hq)).l
        have := h.l k hx
        rw [hl, hq, hz] at this
        simp at this
  rw [hk]
set_option maxRecDepth 1000000 in
set_option maxHeartbeats 1000000 in
theorem copy13_any (w : World) (Bd Bs : Nat) (L d : List Blk) (hm : Mlb w Bd L) (hs : Mlb w Bs d) (hne : Bd ≠ Bs) (hn : L.length + d.length < 140737488351232) :
    Calls Tryz.prog 76 #[.map (some Bd), .map (some Bs)] w fun e w' => e = .returned (.tuple #[]) ∧ Hid (Mlb w' Bd (mrg L d) ∧ Kp (fun q => q = Bd) w w') := by
  obtain ⟨hs0, hs1, D, hown, hsz, hs3, hs4⟩ := hs
  have HM := hide hm
  have HO := hide hown
  have HSZ := hide hsz
  have H3 := hide hs3
  have H4 := hide hs4
  have HN := hide hn
  have HNE := hide hne
  have HD := hide hs1
  clear hm hown hsz hs3 hs4 hn hne hs1 hs0
  go_enter Tryz.func76, Tryz.ntmps76
  go_wp2_with (first
    | (at_range; refine wpList_range_own _ rfl _ 105 rfl 41 130 lawK Tryz.underlying105 _ Bs d.length _ rfl HO.out ?_; intro w0 hrg0 hg0 hs0)
    | go_in)
  go_frame
  have HC0 : Hid (Cpw w Bd Bs L d D w0 (Maps.has D) (Maps.size D) []) := ⟨hrg0, HM.out.block (hg0.block _ HM.out.lt (by simp)), ⟨hg0.os, hg0.tape, hg0.output, hg0.size, fun k hk _ => hg0.block k hk (by simp)⟩, by rw [HSZ.out]; exact Nat.le_of_eq (Nat.zero_add _), List.nodup_nil, fun l hl => by rw [H3.out l hl]; simp [atB], fun _ _ h => by cases h⟩
  clear hrg0 hg0 hs0
  go_loopw [8] (fun _ wr => ∃ (left : Lit → Bool) (cnt : Nat) (z : List Blk), Hid (Cpw w Bd Bs L d D wr left cnt z)) (fun _ wr => wr.rangeLeft Bs w.heap.size)
  case atStart => exact ⟨_, _, _, HC0⟩
  case round =>
    obtain ⟨left, cnt, z, HC⟩ := hrel
    go_wp2_with (first
      | (at_next; refine wpList_next_ranges (α := {x : Lk // Lkx x}) (β := {b : List Nat // (∀ x ∈ b, x < 256) ∧ b.length ≤ 140737488351232}) _ rfl _ rfl 41 lawK blkElem (fun x => lkv x.1) (fun b => bval b.1) (fun key kl hk => by obtain ⟨x, hx, hx2⟩ := keyInv hk; exact ⟨⟨x, hx2⟩, hx⟩) (fun v y hv => by obtain ⟨b, hb, h1, h2, _⟩ := blkElem_inv hv; exact ⟨⟨b, h1, h2⟩, hb⟩) Bs w.heap.size d.length D left cnt rfl HC.out.rg ?_ ?_)
      | go_in)
    · intro hc0 hl0
      have HE : Hid (Mlb wr Bd (mrg L d) ∧ Kp (fun q => q = Bd) w wr) := ⟨HC.out.done HM.out.nd HD.out hl0, HC.out.k⟩
      go_wp2
      go_end0
      exact ⟨rfl, HE⟩
    · intro x hx b hb1 hb2 kl y1 y2 w1 cnt1 hkl hlx hy hat hrg1 hlt hg1 hs1 hen
      obtain rfl := Option.some.inj ((keyL hx).symm.trans hkl)
      have hdx : atB d x = some b := by
        have h1 := HC.out.l x hx
        rw [hlx] at h1
        have h2 := h1.symm
        rw [Bool.and_eq_true] at h2
        obtain ⟨b2, hb⟩ := Option.isSome_iff_exists.1 h2.1
        have h3 := H4.out x b2 hx hb (bdat b2)
        rw [hat] at h3
        rw [blkElem_mk hb1 hb2] at hy
        have h4 := congrArg Prod.fst (Option.some.inj hy)
        simp only at h4
        have h5 : b2 = b := bdat_inj (HD.out _ (atB_mem hb)).b hb1 (h3.symm.trans h4.symm)
        rw [hb, h5]
      have hkw : Kp (fun q => q = Bd) w w1 := HC.out.k.grown hg1 (fun k hk e => by have e2 := Option.some.inj e; omega)
      have hM1 : Mlb w1 Bd (mrg L z) := HC.out.m.block (hg1.block _ HC.out.m.lt (fun e => by have e2 := Option.some.inj e; have := HM.out.lt; omega))
      have HLT := hide hlt
      have HLX := hide hlx
      have HX := hide hx
      have HDX := hide hdx
      have HKW := hide hkw
      have HM1 := hide hM1
      have HR1 := hide hrg1
      clear hkl hlx hy hat hrg1 hlt hg1 hs1 hdx hkw hM1 hb1 hb2
      simp only [lkv, bval] at hen ⊢
      have HA : Hid (Below w1.heap.size w1 ((w1.alloc (.cells #[.int .i64 x.v, .int .u64 (x.c : Nat), .int .u64 (x.h : Nat), .string (nstr x.d)] 41)).alloc (.cells #[.string (nstr b)] 130))) := (below_alloc4 w1 _).trans ((below_alloc4 _ _).mono (by simp))
      have HT : Hid (((w1.alloc (.cells #[.int .i64 x.v, .int .u64 (x.c : Nat), .int .u64 (x.h : Nat), .string (nstr x.d)] 41)).alloc (.cells #[.string (nstr b)] 130)).heap[w1.heap.size]? = some (.cells (lcs x) 41 (0, 0))) := blk_alloc _ (heap_alloc_new w1 _)
      have HT2 : Hid (((w1.alloc (.cells #[.int .i64 x.v, .int .u64 (x.c : Nat), .int .u64 (x.h : Nat), .string (nstr x.d)] 41)).alloc (.cells #[.string (nstr b)] 130)).heap[w1.heap.size + 1]? = some (.cells #[.string (nstr b)] 130 (0, 0))) := by
        have h := heap_alloc_new (w1.alloc (.cells #[.int .i64 x.v, .int .u64 (x.c : Nat), .int .u64 (x.h : Nat), .string (nstr x.d)] 41)) (.cells #[.string (nstr b)] 130)
        rw [show (w1.alloc (.cells #[.int .i64 x.v, .int .u64 (x.c : Nat), .int .u64 (x.h : Nat), .string (nstr x.d)] 41)).heap.size = w1.heap.size + 1 by simp] at h
        exact h
      go_upto_region 3 with fail
      generalize (w1.alloc (.cells #[.int .i64 x.v, .int .u64 (x.c : Nat), .int .u64 (x.h : Nat), .string (nstr x.d)] 41)).alloc (.cells #[.string (nstr b)] 130) = w2 at *
      have HM2 : Hid (Mlb w2 Bd (mrg L z)) := HM1.out.next HA.out
      have HR2 : Hid (w2.ranges Tryz.prog 41 blkElem Bs w.heap.size d.length D (fun z => left z && !z.sameKey (kll x)) cnt1) := HR1.out.kept (row := none) ⟨HA.out.os, HA.out.tape, HA.out.output, HA.out.size, fun k hk _ => HA.out.block k hk⟩ (by simp) (by simp)
      have HK2 : Hid (Kp (fun q => q = Bd) w w2) := HKW.out.trans (Kp.of_below (S := fun _ => False) HA.out) (fun _ _ h => h.elim)
      have HG : Hid (Bgd (x, b)) := HD.out _ (atB_mem HDX.out)
      have HLE : Hid ((mrg L z).length < 140737488351232) := by
        have h1 := len_mrg L z
        have h2 := HC.out.n
        have h3 := HN.out
        show _ < _
        omega
      have c0 : w2.cell? ⟨w1.heap.size, 0, none⟩ = some (.int .i64 x.v) := blk_cell (j := 0) HT.out rfl
      have c1 : w2.cell? ⟨w1.heap.size, 1, none⟩ = some (.int .u64 (x.c : Nat)) := blk_cell (j := 1) HT.out rfl
      have c2 : w2.cell? ⟨w1.heap.size, 2, none⟩ = some (.int .u64 (x.h : Nat)) := blk_cell (j := 2) HT.out rfl
      have c3 : w2.cell? ⟨w1.heap.size, 3, none⟩ = some (.string (nstr x.d)) := blk_cell (j := 3) HT.out rfl
      have c4 : w2.cell? ⟨w1.heap.size + 1, 0, none⟩ = some (.string (nstr b)) := blk_cell (j := 0) HT2.out rfl
      clear hen hx HM1 HR1 HA HT HT2
      go_wp2_with (first
        | (at_mapUpdate; refine wpList_putB (B := Bd) (L := mrg L z) (l := x) (b := b) rfl rfl rfl rfl rfl HM2.out HG.out HLE.out ?_; intro w3 hM3 hK3 hz3; go_frame)
        | go_in)
      have hrg2 := HR2.out.kept (w' := w3) (row := some Bd) ⟨hK3.os, hK3.tape, hK3.output, hK3.size, fun k hk hne => hK3.block k hk (fun e => hne (by rw [e]))⟩ (fun e => HNE.out (Option.some.inj e).symm) (fun e => by have e2 := Option.some.inj e; have := HM.out.lt; omega)
      have HC3 : Hid (Cpw w Bd Bs L d D w3 (fun z => left z && !z.sameKey (kll x)) cnt1 ((x, b) :: z)) := HC.out.step HX.out HLX.out HDX.out hrg2 HLT.out hM3 (HK2.out.trans hK3 (fun _ _ h => h))
      go_roundw
      case rel => exact ⟨_, _, _, HC3⟩
      case measure => rw [hrg2.left_eq, HC.out.rg.left_eq]; exact HLT.out
end
section
open Go.RowKit Go
def bcs (x : Blk) (vb : Value) : Array Value := #[.int .i64 x.1.v, .int .u64 (x.1.c : Nat), .int .u64 (x.1.h : Nat), .string (nstr x.1.d), vb]
structure Bki (w : World) (x : Blk) (c : Array Value) : Prop where
  ex : ∃ vb, c = bcs x vb ∧ BSl w vb x.2
  l : Lkx x.1
  n : x.2.length ≤ 140737488351232
abbrev KSl (w : World) (v : Value) (L : List Blk) : Prop := GSl 5 Bki w v L
theorem Bki.move {w w' : World} {x : Blk} {c : Array Value} (h : Bki w x c) (hm : ∀ p u, w.cell? p = some u → w'.cell? p = some u) : Bki w' x c := by
  obtain ⟨⟨vb, e, h1⟩, h2, h3⟩ := h
  exact ⟨⟨vb, e, h1.move hm⟩, h2, h3⟩
theorem KSl.mv {w w' : World} {v : Value} {L : List Blk} (h : KSl w v L) (hm : ∀ p u, w.cell? p = some u → w'.cell? p = some u) : KSl w' v L := GSl.move h (fun _ _ h => h.move hm) hm
theorem infoBq : (Tryz.prog.info? 60).map (·.size) = some 5 := by kernel_rfl
theorem aggBq (w : World) : (isAgg 60).run Tryz.prog w = .ok true w := by
  unfold isAgg
  rw [Sem.run_bind, run_underlying Tryz.underlying60 w]
  simp
theorem KSl.at {w : World} {a : Option Addr} {cap : Nat} {L : List Blk} (h : KSl w (.slice a L.length cap) L) {i : Nat} {x : Blk} (hx : L[i]? = some x) : ∃ b off va n vc, a = some ⟨b, off, none⟩ ∧ BSl w (.slice va n vc) x.2 ∧ n = x.2.length ∧ Lkx x.1 ∧ x.2.length ≤ 140737488351232 ∧ ∀ j u, (bcs x (.slice va n vc))[j]? = some u → w.cell? ⟨b, off + i * 5 + j, none⟩ = some u := by
  obtain ⟨⟨a', cap', he, hn, hc⟩, _⟩ := h
  injection he with e1 e2 e3
  subst e1
  rcases hc with hc | ⟨b, off, rfl, hc⟩
  · rw [hc] at hx
    simp at hx
  · obtain ⟨c, ⟨⟨vb, rfl, hb⟩, h2, h3⟩, h4⟩ := hc i x hx
    have hb2 := hb
    obtain ⟨⟨va, vc, rfl, _⟩, _⟩ := hb2
    exact ⟨b, off, va, _, vc, rfl, hb, rfl, h2, h3, h4⟩
def fit13 (x : Blk) : Nat := if lok x.1 ∧ x.1.h = 18 then if 67108864 < x.2.length then 133 else 0 else 132
def frt : List Blk → Nat × Nat
  | [] => (0, 0)
  | x :: r => if fit13 x = 0 then if dholds x.1.h x.1.d x.2 = true then ((frt r).1 + 1, (frt r).2) else (0, 137) else (0, fit13 x)
theorem fit13_cast (x : Blk) : (if lok x.1 ∧ x.1.h = 18 then if 67108864 < x.2.length then (133 : Int) else 0 else 132) = (fit13 x : Nat) := by
  unfold fit13
  split
  · split <;> rfl
  · rfl
theorem fit13_le (x : Blk) : fit13 x ≤ 133 := by
  unfold fit13
  split
  · split <;> omega
  · omega
theorem drop_cons13 {L : List Blk} {i : Nat} {x : Blk} (h : L[i]? = some x) : L.drop i = x :: L.drop (i + 1) := by
  obtain ⟨hi, e⟩ := List.getElem?_eq_some_iff.1 h
  rw [List.drop_eq_getElem_cons hi, e]
set_option maxRecDepth 1000000 in
set_option maxHeartbeats 1000000 in
theorem front13_any (w : World) (v : Value) (L : List Blk) (hv : KSl w v L) (hcb : Cb w) : Calls Tryz.prog 80 #[v, .func (.func 37) #[] #[]] w fun e w' => e = .returned (.tuple #[.int .i64 ((frt L).1 : Nat), .int .i64 ((frt L).2 : Nat)]) ∧ Below w.heap.size w w' := by
  have hmax := hv.max
  have hv2 := hv
  obtain ⟨⟨a, cap, rfl, -, -⟩, -⟩ := hv2
  have HV := hide hv
  have HCB := hide hcb
  have HI5 := hide infoBq
  have HAB : Hid (∀ w, (isAgg 60).run Tryz.prog w = .ok true w) := aggBq
  have hnot : ∀ (x : Bool) (w : World), (Op.unary .not (.bool x)).run Tryz.prog w = .ok (.bool (!x)) w := fun _ _ => rfl
  clear hv hcb
  go_enter Tryz.func80, Tryz.ntmps80
  go_wp2_with fail
  go_loopw [11] (fun vi wx => ∃ i : Nat, i ≤ L.length ∧ vi = .int .i64 (i : Nat) ∧ Hid (Below w.heap.size w wx ∧ frt L = ((frt (L.drop i)).1 + i, (frt (L.drop i)).2))) (fun vi _ => L.length - (intOf vi).toNat)
  case atStart => exact ⟨0, by omega, rfl, Below.refl _ _, rfl⟩
  case round =>
    obtain ⟨i, hi, rfl, HR⟩ := hrel
    by_cases hlt : i < L.length
    · have g1 : (i : Int) < (L.length : Int) := by omega
      obtain ⟨x, hx⟩ : ∃ x, L[i]? = some x := ⟨_, List.getElem?_eq_getElem hlt⟩
      obtain ⟨b, off, va, n, vc, rfl, hb, hnl, hl, hb2, hcell⟩ := HV.out.at hx
      have HN := hide hnl
      have HL := hide hl
      have HBS := hide hb
      have HB2 := hide hb2
      have HD := hide (drop_cons13 hx)
      have HCL : Hid (∀ j u, (#[.int .i64 x.1.v, .int .u64 (x.1.c : Nat), .int .u64 (x.1.h : Nat), .string (nstr x.1.d), .slice va n vc] : Array Value)[j]? = some u → wr.cell? ⟨b, off + i * 5 + j, none⟩ = some u) := fun j u hj => keep_below HR.out.1 _ _ (hcell j u hj)
      have HB1 := hide (below_alloc4 wr (.cells #[.int .i64 x.1.v, .int .u64 (x.1.c : Nat), .int .u64 (x.1.h : Nat), .string (nstr x.1.d), .slice va n vc] 60))
      have HT : Hid ((wr.alloc (.cells #[.int .i64 x.1.v, .int .u64 (x.1.c : Nat), .int .u64 (x.1.h : Nat), .string (nstr x.1.d), .slice va n vc] 60)).heap[wr.heap.size]? = some (.cells (bcs x (.slice va n vc)) 60 (0, 0))) := heap_alloc_new wr _
      clear hx hnl hl hb hb2 hcell
      go_upto_region 4 with (refine wpList_aggAt rfl rfl HI5.out HAB.out b (off + i * 5) #[.int .i64 x.1.v, .int .u64 (x.1.c : Nat), .int .u64 (x.1.h : Nat), .string (nstr x.1.d), .slice va n vc] rfl rfl HCL.out ?_)
      generalize wr.alloc (.cells #[.int .i64 x.1.v, .int .u64 (x.1.c : Nat), .int .u64 (x.1.h : Nat), .string (nstr x.1.d), .slice va n vc] 60) = w1 at *
      have HBw : Hid (Below w.heap.size w w1) := HR.out.1.trans (HB1.out.mono HR.out.1.size)
      have c0 : w1.cell? ⟨wr.heap.size, 0, none⟩ = some (.int .i64 x.1.v) := blk_cell (j := 0) HT.out rfl
      have c1 : w1.cell? ⟨wr.heap.size, 1, none⟩ = some (.int .u64 (x.1.c : Nat)) := blk_cell (j := 1) HT.out rfl
      have c2 : w1.cell? ⟨wr.heap.size, 2, none⟩ = some (.int .u64 (x.1.h : Nat)) := blk_cell (j := 2) HT.out rfl
      have c3 : w1.cell? ⟨wr.heap.size, 3, none⟩ = some (.string (nstr x.1.d)) := blk_cell (j := 3) HT.out rfl
      have c4 : w1.cell? ⟨wr.heap.size, 4, none⟩ = some (.slice va n vc) := blk_cell (j := 4) HT.out rfl
      have HF := hide (fits13_any w1 x.1 HL.out.toLkb (.slice va n vc) x.2 (HBS.out.move (keep_below HBw.out)))
      rw [fit13_cast] at HF
      simp only [lkv] at HF
      clear HCL HB1
      by_cases hf : fit13 x = 0
      · have g2 : (((fit13 x : Nat) : Int) != 0) = false := by rw [hf]; rfl
        have HZ := hide hf
        clear hf
        go_upto_region 7 with (go_at_call 42; refine HF.out.mono ?_; rintro e w2 ⟨rfl, hb2⟩)
        have HB2w : Hid (Below w.heap.size w w2) := HBw.out.trans (hb2.mono HBw.out.size)
        have HT2 : Hid (w2.heap[wr.heap.size]? = some (.cells (bcs x (.slice va n vc)) 60 (0, 0))) := (hb2.block _ (blk_lt HT.out)).trans HT.out
        have d0 : w2.cell? ⟨wr.heap.size, 0, none⟩ = some (.int .i64 x.1.v) := blk_cell (j := 0) HT2.out rfl
        have d1 : w2.cell? ⟨wr.heap.size, 1, none⟩ = some (.int .u64 (x.1.c : Nat)) := blk_cell (j := 1) HT2.out rfl
        have d2 : w2.cell? ⟨wr.heap.size, 2, none⟩ = some (.int .u64 (x.1.h : Nat)) := blk_cell (j := 2) HT2.out rfl
        have d3 : w2.cell? ⟨wr.heap.size, 3, none⟩ = some (.string (nstr x.1.d)) := blk_cell (j := 3) HT2.out rfl
        have d4 : w2.cell? ⟨wr.heap.size, 4, none⟩ = some (.slice va n vc) := blk_cell (j := 4) HT2.out rfl
        have HH := hide (holds13_any w2 x.1 HL.out.toLkb (.slice va n vc) x.2 (HCB.out.below HB2w.out) (HBS.out.move (keep_below HB2w.out)) HB2.out)
        simp only [lkv] at HH
        clear c0 c1 c2 c3 c4 hb2 HF HT HBS HT2
        cases hh : dholds x.1.h x.1.d x.2
        · have HE : Hid (frt L = (i, 137)) := by
            show _ = _
            rw [HR.out.2, HD.out, frt, if_pos HZ.out, hh]
            simp
          rw [hh] at HH
          clear hh
          go_wp2_with (go_at_call 37; refine HH.out.mono ?_; rintro e w3 ⟨rfl, hb3⟩)
          go_ret2
          exact ⟨by rw [HE.out]; rfl, HB2w.out.trans (hb3.mono HB2w.out.size)⟩
        · have HE : Hid (frt L = ((frt (L.drop (i + 1))).1 + (i + 1), (frt (L.drop (i + 1))).2)) := by
            show _ = _
            rw [HR.out.2, HD.out, frt, if_pos HZ.out, hh]
            simp
            omega
          rw [hh] at HH
          clear hh
          go_wp2_with (go_at_call 37; refine HH.out.mono ?_; rintro e w3 ⟨rfl, hb3⟩)
          have HB3w : Hid (Below w.heap.size w w3) := HB2w.out.trans (hb3.mono HB2w.out.size)
          go_roundw
          case rel => exact ⟨i + 1, by omega, by go_num, HB3w.out, HE.out⟩
          case measure => simp [intOf]; omega
      · have g2 : (((fit13 x : Nat) : Int) != 0) = true := by rw [bne_iff_ne]; omega
        have HE : Hid (frt L = (i, fit13 x)) := by
          show _ = _
          rw [HR.out.2, HD.out, frt, if_neg hf]
          simp
        clear hf
        go_wp2_with (go_at_call 42; refine HF.out.mono ?_; rintro e w2 ⟨rfl, hb2⟩)
        go_ret2
        exact ⟨by rw [HE.out]; rfl, HBw.out.trans (hb2.mono HBw.out.size)⟩
    · have g1 : ¬ (i : Int) < (L.length : Int) := by omega
      have HE : Hid (frt L = (L.length, 0)) := by
        have h := HR.out.2
        rw [List.drop_eq_nil_of_le (by omega)] at h
        rw [show i = L.length by omega] at h
        show _ = _
        rw [h]
        simp [frt]
      go_wp2_with fail
      go_ret2
      exact ⟨by rw [HE.out]; rfl, HR.out.1⟩
end
end Go.Proofs.YtnkghcndaafmoaaGreatDoor
