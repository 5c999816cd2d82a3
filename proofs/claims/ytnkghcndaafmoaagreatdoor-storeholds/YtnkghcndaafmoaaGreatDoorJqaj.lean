import Derived.Test.YtnkghcndaafmoaaGreatDoorJqai
import Derived.Test.YtnkghcndaafmoaaGreatDoorJql
import Derived.Test.YtnkghcndaafmoaaGreatDoorJqp
import Derived.Test.YtnkghcndaafmoaaGreatDoorJqt
import Derived.Test.YtnkghcndaafmoaaGreatDoorJqq
namespace Go.Proofs.YtnkghcndaafmoaaGreatDoor
section
open Go.RowKit Go
structure Snn (A : Nat) (w : World) (vL vB vE : Value) (L : List Blk) (ss : List Lk) : Prop where
  l : Lvg A w vL ss
  b : ∃ Bs, Rwg A w vB Bs (ss.map fun l => (getr13 L l).1)
  e : Ivg A w vE (ss.map fun l => (getr13 L l).2)
theorem Snn.kp {S : Nat → Prop} {A : Nat} {w w' : World} {vL vB vE : Value} {L : List Blk} {ss : List Lk} (h : Snn A w vL vB vE L ss) (hk : Kp S w w') (hs : ∀ q, S q → q < A) : Snn A w' vL vB vE L ss := by
  obtain ⟨Bs, hb⟩ := h.b
  exact ⟨h.l.kp hk (fun q h1 h2 => by have := hs q h2; omega), ⟨Bs, hb.kp hk (fun q h1 h2 => by have := hs q h2; omega)⟩, h.e.kp hk (fun q h1 h2 => by have := hs q h2; omega)⟩
def zs4 : Array Value := #[.slice none 0 0, .slice none 0 0, .slice none 0 0, .int .i64 0]
structure Sww (w wx : World) (rb xb : Nat) (z : Int) (vL vB vE : Value) (ss : List Lk) (Bs : List (Array Value)) (rows : List (List Nat)) (es : List Nat) : Prop where
  b : Below w.heap.size w wx
  x : wx.heap[xb]? = some (.cells #[vL, vB, vE, .int .i64 z] 49 (0, 0))
  r : wx.heap[rb]? = some (.cells zs4 49 (0, 0))
  hx : w.heap.size ≤ xb
  hr : rb ≠ xb
  l : Lvg w.heap.size wx vL ss
  ro : Rwg w.heap.size wx vB Bs rows
  i : Ivg w.heap.size wx vE es
theorem Sww.next {w wx wy : World} {rb xb : Nat} {z : Int} {vL vB vE : Value} {ss : List Lk} {Bs : List (Array Value)} {rows : List (List Nat)} {es : List Nat} (h : Sww w wx rb xb z vL vB vE ss Bs rows es) (hb : Below wx.heap.size wx wy) : Sww w wy rb xb z vL vB vE ss Bs rows es :=
  ⟨h.b.trans (hb.mono h.b.size), (hb.block _ (blk_lt h.x)).trans h.x, (hb.block _ (blk_lt h.r)).trans h.r, h.hx, h.hr, h.l.kp (Kp.of_below (S := fun _ => False) hb) (fun _ _ e => e.elim), h.ro.kp (Kp.of_below (S := fun _ => False) hb) (fun _ _ e => e.elim), h.i.kp (Kp.of_below (S := fun _ => False) hb) (fun _ _ e => e.elim)⟩
theorem Sww.putB {w wx wy : World} {rb xb : Nat} {z : Int} {vL vB vE v' vb : Value} {ss : List Lk} {Bs : List (Array Value)} {rows : List (List Nat)} {es : List Nat} {x : List Nat} (h : Sww w wx rb xb z vL vB vE ss Bs rows es) (hx : Byv w.heap.size wx vb x) (h6 : wy.ownsRow w.heap.size 39 1 v' (Bs.length + 1) (gfl (Bs ++ [#[vb]]))) (hg : wx.grownBy wy vB.ownBlock) : Sww w (wy.setCell ⟨xb, 1, none⟩ v') rb xb z vL v' vE ss (Bs ++ [#[vb]]) (rows ++ [x]) es := by
  have hk : Kp (fun q => vB.ownBlock = some q) wx wy := (Kp.refl _ wx).grown hg (fun q _ e => e)
  have ht : ∀ q, vB.ownBlock = some q → ∃ cs z, wx.heap[q]? = some (.cells cs 39 z) := fun q hq => by
    obtain ⟨cur, e⟩ := own_blk13 h.ro.o hq
    exact ⟨cur, _, e⟩
  have hx1 : wy.heap[xb]? = some (.cells #[vL, vB, vE, .int .i64 z] 49 (0, 0)) := (hk.block _ (blk_lt h.x) (fun hq => own_typ13 h.ro.o h.x (by decide) hq)).trans h.x
  have hr1 : wy.heap[rb]? = some (.cells zs4 49 (0, 0)) := (hk.block _ (blk_lt h.r) (fun hq => own_typ13 h.ro.o h.r (by decide) hq)).trans h.r
  have hw1 : Rwg w.heap.size wy v' (Bs ++ [#[vb]]) (rows ++ [x]) := h.ro.app hx h6 hg
  have hl1 : Lvg w.heap.size wy vL ss := h.l.kp hk (fun q _ hq => by obtain ⟨cs, z, e⟩ := ht q hq; exact ⟨cs, _, z, e, by decide⟩)
  have hi1 : Ivg w.heap.size wy vE es := h.i.kp hk (fun q _ hq => by obtain ⟨cs, z, e⟩ := ht q hq; exact ⟨cs, _, z, e, by decide⟩)
  have hb1 : Below w.heap.size w wy := h.b.trans (hk.below h.b.size (fun q hq => (h.ro.o.lt q hq).1))
  have hk2 : Kp (fun q => q = xb) wy (wy.setCell ⟨xb, 1, none⟩ v') := (Kp.refl _ wy).setCell _ _ (fun _ => rfl)
  have hs2 : ∀ t : TypeId, t ≠ 49 → ∀ q, w.heap.size ≤ q → q = xb → ∃ cs t' z, wy.heap[q]? = some (.cells cs t' z) ∧ t' ≠ t := fun t ht q _ e => ⟨_, _, _, e ▸ hx1, fun e => ht e.symm⟩
  exact ⟨hb1.trans (hk2.below hb1.size (fun q e => by have := h.hx; omega)), blk_set 1 v' hx1, (hk2.block _ (blk_lt hr1) h.hr).trans hr1, h.hx, h.hr, hl1.kp hk2 (hs2 _ (by decide)), hw1.kp hk2 (fun q _ e => ⟨_, _, _, e ▸ hx1, by decide, by decide⟩), hi1.kp hk2 (hs2 _ (by decide))⟩
theorem Sww.putE {w wx wy : World} {rb xb : Nat} {z : Int} {vL vB vE v' : Value} {ss : List Lk} {Bs : List (Array Value)} {rows : List (List Nat)} {es : List Nat} {x : Nat} (h : Sww w wx rb xb z vL vB vE ss Bs rows es) (h6 : wy.ownsRow w.heap.size 29 1 v' ((igf es).length + 1) (gfl (igf es ++ [#[.int .i64 (x : Nat)]]))) (hg : wx.grownBy wy vE.ownBlock) : Sww w (wy.setCell ⟨xb, 2, none⟩ v') rb xb z vL vB v' ss Bs rows (es ++ [x]) := by
  have hk : Kp (fun q => vE.ownBlock = some q) wx wy := (Kp.refl _ wx).grown hg (fun q _ e => e)
  have ht : ∀ q, vE.ownBlock = some q → ∃ cs z, wx.heap[q]? = some (.cells cs 29 z) := fun q hq => by
    obtain ⟨cur, e⟩ := own_blk13 h.i.o hq
    exact ⟨cur, _, e⟩
  have hx1 : wy.heap[xb]? = some (.cells #[vL, vB, vE, .int .i64 z] 49 (0, 0)) := (hk.block _ (blk_lt h.x) (fun hq => own_typ13 h.i.o h.x (by decide) hq)).trans h.x
  have hr1 : wy.heap[rb]? = some (.cells zs4 49 (0, 0)) := (hk.block _ (blk_lt h.r) (fun hq => own_typ13 h.i.o h.r (by decide) hq)).trans h.r
  have hw1 : Rwg w.heap.size wy vB Bs rows := h.ro.kp hk (fun q _ hq => by obtain ⟨cs, z, e⟩ := ht q hq; exact ⟨cs, _, z, e, by decide, by decide⟩)
  have hl1 : Lvg w.heap.size wy vL ss := h.l.kp hk (fun q _ hq => by obtain ⟨cs, z, e⟩ := ht q hq; exact ⟨cs, _, z, e, by decide⟩)
  have hi1 : Ivg w.heap.size wy v' (es ++ [x]) := ⟨by
    have e : igf (es ++ [x]) = igf es ++ [#[.int .i64 (x : Nat)]] := by unfold igf; rw [List.map_append]; rfl
    rw [e, List.length_append]
    exact h6⟩
  have hb1 : Below w.heap.size w wy := h.b.trans (hk.below h.b.size (fun q hq => (h.i.o.lt q hq).1))
  have hk2 : Kp (fun q => q = xb) wy (wy.setCell ⟨xb, 2, none⟩ v') := (Kp.refl _ wy).setCell _ _ (fun _ => rfl)
  have hs2 : ∀ t : TypeId, t ≠ 49 → ∀ q, w.heap.size ≤ q → q = xb → ∃ cs t' z, wy.heap[q]? = some (.cells cs t' z) ∧ t' ≠ t := fun t ht q _ e => ⟨_, _, _, e ▸ hx1, fun e => ht e.symm⟩
  exact ⟨hb1.trans (hk2.below hb1.size (fun q e => by have := h.hx; omega)), blk_set 2 v' hx1, (hk2.block _ (blk_lt hr1) h.hr).trans hr1, h.hx, h.hr, hl1.kp hk2 (hs2 _ (by decide)), hw1.kp hk2 (fun q _ e => ⟨_, _, _, e ▸ hx1, by decide, by decide⟩), hi1.kp hk2 (hs2 _ (by decide))⟩
theorem Sww.xB {w wx wy : World} {rb xb : Nat} {z : Int} {vL vB vE : Value} {ss : List Lk} {Bs : List (Array Value)} {rows : List (List Nat)} {es : List Nat} (h : Sww w wx rb xb z vL vB vE ss Bs rows es) (hg : wx.grownBy wy vB.ownBlock) : wy.heap[xb]? = some (.cells #[vL, vB, vE, .int .i64 z] 49 (0, 0)) := (((Kp.refl (fun q => vB.ownBlock = some q) wx).grown hg (fun q _ e => e)).block _ (blk_lt h.x) (fun hq => own_typ13 h.ro.o h.x (by decide) hq)).trans h.x
theorem Sww.xE {w wx wy : World} {rb xb : Nat} {z : Int} {vL vB vE : Value} {ss : List Lk} {Bs : List (Array Value)} {rows : List (List Nat)} {es : List Nat} (h : Sww w wx rb xb z vL vB vE ss Bs rows es) (hg : wx.grownBy wy vE.ownBlock) : wy.heap[xb]? = some (.cells #[vL, vB, vE, .int .i64 z] 49 (0, 0)) := (((Kp.refl (fun q => vE.ownBlock = some q) wx).grown hg (fun q _ e => e)).block _ (blk_lt h.x) (fun hq => own_typ13 h.i.o h.x (by decide) hq)).trans h.x
theorem infoSn13 : (Tryz.prog.info? 49).map (·.size) = some 4 := by kernel_rfl
theorem one13 (a b c : Option Addr) (i j k l m n : Nat) (z : Int) : (#[.slice a l i, .slice b m j, .slice c n k, .int .i64 z] : Array Value).all (·.oneCell') = true := by
  simp [Value.oneCell']
theorem own_links13 {w : World} {base : Nat} {a : Option Addr} {n cap : Nat} {ss : List Lk} (h : w.ownsRow base 41 4 (.slice a n cap) ss.length (lfl ss)) (hn : 0 < ss.length) : ∃ blk, a = some ⟨blk, 0, none⟩ ∧ base ≤ blk ∧ blk < w.heap.size ∧ ∀ i l, ss[i]? = some l → ∀ k u, (lcs l)[k]? = some u → w.cell? ⟨blk, i * 4 + k, none⟩ = some u := by
  rcases id h.2 with ⟨_, h0⟩ | ⟨q, cp, cur, hv, h1, h2, h3, h4⟩
  · omega
  · injection hv with e1 e2 e3
    refine ⟨q, e1, h1, blk_lt h2, fun i l hl k u hu => ?_⟩
    have h5 := lfl_get hl hu
    rw [← h4.2.2, List.getElem?_take] at h5
    split at h5
    · exact blk_cell (j := i * 4 + k) h2 (by rw [← Array.getElem?_toList]; exact h5)
    · cases h5
theorem take_map13 {α β : Type} {l : List α} {i : Nat} {x : α} (h : l[i]? = some x) (f : α → β) : (l.take (i + 1)).map f = (l.take i).map f ++ [f x] := by
  obtain ⟨hi, e⟩ := List.getElem?_eq_some_iff.1 h
  rw [List.take_add_one, h, List.map_append]
  rfl
set_option maxRecDepth 1000000 in
set_option maxHeartbeats 4000000 in
theorem see13_any (w : World) (g B r : Nat) (L : List Blk) (hS : Sto w g B r L) (hok : Gok L) (hcb : ∀ wy, Kp (fun q => q = g) w wy → Cb wy) : Calls Tryz.prog 11 #[.pointer (some ⟨g, 0, none⟩)] w fun e w' => (∃ vL vB vE ss, e = .returned (.agg #[vL, vB, vE, .int .i64 (szB L : Nat)]) ∧ Srtd L ss ∧ Snn w.heap.size w' vL vB vE L ss) ∧ Below w.heap.size w w' := by
  have HS := hide hS
  have HCB := hide hcb
  have HB0 : Hid (Below w.heap.size w (w.alloc (.cells zs4 49))) := below_alloc4 w _
  have HR0 : Hid ((w.alloc (.cells zs4 49)).heap[w.heap.size]? = some (.cells zs4 49 (0, 0))) := heap_alloc_new w _
  have HLK := hide (links13_own (w.alloc (.cells zs4 49)) g B r L (HS.out.next HB0.out) hok)
  have HLN : Hid (L.length ≤ 65536) := by have h1 := hS.n; have h2 := hS.h.2; show _ ≤ _; omega
  clear hS hcb hok
  unfold zs4 at HB0 HR0 HLK
  go_enter Tryz.func11, Tryz.ntmps11
  go_upto_region 1 with fail
  generalize w.alloc (.cells #[.slice none 0 0, .slice none 0 0, .slice none 0 0, .int .i64 0] 49) = w0 at *
  go_upto_region 2 with (first
    | (go_at_call 33; refine HLK.out.mono ?_; rintro e w1 ⟨⟨a, n, cap, ss, rfl, hsr, hlv⟩, hb1⟩; have HZ1 := hide (size13_any w1 g B r L ((HS.out.next HB0.out).next hb1)))
    | (go_at_call 34; refine HZ1.out.mono ?_; rintro e wq ⟨rfl, hwq⟩; have hwq := hwq.symm; subst hwq))
  have HSR := hide hsr
  have HSL : Hid (ss.length = L.length) := by have := hsr.1.length_eq; rw [List.length_map] at this; exact this
  have hn : n = ss.length := by
    have h1 := own_formG hlv.o
    obtain ⟨a', cap', e, _⟩ := h1
    injection e
  subst hn
  have HB2 : Hid (Below w.heap.size w (w1.alloc (.cells #[.slice a ss.length cap, .slice none 0 0, .slice none 0 0, .int .i64 (szB L : Nat)] 49))) := (HB0.out.trans (hb1.mono HB0.out.size)).trans ((below_alloc4 w1 _).mono (by have h1 := HB0.out.size; have h2 := hb1.size; omega))
  have HW2 : Hid (Sww w (w1.alloc (.cells #[.slice a ss.length cap, .slice none 0 0, .slice none 0 0, .int .i64 (szB L : Nat)] 49)) w.heap.size w1.heap.size (szB L : Nat) (.slice a ss.length cap) (.slice none 0 0) (.slice none 0 0) ss [] [] []) := by
    have hz1 : w.heap.size < w1.heap.size := blk_lt ((hb1.block _ (blk_lt HR0.out)).trans HR0.out)
    have hz0 : w.heap.size ≤ w0.heap.size := HB0.out.size
    have hlv2 : Lvg w.heap.size w1 (.slice a ss.length cap) ss := ⟨⟨hlv.o.1, hlv.o.2.imp id (fun ⟨q, c1, c2, h1, h2, h3⟩ => ⟨q, c1, c2, h1, by omega, h3⟩)⟩, hlv.b⟩
    exact ⟨HB2.out, heap_alloc_new w1 _, blk_alloc _ ((hb1.block _ (blk_lt HR0.out)).trans HR0.out), by omega, by omega, hlv2.kp (Kp.of_below (S := fun _ => False) (below_alloc4 w1 _)) (fun _ _ e => e.elim), ⟨World.ownsRow_nil _ _ _ _, rfl, fun _ _ _ h => by cases h⟩, ⟨World.ownsRow_nil _ _ _ _⟩⟩
  clear HB0 HR0 HLK HZ1 hsr hlv hb1 HB2
  generalize w1.alloc (.cells #[.slice a ss.length cap, .slice none 0 0, .slice none 0 0, .int .i64 (szB L : Nat)] 49) = w2 at *
  obtain ⟨xb, hxb⟩ : ∃ xb, w1.heap.size = xb := ⟨_, rfl⟩
  rw [hxb] at HW2 ⊢
  clear hxb
  go_upto_region 3 with fail
  go_loopw [4] (fun ii wx => ∃ (i : Nat) (vB vE : Value) (Bs : List (Array Value)), i ≤ ss.length ∧ ii = .int .i64 (i : Nat) ∧ Hid (Sww w wx w.heap.size xb (szB L : Nat) (.slice a ss.length cap) vB vE ss Bs ((ss.take i).map fun l => (getr13 L l).1) ((ss.take i).map fun l => (getr13 L l).2))) (fun ii _ => ss.length - (intOf ii).toNat)
  case atStart => exact ⟨0, _, _, _, by omega, rfl, HW2.out⟩
  case round =>
    obtain ⟨i, vB, vE, Bs, hi, rfl, HW⟩ := hrel
    clear HW2
    have h65 : (ss.length : Int) ≤ 65536 := by have h1 := HLN.out; have h2 := HSL.out; omega
    have x0 : wr.cell? ⟨xb, 0, none⟩ = some (.slice a ss.length cap) := blk_cell (j := 0) HW.out.x rfl
    by_cases hlt : i < ss.length
    · have g1 : (i : Int) < (ss.length : Int) := by omega
      obtain ⟨l, hl⟩ : ∃ l, ss[i]? = some l := ⟨_, List.getElem?_eq_getElem hlt⟩
      obtain ⟨blk, rfl, -, -, hcell⟩ := own_links13 HW.out.l.o (by omega)
      have HC0 : Hid (∀ k u, (lcs l)[k]? = some u → wr.cell? ⟨blk, i * 4 + k, none⟩ = some u) := fun k u hu => hcell i l hl k u hu
      have HSX := hide (HS.out.next HW.out.b)
      have HLX : Hid (Lkx l) := HW.out.l.b l (List.mem_of_getElem? hl)
      have HG := hide (get13_bel wr g B r L HSX.out l HLX.out (fun wy hy => HCB.out wy ((Kp.of_below HW.out.b).trans hy (fun _ _ e => e))))
      have HR1 : Hid ((ss.take (i + 1)).map (fun l => (getr13 L l).1) = (ss.take i).map (fun l => (getr13 L l).1) ++ [(getr13 L l).1]) := take_map13 hl _
      have HR2 : Hid ((ss.take (i + 1)).map (fun l => (getr13 L l).2) = (ss.take i).map (fun l => (getr13 L l).2) ++ [(getr13 L l).2]) := take_map13 hl _
      have HT1 : Hid (((ss.take i).map fun l => (getr13 L l).1).length = i) := by show _ = _; simp; omega
      have HT2 : Hid (((ss.take i).map fun l => (getr13 L l).2).length = i) := by show _ = _; simp; omega
      clear hcell hl
      go_upto_region 6 with (first
        | (refine wpList_lkAt rfl rfl blk (i * 4) l rfl HC0.out ?_)
        | (go_at_call 30; refine HG.out.mono ?_; rintro e w3 ⟨⟨v, rfl, hbv, hov⟩, hb3⟩))
      have HW3 := hide (HW.out.next hb3)
      have HBY : Hid (Byv w.heap.size w3 v (getr13 L l).1) := ⟨hbv, fun q hq => ⟨Nat.le_trans HW.out.b.size (hov q hq).1, (hov q hq).2⟩⟩
      obtain ⟨⟨va, vc, rfl, -⟩, -⟩ := id hbv
      obtain ⟨aB, cB, rfl, -⟩ := own_formG HW3.out.ro.o
      obtain ⟨aE, cE, rfl, -⟩ := own_formG HW3.out.i.o
      generalize (getr13 L l).1 = bx at *
      generalize (getr13 L l).2 = ex at *
      generalize (ss.take i).map (fun l => (getr13 L l).1) = rows at *
      generalize (ss.take i).map (fun l => (getr13 L l).2) = es at *
      clear hbv hov hb3 HC0 HG HSX x0
      have x1 : w3.cell? ⟨xb, 1, none⟩ = some (.slice aB Bs.length cB) := blk_cell (j := 1) HW3.out.x rfl
      have HW4 := hide (HW3.out.next (below_alloc4 w3 (.cells #[.slice va bx.length vc] 39)))
      have HB4 : Hid (Byv w.heap.size (w3.alloc (.cells #[.slice va bx.length vc] 39)) (.slice va bx.length vc) bx) := HBY.out.kp (Kp.of_below (S := fun _ => False) (below_alloc4 w3 _)) (fun _ _ e => e.elim)
      have HT4 : Hid ((w3.alloc (.cells #[.slice va bx.length vc] 39)).heap[w3.heap.size]? = some (.cells #[.slice va bx.length vc] 39 (0, 0))) := heap_alloc_new w3 _
      have HON : Hid (∀ u ∈ (#[.slice va bx.length vc] : Array Value).toList, u.oneCell' = true) := by
        intro u hu
        simp at hu
        rw [hu]
        rfl
      have HNK : Hid (Bs.length ≤ 1000000) := by have h1 := HW4.out.ro.n; have h2 := HT1.out; have h3 := HLN.out; have h4 := HSL.out; show _ ≤ _; omega
      have HWB : Hid (w.heap.size ≤ (w3.alloc (.cells #[.slice va bx.length vc] 39)).heap.size) := HW4.out.b.size
      go_upto_region 7 with (refine append_g infoBy13 Tryz.underlying46 rfl (by decide) (by decide) rfl rfl rfl HW4.out.ro.o rfl HT4.out rfl HON.out HNK.out HWB.out ?_; intro v5 w5 h6 h7 _; obtain ⟨a5, c5, hv5, -⟩ := own_formG h6; subst hv5; have x5 := blk_cell (j := 1) (HW4.out.xB h7) rfl; have z5 := blk_frozen 1 (HW4.out.xB h7))
      have HW6 := hide (HW4.out.putB HB4.out h6 h7)
      clear h6 h7 x5 z5 x1 HW3 HW4 HB4 HT4 HON HNK HWB HBY HW
      generalize w5.setCell ⟨xb, 1, none⟩ (.slice a5 (Bs.length + 1) c5) = w6 at *
      have x2 : w6.cell? ⟨xb, 2, none⟩ = some (.slice aE (igf es).length cE) := blk_cell (j := 2) HW6.out.x rfl
      have HW7 := hide (HW6.out.next (below_alloc4 w6 (.cells #[.int .i64 (ex : Nat)] 29)))
      have HT7 : Hid ((w6.alloc (.cells #[.int .i64 (ex : Nat)] 29)).heap[w6.heap.size]? = some (.cells #[.int .i64 (ex : Nat)] 29 (0, 0))) := heap_alloc_new w6 _
      have HON : Hid (∀ u ∈ (#[.int .i64 (ex : Nat)] : Array Value).toList, u.oneCell' = true) := fun u hu => by
        simp at hu
        rw [hu]
        rfl
      have HNK : Hid ((igf es).length ≤ 1000000) := by have h2 := HT2.out; have h3 := HLN.out; have h4 := HSL.out; show _ ≤ _; unfold igf; rw [List.length_map]; omega
      have HWB : Hid (w.heap.size ≤ (w6.alloc (.cells #[.int .i64 (ex : Nat)] 29)).heap.size) := HW7.out.b.size
      go_wp2_with (refine append_g infoEr13 Tryz.underlying47 rfl (by decide) (by decide) rfl rfl rfl HW7.out.i.o rfl HT7.out rfl HON.out HNK.out HWB.out ?_; intro v8 w8 h6 h7 _; obtain ⟨a8, c8, hv8, -⟩ := own_formG h6; subst hv8; have HW9 := hide (HW7.out.putE h6 h7); have x8 := blk_cell (j := 2) (HW7.out.xE h7) rfl; have z8 := blk_frozen 2 (HW7.out.xE h7))
      go_roundw
      case rel => exact ⟨i + 1, _, _, _, by omega, by go_num, by rw [HR1.out, HR2.out]; exact HW9.out⟩
      case measure => simp [intOf]; omega
    · have g1 : ¬ (i : Int) < (ss.length : Int) := by omega
      have hi2 : i = ss.length := by omega
      subst hi2
      rw [List.take_length] at HW
      obtain ⟨aB, cB, rfl, -⟩ := own_formG HW.out.ro.o
      obtain ⟨aE, cE, rfl, -⟩ := own_formG HW.out.i.o
      have HX := hide HW.out.x
      have HR := hide HW.out.r
      have HI := hide infoSn13
      have HON := hide (one13 a aB aE cap cB cE ss.length Bs.length (igf (ss.map fun l => (getr13 L l).2)).length (szB L : Nat))
      go_wp2_with (first
        | (refine wpList_loadAll rfl rfl xb #[.slice a ss.length cap, .slice aB Bs.length cB, .slice aE (igf (ss.map fun l => (getr13 L l).2)).length cE, .int .i64 (szB L : Nat)] 49 rfl HX.out Tryz.underlying49 HI.out ?_)
        | (refine wpList_storeRow rfl rfl w.heap.size _ #[.slice a ss.length cap, .slice aB Bs.length cB, .slice aE (igf (ss.map fun l => (getr13 L l).2)).length cE, .int .i64 (szB L : Nat)] 49 rfl rfl HR.out HI.out rfl HON.out ?_))
      have hk : Kp (fun q => q = w.heap.size) wr (wr.setRow w.heap.size #[.slice a ss.length cap, .slice aB Bs.length cB, .slice aE (igf (ss.map fun l => (getr13 L l).2)).length cE, .int .i64 (szB L : Nat)]) := row_kp _ _ _
      have hs2 : ∀ t : TypeId, t ≠ 49 → ∀ q, w.heap.size ≤ q → q = w.heap.size → ∃ cs t' z, wr.heap[q]? = some (.cells cs t' z) ∧ t' ≠ t := fun t ht q _ e => ⟨_, _, _, e ▸ HR.out, fun e => ht e.symm⟩
      refine bodyPost_ret (v := .agg #[.slice a ss.length cap, .slice aB Bs.length cB, .slice aE (igf (ss.map fun l => (getr13 L l).2)).length cE, .int .i64 (szB L : Nat)]) ((results_one (p := 2) (ty := 49) rfl _ _ _).trans (run_loadVar_row (P := Tryz.prog) _ w.heap.size 49 49 #[.slice a ss.length cap, .slice aB Bs.length cB, .slice aE (igf (ss.map fun l => (getr13 L l).2)).length cE, .int .i64 (szB L : Nat)] (0, 0) _ (row_same HR.out) Tryz.underlying49 rfl HI.out)) rfl ?_
      refine ⟨⟨.slice a ss.length cap, .slice aB Bs.length cB, .slice aE (igf (ss.map fun l => (getr13 L l).2)).length cE, rfl, ss, HSR.out, ?_⟩, HW.out.b.trans (hk.below HW.out.b.size (fun q e => by omega))⟩
      exact ⟨HW.out.l.kp hk (hs2 _ (by decide)), ⟨_, HW.out.ro.kp hk (fun q _ e => ⟨_, _, _, e ▸ HR.out, by decide, by decide⟩)⟩, HW.out.i.kp hk (hs2 _ (by decide))⟩
end
section
open Go.RowKit Go
set_option maxRecDepth 1000000 in
set_option maxHeartbeats 1000000 in
theorem holds4_any (w : World) (l : Lk) (vb : Value) (b : List Nat) (hcb : Cb w) (hl : Lkb l) (hb : BSl w vb b) (hbl : b.length ≤ 140737488351232) :
    Calls Tryz.prog 15 #[lkv l, vb] w fun e w' => e = .returned (.bool (decide (lok l) && dholds l.h l.d b)) ∧ Below w.heap.size w w' := by
  have HB := hide hb
  have HBL := hide hbl
  have HL := hide hl
  have HCB := hide hcb
  obtain ⟨⟨a, cap, rfl, hn, hc⟩, hmax, hby⟩ := hb
  have HT : Hid ((w.alloc (.cells #[.int .i64 l.v, .int .u64 (l.c : Nat), .int .u64 (l.h : Nat), .string (nstr l.d)] 41)).heap[w.heap.size]? = some (.cells (lcs l) 41 (0, 0))) := heap_alloc_new w _
  have HB0 := hide (below_alloc4 w (.cells #[.int .i64 l.v, .int .u64 (l.c : Nat), .int .u64 (l.h : Nat), .string (nstr l.d)] 41))
  clear hn hc hby hbl hcb hl
  simp only [lkv]
  go_enter Tryz.func15, Tryz.ntmps15
  go_wp2_with fail
  generalize w.alloc (.cells #[.int .i64 l.v, .int .u64 (l.c : Nat), .int .u64 (l.h : Nat), .string (nstr l.d)] 41) = w0 at *
  refine (check_any w0 l HL.out).mono ?_
  rintro e w1 ⟨rfl, hb1⟩
  have q0 : w1.heap[w.heap.size]? = some (.cells (lcs l) 41 (0, 0)) := (hb1.block _ (blk_lt HT.out)).trans HT.out
  have HB1 : Hid (Below w.heap.size w w1) := HB0.out.trans (hb1.mono HB0.out.size)
  have c2 : w1.cell? ⟨w.heap.size, 2, none⟩ = some (.int .u64 (l.h : Nat)) := blk_cell q0 rfl
  have c3 : w1.cell? ⟨w.heap.size, 3, none⟩ = some (.string (nstr l.d)) := blk_cell q0 rfl
  have cv := conv_sb w1 (nstr l.d)
  clear hb1 q0
  by_cases hl : lok l
  · as_aux_lemma =>
    rw [if_pos hl]
    have HLK := hide hl
    clear hl
    have HS1 : Hid (BSl (Lib.bytesWorld w1 5 (nstr l.d)) (.slice (some ⟨w1.heap.size, 0, none⟩) (nstr l.d).size (grownCap w1 (nstr l.d).size 0 5)) l.d) := by
      have h := conv_sb_bsl w1 (nstr l.d) (by rw [HL.out.size]; have := HL.out.n; omega)
      rw [sl_nstr HL.out.d] at h
      exact h
    have HB2 : Hid (Below w.heap.size w (Lib.bytesWorld w1 5 (nstr l.d))) := HB1.out.trans ((conv_sb_below w1 _).mono HB1.out.size)
    go_wp2_with fail
    clear cv c2 c3
    generalize grownCap w1 (nstr l.d).size 0 5 = G at *
    generalize w1.heap.size = gg at *
    generalize Lib.bytesWorld w1 5 (nstr l.d) = w2 at *
    refine (holds3_any w2 l.h _ _ l.d b (HCB.out.below HB2.out) HL.out.h HS1.out (HB.out.move (keep_below HB2.out)) HBL.out).mono ?_
    rintro e w3 ⟨rfl, hb3⟩
    have HB3 : Hid (Below w.heap.size w w3) := HB2.out.trans (hb3.mono HB2.out.size)
    clear hb3
    go_wp2_with fail
    go_ret
    exact ⟨by rw [decide_eq_true HLK.out, Bool.true_and]; rfl, HB3.out⟩
  · as_aux_lemma =>
    rw [if_neg hl]
    have HLK := hide hl
    clear hl
    go_wp2_with fail
    go_ret
    exact ⟨by rw [decide_eq_false HLK.out, Bool.false_and]; rfl, HB1.out⟩
end
end Go.Proofs.YtnkghcndaafmoaaGreatDoor
