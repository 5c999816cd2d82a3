import Derived.Test.YtdejcapbggjjgaaGreatDoorJp
import Derived.Test.YtdejcapbggjjgaaGreatDoorJq
import Derived.Test.YtdejcapbggjjgaaGreatDoorJt
import Derived.Test.YtdejcapbggjjgaaGreatDoorJv
import Derived.Test.YtdejcapbggjjgaaGreatDoorJw
import Derived.Test.YtdejcapbggjjgaaGreatDoorJg
import Derived.Test.YtdejcapbggjjgaaGreatDoorJc
import Derived.Test.YtdejcapbggjjgaaGreatDoorJb
import Derived.Test.YtdejcapbggjjgaaGreatDoorJf
import Derived.Lib.SmallJoins
import Derived.Test.YtdejcapbggjjgaaGreatDoorJi
import Derived.Test.YtdejcapbggjjgaaGreatDoorRows
import Derived.Lib.LaidU8T
import Derived.Lib.LaidIn
import Derived.Test.YtdejcapbggjjgaaGreatDoorJd
namespace Go.Proofs.YtdejcapbggjjgaaGreatDoor
section
open Go.RowKit Go
/-- The book, and what else stood where told began. -/
structure Tb (w : World) (base B : Nat) (C : Array Value) (f : Fin 4 → Fs) (t d u : Nat) (wx : World) : Prop where
  bk : Bkq wx base B C f t d u
  b : Below w.heap.size w wx
theorem Tb.next {w wx wy : World} {base B : Nat} {C : Array Value} {f : Fin 4 → Fs} {t d u : Nat} (h : Tb w base B C f t d u wx) (hb : Below wx.heap.size wx wy) : Tb w base B C f t d u wy := ⟨h.bk.next hb, h.b.trans (hb.mono h.b.size)⟩
/-- An answer of the landed code: a tree with blocks of its own. -/
structure Tn (wx : World) (g lo hi : Nat) (c f : Array Value) (v : Tv) : Prop where
  t : Td wx g c f
  n : Nor wx lo hi v c
  hg : hi ≤ g
theorem Tn.next {wx wy : World} {g lo hi : Nat} {c f : Array Value} {v : Tv} (h : Tn wx g lo hi c f v) (hb : Below wx.heap.size wx wy) : Tn wy g lo hi c f v := ⟨h.t.next hb, h.n.kept hb, h.hg⟩
theorem Tn.kp {wx wy : World} {g lo hi : Nat} {c f : Array Value} {v : Tv} {S : Nat → Prop} (h : Tn wx g lo hi c f v) (hk : Kp S wx wy) (hs : ∀ q, lo ≤ q → q < hi → ¬ S q) (h1 : ¬ S g) (h2 : ¬ S (g + 1)) : Tn wy g lo hi c f v := ⟨h.t.kp hk h1 h2, h.n.kp hk hs, h.hg⟩
theorem Tn.start {w : World} {lo : Nat} {c : Array Value} {v : Tv} (h : Nor w lo w.heap.size v c) (f : Array Value) : Tn ((((w.alloc (.cells zv 61)).alloc (.cells zfe 64)).setRow w.heap.size c).setRow (w.heap.size + 1) f) w.heap.size lo w.heap.size c f v := ⟨Td.start w c f, h.kept (bx2 w c f).l, Nat.le_refl _⟩
theorem Tn.tin {wx : World} {g lo hi : Nat} {c f : Array Value} {v : Tv} (h : Tn wx g lo hi c f v) : Tin wx v c := h.n.tin
/-- An answer of the reference. -/
structure Tw (wx : World) (g m : Nat) (c f : Array Value) (v : Tv) : Prop where
  t : Td wx g c f
  n : Wq wx m v c
  hg : m ≤ g
theorem Tw.next {wx wy : World} {g m : Nat} {c f : Array Value} {v : Tv} (h : Tw wx g m c f v) (hb : Below wx.heap.size wx wy) : Tw wy g m c f v := ⟨h.t.next hb, h.n.kp (Kp.of_below (S := fun _ => False) hb) (fun _ e => e.elim), h.hg⟩
theorem Tw.kp {wx wy : World} {g m : Nat} {c f : Array Value} {v : Tv} {S : Nat → Prop} (h : Tw wx g m c f v) (hk : Kp S wx wy) (hs : ∀ q, S q → q < m) : Tw wy g m c f v := ⟨h.t.kp hk (fun e => by have h1 := hs _ e; have h2 := h.hg; omega) (fun e => by have h1 := hs _ e; have h2 := h.hg; omega), h.n.kp hk hs, h.hg⟩
theorem Tw.start {w : World} {m : Nat} {c : Array Value} {v : Tv} (h : Tis w (fun q => q < m) v c) (hm : m ≤ w.heap.size) (f : Array Value) : Tw ((((w.alloc (.cells zv 61)).alloc (.cells zfe 64)).setRow w.heap.size c).setRow (w.heap.size + 1) f) w.heap.size m c f v := ⟨Td.start w c f, (Wq.of_tis h).kp (Kp.of_below (S := fun _ => False) (bx2 w c f).l) (fun _ e => e.elim), hm⟩
theorem Tw.tin {wx : World} {g m : Nat} {c f : Array Value} {v : Tv} (h : Tw wx g m c f v) : Tin wx v c := h.n (fun _ => False) wx (fun _ e => e.elim) (Kp.refl _ _)
/-- What the region of comparisons reads. -/
structure Tr (g1 g2 g3 g4 : Nat) (c1 c2 c3 c4 f1 f2 f3 f4 : Array Value) (wx : World) : Prop where
  a : Td wx g1 c1 f1
  b : Td wx g2 c2 f2
  c : Td wx g3 c3 f3
  d : Td wx g4 c4 f4
theorem Tr.next {g1 g2 g3 g4 : Nat} {c1 c2 c3 c4 f1 f2 f3 f4 : Array Value} {wx wy : World} (h : Tr g1 g2 g3 g4 c1 c2 c3 c4 f1 f2 f3 f4 wx) (hb : Below wx.heap.size wx wy) : Tr g1 g2 g3 g4 c1 c2 c3 c4 f1 f2 f3 f4 wy := ⟨h.a.next hb, h.b.next hb, h.c.next hb, h.d.next hb⟩
theorem nor_nos {w : World} {lo hi : Nat} {t : Tv} {c : Array Value} (h : Nor w lo hi t c) : Nos w lo (fun q => lo ≤ q ∧ q < hi) t c := h
/-- An answer there is to every question. -/
theorem asked_ex {b : List Nat} (hb : ∀ x ∈ b, x < 256) (D : Int) : ∃ R, Asked b D R ∧ (R.e ≠ 0 → R.v = tz8 0) ∧ R.p ≤ b.length ∧ tmuch R.v ≤ b.length + 1 := by
  by_cases hD : D < 0 ∨ 1024 < D
  · exact ⟨⟨80, 0, tz8 0⟩, .inr ⟨hD, rfl⟩, fun _ => rfl, Nat.zero_le _, by rw [tz8_much]; omega⟩
  · obtain ⟨d, rfl⟩ : ∃ d : Nat, D = (d : Int) := ⟨D.toNat, by omega⟩
    have hd : d ≤ 1024 := by omega
    obtain ⟨R, hR⟩ : ∃ r, mrun b d (mmu b m0 + 1) m0 = some r := mrun_ends (fun p => (hrd_bd _ (fun x hx => hb x (List.mem_of_mem_drop hx))).1) _ (Inv8.start b d) (Nat.lt_succ_self _)
    have h1 := (mrun_at (Nat.zero_le _ : m0.p ≤ b.length) hR).2
    have h2 := mrun_much hb hR (by show mw ⟨.plain, 0, []⟩ ≤ 0; simp [mw, labw])
    exact ⟨R, .inl ⟨d, _, rfl, hd, hR⟩, mrun_bad hR, h1, by omega⟩
theorem asked_decode (W : World) (hT : Tabs W) (w : World) (hW : Below W.heap.size W w) (vB : Value) (b : List Nat) (hB : BSl w vB b) (hBq : ∀ q, vB.ownBlock = some q → q < w.heap.size) (hbl : b.length ≤ 8388608) (D : Int) (R : Res) (hR : Asked b D R) : Calls Tryz.prog 13 #[vB, .int .i64 D] w (DecP w b R) := by
  rcases hR with ⟨d, N, rfl, hd, hR⟩ | ⟨hD, rfl⟩
  · exact decode8_any W hT w hW vB b hB hBq hbl d hd N R hR
  · exact decode8_none w vB b hB hbl D hD
theorem asked_first (W : World) (hT : Tabs W) (w : World) (hW : Below W.heap.size W w) (vB : Value) (b : List Nat) (hB : BSl w vB b) (hBq : ∀ q, vB.ownBlock = some q → q < w.heap.size) (hbl : b.length ≤ 8388608) (D : Int) (R : Res) (hR : Asked b D R) : Calls Tryz.prog 15 #[vB, .int .i64 D] w (FirstP w R) := by
  rcases hR with ⟨d, N, rfl, hd, hR⟩ | ⟨hD, rfl⟩
  · exact first8_any W hT w hW vB b hB hBq hbl d hd N R hR
  · exact first8_none w vB D hD
theorem asked_check (W : World) (hT : Tabs W) (w : World) (hW : Below W.heap.size W w) (vB : Value) (b : List Nat) (hB : BSl w vB b) (hBq : ∀ q, vB.ownBlock = some q → q < w.heap.size) (hbl : b.length ≤ 8388608) (D : Int) (R : Res) (hR : Asked b D R) : Calls Tryz.prog 18 #[vB, .int .i64 D] w (ChkP8 w (dflt b R).1 (dflt b R).2) := by
  rcases hR with ⟨d, N, rfl, hd, hR⟩ | ⟨hD, rfl⟩
  · exact check8_any W hT w hW vB b hB hBq hbl d hd N R hR
  · exact check8_none w vB b hB hbl D hD
set_option maxRecDepth 1000000 in
set_option maxHeartbeats 4000000 in
/-- All that is told of bytes is as the document says. -/
theorem told8_any (W : World) (hT : Tabs W) (w : World) (hW : Below W.heap.size W w) (vI vB : Value) (b : List Nat) (hI : BSl w vI b) (hB : BSl w vB b) (hIq : ∀ q, vI.ownBlock = some q → q < w.heap.size) (hbl : b.length ≤ 1048576) (D : Int) (base B : Nat) (C : Array Value) (f : Fin 4 → Fs) (tt d u : Nat) (h : Bkq w base B C f tt d u) (htt : tt + 6 * (b.length + 1) < 68719476736) :
    Calls Tryz.prog 6 #[vI, vB, .int .i64 D, .pointer (some ⟨B, 0, none⟩)] w fun e w' => e = .returned (.bool true) ∧ Hid (∃ n, n ≤ 6 * (b.length + 1) ∧ Ps w base B f tt d n w') := by
  obtain ⟨R, hR, hE, hP, hM⟩ := asked_ex hI.byte D
  have HDC : Hid (∀ wx : World, Below w.heap.size w wx → Calls Tryz.prog 13 #[vI, .int .i64 D] wx (DecP wx b R)) := fun wx hb => asked_decode W hT wx (hW.trans (hb.mono hW.size)) vI b (hI.move (keep_below hb)) (fun q hq => Nat.lt_of_lt_of_le (hIq q hq) hb.size) (by omega) D R hR
  have HFC : Hid (∀ wx : World, Below w.heap.size w wx → Calls Tryz.prog 15 #[vI, .int .i64 D] wx (FirstP wx R)) := fun wx hb => asked_first W hT wx (hW.trans (hb.mono hW.size)) vI b (hI.move (keep_below hb)) (fun q hq => Nat.lt_of_lt_of_le (hIq q hq) hb.size) (by omega) D R hR
  have HCC : Hid (∀ wx : World, Below w.heap.size w wx → Calls Tryz.prog 18 #[vI, .int .i64 D] wx (ChkP8 wx (dflt b R).1 (dflt b R).2)) := fun wx hb => asked_check W hT wx (hW.trans (hb.mono hW.size)) vI b (hI.move (keep_below hb)) (fun q hq => Nat.lt_of_lt_of_le (hIq q hq) hb.size) (by omega) D R hR
  have HRD : Hid (∀ wx : World, Below w.heap.size w wx → Calls Tryz.prog 14 #[vB, .int .i64 D] wx (RdP wx b R)) := fun wx hb => rdecode8_any wx vB b (hB.move (keep_below hb)) (by omega) D R hR hE
  have HRF : Hid (∀ wx : World, Below w.heap.size w wx → Calls Tryz.prog 16 #[vB, .int .i64 D] wx (RfP wx R)) := fun wx hb => rfirst8_any wx vB b (hB.move (keep_below hb)) (by omega) D R hR
  have HBS : Hid (base ≤ w.heap.size) := h.sz
  have HBL : Hid (∀ q, Ft4 B f q → q < w.heap.size) := fun q e => (h.lt q e).2
  have HM2 : Hid (tmuch R.v ≤ b.length + 1) := hM
  have HM1 : Hid (tmuch (if (dflt b R).1 = 0 then R.v else tz8 0) ≤ b.length + 1) := by
    show _ ≤ _
    split
    · exact hM
    · rw [tz8_much]; omega
  have HTT := hide htt
  have HBN := hide hbl
  have HQ : Hid (Tb w base B C f tt d u w) := ⟨h, Below.refl _ _⟩
  obtain ⟨⟨aI, cI, hvI, _, _⟩, _, _⟩ := hI
  subst hvI
  obtain ⟨⟨aB, cB, hvB, _, _⟩, _, _⟩ := hB
  subst hvB
  clear hT hW hIq hR hE hP hM h htt hbl
  unfold DecP RdP FirstP RfP at *
  generalize hV : (if (dflt b R).1 = 0 then R.v else tz8 0) = V at *
  generalize (dflt b R).1 = fe at *
  generalize (dflt b R).2 = fp at *
  clear hV
  generalize (if R.e = 0 then R.p else 0 : Nat) = nn at *
  generalize (if R.e = 0 then 0 else R.p : Nat) = ff at *
  generalize R.e = re at *
  generalize R.v = X at *
  clear R
  generalize hL : b.length = L at *
  clear hL
  have HAF := hide (fun e p => fce_all e p)
  have HIF : Hid (∀ e p, (Tryz.prog.info? 64).map (·.size) = some (fce e p).size) := fun _ _ => infoFE
  go_enter Tryz.func6, Tryz.ntmps6
  go_wp2_with fail
  refine (HDC.out w HQ.out.b).mono ?_
  rintro e w1 ⟨hb, c1, rfl, ht, hn⟩
  have HL1 : Hid (w.heap.size ≤ w1.heap.size) := hb.size
  have HX := hide (bx2 w1 c1 (fce fe fp))
  have HXa := hide HX.out.a
  have HXb := hide HX.out.b
  replace HQ := hide ((HQ.out.next hb).next HX.out.l)
  have HV1 := hide (Tn.start hn (fce fe fp))
  have HS1 := hide hn.size
  have HA := hide ht.tin.all1
  have HIN : Hid ((Tryz.prog.info? 61).map (·.size) = some c1.size) := by show _ = _; rw [HS1.out]; exact infoV
  have HZV : Hid (zv.size = c1.size) := by show _ = _; rw [HS1.out]; rfl
  have HAf := hide (HAF.out fe fp)
  have HIf := hide (HIF.out fe fp)
  clear hb ht HX hn
  unfold zv zfe at HQ HV1
  go_wp2_with (first
    | (refine wpList_storeRow rfl rfl w1.heap.size zv c1 61 rfl rfl HXa.out HIN.out HZV.out HA.out ?_)
    | (refine wpList_storeRow rfl rfl (w1.heap.size + 1) zfe (fce fe fp) 64 rfl rfl HXb.out HIf.out rfl HAf.out ?_))
  clear HXa HXb HIN HZV HA HAf HIf
  generalize (((w1.alloc (.cells #[.int .i64 0, .bool false, .bool false, .int .u64 0, .int .u64 0, .string ⟨#[]⟩, .slice none 0 0, .int .i64 0, .int .u64 0, .int .u64 0, .string ⟨#[]⟩, .slice none 0 0, .slice none 0 0] 61)).alloc (.cells #[.int .i64 0, .int .i64 0] 64)).setRow w1.heap.size c1).setRow (w1.heap.size + 1) (fce fe fp) = v1 at *
  have HB1 : Hid (w1.heap.size + 1 < v1.heap.size) := blk_lt HV1.out.t.y
  refine (HRD.out v1 HQ.out.b).mono ?_
  rintro e w2 ⟨hb, c2, rfl, ht⟩
  have HL2 : Hid (v1.heap.size ≤ w2.heap.size) := hb.size
  have HX := hide (bx2 w2 c2 (fce fe fp))
  have HXa := hide HX.out.a
  have HXb := hide HX.out.b
  replace HQ := hide ((HQ.out.next hb).next HX.out.l)
  replace HV1 := hide ((HV1.out.next hb).next HX.out.l)
  have HV2 := hide (Tw.start ht hb.size (fce fe fp))
  have HS2 := hide ht.tin.size13
  have HA := hide ht.tin.all1
  have HIN : Hid ((Tryz.prog.info? 61).map (·.size) = some c2.size) := by show _ = _; rw [HS2.out]; exact infoV
  have HZV : Hid (zv.size = c2.size) := by show _ = _; rw [HS2.out]; rfl
  have HAf := hide (HAF.out fe fp)
  have HIf := hide (HIF.out fe fp)
  clear hb ht HX
  unfold zv zfe at HQ HV1 HV2
  go_wp2_with (first
    | (refine wpList_storeRow rfl rfl w2.heap.size zv c2 61 rfl rfl HXa.out HIN.out HZV.out HA.out ?_)
    | (refine wpList_storeRow rfl rfl (w2.heap.size + 1) zfe (fce fe fp) 64 rfl rfl HXb.out HIf.out rfl HAf.out ?_))
  clear HXa HXb HIN HZV HA HAf HIf
  generalize (((w2.alloc (.cells #[.int .i64 0, .bool false, .bool false, .int .u64 0, .int .u64 0, .string ⟨#[]⟩, .slice none 0 0, .int .i64 0, .int .u64 0, .int .u64 0, .string ⟨#[]⟩, .slice none 0 0, .slice none 0 0] 61)).alloc (.cells #[.int .i64 0, .int .i64 0] 64)).setRow w2.heap.size c2).setRow (w2.heap.size + 1) (fce fe fp) = v2 at *
  have HB2 : Hid (w2.heap.size + 1 < v2.heap.size) := blk_lt HV2.out.t.y
  refine (HFC.out v2 HQ.out.b).mono ?_
  rintro e w3 ⟨hb, c3, rfl, ht, hn⟩
  have HL3 : Hid (v2.heap.size ≤ w3.heap.size) := hb.size
  have HX := hide (bx2 w3 c3 (fce re ff))
  have HXa := hide HX.out.a
  have HXb := hide HX.out.b
  replace HQ := hide ((HQ.out.next hb).next HX.out.l)
  replace HV1 := hide ((HV1.out.next hb).next HX.out.l)
  replace HV2 := hide ((HV2.out.next hb).next HX.out.l)
  have HV3 := hide (Tn.start hn (fce re ff))
  have HS3 := hide hn.size
  have HA := hide ht.tin.all1
  have HIN : Hid ((Tryz.prog.info? 61).map (·.size) = some c3.size) := by show _ = _; rw [HS3.out]; exact infoV
  have HZV : Hid (zv.size = c3.size) := by show _ = _; rw [HS3.out]; rfl
  have HAf := hide (HAF.out re ff)
  have HIf := hide (HIF.out re ff)
  clear hb ht HX hn
  unfold zv zfe at HQ HV1 HV2 HV3
  go_wp2_with (first
    | (refine wpList_storeRow rfl rfl w3.heap.size zv c3 61 rfl rfl HXa.out HIN.out HZV.out HA.out ?_)
    | (refine wpList_storeRow rfl rfl (w3.heap.size + 1) zfe (fce re ff) 64 rfl rfl HXb.out HIf.out rfl HAf.out ?_))
  clear HXa HXb HIN HZV HA HAf HIf
  generalize (((w3.alloc (.cells #[.int .i64 0, .bool false, .bool false, .int .u64 0, .int .u64 0, .string ⟨#[]⟩, .slice none 0 0, .int .i64 0, .int .u64 0, .int .u64 0, .string ⟨#[]⟩, .slice none 0 0, .slice none 0 0] 61)).alloc (.cells #[.int .i64 0, .int .i64 0] 64)).setRow w3.heap.size c3).setRow (w3.heap.size + 1) (fce re ff) = v3 at *
  have HB3 : Hid (w3.heap.size + 1 < v3.heap.size) := blk_lt HV3.out.t.y
  refine (HRF.out v3 HQ.out.b).mono ?_
  rintro e w4 ⟨hb, c4, rfl, ht⟩
  have HL4 : Hid (v3.heap.size ≤ w4.heap.size) := hb.size
  have HX := hide (bx2 w4 c4 (fce re ff))
  have HXa := hide HX.out.a
  have HXb := hide HX.out.b
  replace HQ := hide ((HQ.out.next hb).next HX.out.l)
  replace HV1 := hide ((HV1.out.next hb).next HX.out.l)
  replace HV2 := hide ((HV2.out.next hb).next HX.out.l)
  replace HV3 := hide ((HV3.out.next hb).next HX.out.l)
  have HV4 := hide (Tw.start ht hb.size (fce re ff))
  have HS4 := hide ht.tin.size13
  have HA := hide ht.tin.all1
  have HIN : Hid ((Tryz.prog.info? 61).map (·.size) = some c4.size) := by show _ = _; rw [HS4.out]; exact infoV
  have HZV : Hid (zv.size = c4.size) := by show _ = _; rw [HS4.out]; rfl
  have HAf := hide (HAF.out re ff)
  have HIf := hide (HIF.out re ff)
  clear hb ht HX
  unfold zv zfe at HQ HV1 HV2 HV3 HV4
  go_upto_region 5 with (first
    | (refine wpList_storeRow rfl rfl w4.heap.size zv c4 61 rfl rfl HXa.out HIN.out HZV.out HA.out ?_)
    | (refine wpList_storeRow rfl rfl (w4.heap.size + 1) zfe (fce re ff) 64 rfl rfl HXb.out HIf.out rfl HAf.out ?_))
  (try simp only [Act.put]); (try simp only [List.setIfInBounds_toArray, List.set_cons_zero, List.set_cons_succ])
  clear HXa HXb HIN HZV HA HAf HIf
  generalize (((w4.alloc (.cells #[.int .i64 0, .bool false, .bool false, .int .u64 0, .int .u64 0, .string ⟨#[]⟩, .slice none 0 0, .int .i64 0, .int .u64 0, .int .u64 0, .string ⟨#[]⟩, .slice none 0 0, .slice none 0 0] 61)).alloc (.cells #[.int .i64 0, .int .i64 0] 64)).setRow w4.heap.size c4).setRow (w4.heap.size + 1) (fce re ff) = v4 at *
  have HB4 : Hid (w4.heap.size + 1 < v4.heap.size) := blk_lt HV4.out.t.y
  go_cut [19] from 46 to 76 (fun vv wx => vv = .bool true ∧ Hid (Tb w base B C f tt d u wx) ∧ Hid (Tn wx w1.heap.size w.heap.size w1.heap.size c1 (fce fe fp) V) ∧ Hid (Tn wx w3.heap.size v2.heap.size w3.heap.size c3 (fce re ff) X) ∧ Hid (Tw wx w4.heap.size v3.heap.size c4 (fce re ff) X) ∧ Hid (v4.heap.size ≤ wx.heap.size))
  case first =>
    as_aux_lemma =>
      refine heldStart (S := Tr w1.heap.size w2.heap.size w3.heap.size w4.heap.size c1 c2 c3 c4 (fce fe fp) (fce fe fp) (fce re ff) (fce re ff)) (by kernel_rfl) ?_
      have hb : Below v4.heap.size v4 v4.drew := by
        refine Below.drew ?_
        exact Below.refl _ _
      replace HQ := hide (HQ.out.next hb)
      replace HV1 := hide (HV1.out.next hb)
      replace HV2 := hide (HV2.out.next hb)
      replace HV3 := hide (HV3.out.next hb)
      replace HV4 := hide (HV4.out.next hb)
      have HSZ : Hid (v4.heap.size ≤ v4.drew.heap.size) := hb.size
      have hS : Tr w1.heap.size w2.heap.size w3.heap.size w4.heap.size c1 c2 c3 c4 (fce fe fp) (fce fe fp) (fce re ff) (fce re ff) v4.drew := ⟨HV1.out.t, HV2.out.t, HV3.out.t, HV4.out.t⟩
      clear hb
      generalize v4.drew = v5 at *
      refine heldTake 0 _ rfl (by kernel_rfl) (by kernel_rfl) (by kernel_rfl) (fun _ _ _ h => h) rfl hS (fun wy hy => exec_flE rfl rfl rfl hy.a.y) ?_
      (try simp only [Act.put]); (try simp only [List.setIfInBounds_toArray, List.set_cons_zero, List.set_cons_succ])
      refine heldTake 1 _ rfl (by kernel_rfl) (by kernel_rfl) (by kernel_rfl) (fun _ _ _ h => h) rfl hS (fun wy hy => exec_flE rfl rfl rfl hy.b.y) ?_
      (try simp only [Act.put]); (try simp only [List.setIfInBounds_toArray, List.set_cons_zero, List.set_cons_succ])
      refine heldTake 2 (.bool true) rfl (by kernel_rfl) (by kernel_rfl) (by kernel_rfl) (fun _ _ _ h => h) rfl hS (fun wy hy => (exec_eqflt (e := fe) (p := fp) (e' := fe) (p' := fp) rfl rfl rfl).trans (by simp)) ?_
      (try simp only [Act.put]); (try simp only [List.setIfInBounds_toArray, List.set_cons_zero, List.set_cons_succ])
      refine heldTake 3 _ rfl (by kernel_rfl) (by kernel_rfl) (by kernel_rfl) (fun _ _ _ h => h) rfl hS (fun wy hy => by first | (go_simp; done) | (go_simp; rfl) | rfl) ?_
      (try simp only [Act.put]); (try simp only [List.setIfInBounds_toArray, List.set_cons_zero, List.set_cons_succ])
      refine heldTake 4 _ rfl (by kernel_rfl) (by kernel_rfl) (by kernel_rfl) (fun _ _ _ h => h) rfl hS (fun wy hy => exec_valAt (g := w1.heap.size) (off := 0) (cs := c1) rfl rfl HS1.out hy.a.cells) ?_
      (try simp only [Act.put]); (try simp only [List.setIfInBounds_toArray, List.set_cons_zero, List.set_cons_succ])
      refine heldTake 5 _ rfl (by kernel_rfl) (by kernel_rfl) (by kernel_rfl) (fun _ _ _ h => h) rfl hS (fun wy hy => exec_valAt (g := w2.heap.size) (off := 0) (cs := c2) rfl rfl HS2.out hy.b.cells) ?_
      (try simp only [Act.put]); (try simp only [List.setIfInBounds_toArray, List.set_cons_zero, List.set_cons_succ])
      refine heldStep 6 rfl (by kernel_rfl) (fun K hK => ?_)
      go_simp
      refine (eqValue_any V V true (by simp) v5 c1 c2 HV1.out.tin HV2.out.tin).mono ?_
      rintro e v6 ⟨rfl, hb⟩
      replace HQ := hide (HQ.out.next hb)
      replace HV1 := hide (HV1.out.next hb)
      replace HV2 := hide (HV2.out.next hb)
      replace HV3 := hide (HV3.out.next hb)
      replace HV4 := hide (HV4.out.next hb)
      replace HSZ : Hid (v4.heap.size ≤ v6.heap.size) := Nat.le_trans HSZ.out hb.size
      refine (Hid.out hK) _ _ (hS.next hb) (fun hS2 => ?_)
      clear hK K hS
      have hS := hS2
      clear hS2
      (try simp only [Act.put]); (try simp only [List.setIfInBounds_toArray, List.set_cons_zero, List.set_cons_succ])
      clear hb
      refine heldTake 7 _ rfl (by kernel_rfl) (by kernel_rfl) (by kernel_rfl) (fun _ _ _ h => h) rfl hS (fun wy hy => by first | (go_simp; done) | (go_simp; rfl) | rfl) ?_
      (try simp only [Act.put]); (try simp only [List.setIfInBounds_toArray, List.set_cons_zero, List.set_cons_succ])
      refine heldTake 8 _ rfl (by kernel_rfl) (by kernel_rfl) (by kernel_rfl) (fun _ _ _ h => h) rfl hS (fun wy hy => by first | (go_simp; done) | (go_simp; rfl) | rfl) ?_
      (try simp only [Act.put]); (try simp only [List.setIfInBounds_toArray, List.set_cons_zero, List.set_cons_succ])
      refine heldTake 9 _ rfl (by kernel_rfl) (by kernel_rfl) (by kernel_rfl) (fun _ _ _ h => h) rfl hS (fun wy hy => exec_flE rfl rfl rfl hy.c.y) ?_
      (try simp only [Act.put]); (try simp only [List.setIfInBounds_toArray, List.set_cons_zero, List.set_cons_succ])
      refine heldTake 10 _ rfl (by kernel_rfl) (by kernel_rfl) (by kernel_rfl) (fun _ _ _ h => h) rfl hS (fun wy hy => exec_flE rfl rfl rfl hy.d.y) ?_
      (try simp only [Act.put]); (try simp only [List.setIfInBounds_toArray, List.set_cons_zero, List.set_cons_succ])
      refine heldTake 11 (.bool true) rfl (by kernel_rfl) (by kernel_rfl) (by kernel_rfl) (fun _ _ _ h => h) rfl hS (fun wy hy => (exec_eqflt (e := re) (p := ff) (e' := re) (p' := ff) rfl rfl rfl).trans (by simp)) ?_
      (try simp only [Act.put]); (try simp only [List.setIfInBounds_toArray, List.set_cons_zero, List.set_cons_succ])
      refine heldTake 12 _ rfl (by kernel_rfl) (by kernel_rfl) (by kernel_rfl) (fun _ _ _ h => h) rfl hS (fun wy hy => by first | (go_simp; done) | (go_simp; rfl) | rfl) ?_
      (try simp only [Act.put]); (try simp only [List.setIfInBounds_toArray, List.set_cons_zero, List.set_cons_succ])
      refine heldTake 13 _ rfl (by kernel_rfl) (by kernel_rfl) (by kernel_rfl) (fun _ _ _ h => h) rfl hS (fun wy hy => by first | (go_simp; done) | (go_simp; rfl) | rfl) ?_
      (try simp only [Act.put]); (try simp only [List.setIfInBounds_toArray, List.set_cons_zero, List.set_cons_succ])
      refine heldTake 14 _ rfl (by kernel_rfl) (by kernel_rfl) (by kernel_rfl) (fun _ _ _ h => h) rfl hS (fun wy hy => by first | (go_simp; done) | (go_simp; rfl) | rfl) ?_
      (try simp only [Act.put]); (try simp only [List.setIfInBounds_toArray, List.set_cons_zero, List.set_cons_succ])
      refine heldTake 15 _ rfl (by kernel_rfl) (by kernel_rfl) (by kernel_rfl) (fun _ _ _ h => h) rfl hS (fun wy hy => by first | (go_simp; done) | (go_simp; rfl) | rfl) ?_
      (try simp only [Act.put]); (try simp only [List.setIfInBounds_toArray, List.set_cons_zero, List.set_cons_succ])
      have gn : (((nn : Nat) : Int) == ((nn : Nat) : Int)) = true := by simp
      refine heldTake 16 (.bool true) rfl (by kernel_rfl) (by kernel_rfl) (by kernel_rfl) (fun _ _ _ h => h) rfl hS (fun wy hy => by first | (go_simp; done) | (go_simp; rfl)) ?_
      (try simp only [Act.put]); (try simp only [List.setIfInBounds_toArray, List.set_cons_zero, List.set_cons_succ])
      refine heldTake 17 _ rfl (by kernel_rfl) (by kernel_rfl) (by kernel_rfl) (fun _ _ _ h => h) rfl hS (fun wy hy => by first | (go_simp; done) | (go_simp; rfl) | rfl) ?_
      (try simp only [Act.put]); (try simp only [List.setIfInBounds_toArray, List.set_cons_zero, List.set_cons_succ])
      refine heldTake 18 _ rfl (by kernel_rfl) (by kernel_rfl) (by kernel_rfl) (fun _ _ _ h => h) rfl hS (fun wy hy => by first | (go_simp; done) | (go_simp; rfl) | rfl) ?_
      (try simp only [Act.put]); (try simp only [List.setIfInBounds_toArray, List.set_cons_zero, List.set_cons_succ])
      refine heldTake 19 _ rfl (by kernel_rfl) (by kernel_rfl) (by kernel_rfl) (fun _ _ _ h => h) rfl hS (fun wy hy => exec_valAt (g := w3.heap.size) (off := 0) (cs := c3) rfl rfl HS3.out hy.c.cells) ?_
      (try simp only [Act.put]); (try simp only [List.setIfInBounds_toArray, List.set_cons_zero, List.set_cons_succ])
      refine heldTake 20 _ rfl (by kernel_rfl) (by kernel_rfl) (by kernel_rfl) (fun _ _ _ h => h) rfl hS (fun wy hy => exec_valAt (g := w4.heap.size) (off := 0) (cs := c4) rfl rfl HS4.out hy.d.cells) ?_
      (try simp only [Act.put]); (try simp only [List.setIfInBounds_toArray, List.set_cons_zero, List.set_cons_succ])
      refine heldStep 21 rfl (by kernel_rfl) (fun K hK => ?_)
      go_simp
      refine (eqValue_any X X true (by simp) v6 c3 c4 HV3.out.tin HV4.out.tin).mono ?_
      rintro e v7 ⟨rfl, hb⟩
      replace HQ := hide (HQ.out.next hb)
      replace HV1 := hide (HV1.out.next hb)
      replace HV2 := hide (HV2.out.next hb)
      replace HV3 := hide (HV3.out.next hb)
      replace HV4 := hide (HV4.out.next hb)
      replace HSZ : Hid (v4.heap.size ≤ v7.heap.size) := Nat.le_trans HSZ.out hb.size
      refine (Hid.out hK) _ _ (hS.next hb) (fun hS2 => ?_)
      clear hK K hS
      have hS := hS2
      clear hS2
      (try simp only [Act.put]); (try simp only [List.setIfInBounds_toArray, List.set_cons_zero, List.set_cons_succ])
      clear hb
      refine heldTake 22 _ rfl (by kernel_rfl) (by kernel_rfl) (by kernel_rfl) (fun _ _ _ h => h) rfl hS (fun wy hy => by first | (go_simp; done) | (go_simp; rfl) | rfl) ?_
      (try simp only [Act.put]); (try simp only [List.setIfInBounds_toArray, List.set_cons_zero, List.set_cons_succ])
      refine heldTake 23 _ rfl (by kernel_rfl) (by kernel_rfl) (by kernel_rfl) (fun _ _ _ h => h) rfl hS (fun wy hy => by first | (go_simp; done) | (go_simp; rfl) | rfl) ?_
      (try simp only [Act.put]); (try simp only [List.setIfInBounds_toArray, List.set_cons_zero, List.set_cons_succ])
      refine heldTake 24 _ rfl (by kernel_rfl) (by kernel_rfl) (by kernel_rfl) (fun _ _ _ h => h) rfl hS (fun wy hy => by first | (go_simp; done) | (go_simp; rfl) | rfl) ?_
      (try simp only [Act.put]); (try simp only [List.setIfInBounds_toArray, List.set_cons_zero, List.set_cons_succ])
      refine heldTake 25 _ rfl (by kernel_rfl) (by kernel_rfl) (by kernel_rfl) (fun _ _ _ h => h) rfl hS (fun wy hy => by first | (go_simp; done) | (go_simp; rfl) | rfl) ?_
      (try simp only [Act.put]); (try simp only [List.setIfInBounds_toArray, List.set_cons_zero, List.set_cons_succ])
      refine heldTake 27 _ rfl (by kernel_rfl) (by kernel_rfl) (by kernel_rfl) (fun _ _ _ h => h) rfl hS (fun wy hy => exec_flE rfl rfl rfl hy.b.y) ?_
      (try simp only [Act.put]); (try simp only [List.setIfInBounds_toArray, List.set_cons_zero, List.set_cons_succ])
      refine heldStep 26 rfl (by kernel_rfl) (fun K hK => ?_)
      go_simp
      refine (HCC.out v7 HQ.out.b).mono ?_
      rintro e v8 ⟨hb, rfl⟩
      replace HQ := hide (HQ.out.next hb)
      replace HV1 := hide (HV1.out.next hb)
      replace HV2 := hide (HV2.out.next hb)
      replace HV3 := hide (HV3.out.next hb)
      replace HV4 := hide (HV4.out.next hb)
      replace HSZ : Hid (v4.heap.size ≤ v8.heap.size) := Nat.le_trans HSZ.out hb.size
      refine (Hid.out hK) _ _ (hS.next hb) (fun hS2 => ?_)
      clear hK K hS
      have hS := hS2
      clear hS2
      (try simp only [Act.put]); (try simp only [List.setIfInBounds_toArray, List.set_cons_zero, List.set_cons_succ])
      clear hb
      refine heldTake 28 (.bool true) rfl (by kernel_rfl) (by kernel_rfl) (by kernel_rfl) (fun _ _ _ h => h) rfl hS (fun wy hy => (exec_eqflt (e := fe) (p := fp) (e' := fe) (p' := fp) rfl rfl rfl).trans (by simp)) ?_
      (try simp only [Act.put]); (try simp only [List.setIfInBounds_toArray, List.set_cons_zero, List.set_cons_succ])
      refine heldTake 29 _ rfl (by kernel_rfl) (by kernel_rfl) (by kernel_rfl) (fun _ _ _ h => h) rfl hS (fun wy hy => by first | (go_simp; done) | (go_simp; rfl) | rfl) ?_
      (try simp only [Act.put]); (try simp only [List.setIfInBounds_toArray, List.set_cons_zero, List.set_cons_succ])
      refine heldTake 30 _ rfl (by kernel_rfl) (by kernel_rfl) (by kernel_rfl) (fun _ _ _ h => h) rfl hS (fun wy hy => by first | (go_simp; done) | (go_simp; rfl) | rfl) ?_
      (try simp only [Act.put]); (try simp only [List.setIfInBounds_toArray, List.set_cons_zero, List.set_cons_succ])
      refine heldDone (by kernel_rfl) ?_
      go_wp2_with fail
      go_meet
      case rel => exact ⟨rfl, HQ, HV1, HV3, HV4, HSZ⟩
  obtain ⟨rfl, hq, h1, h3, h4, hz⟩ := hcut
  replace HQ := hq
  replace HV1 := h1
  replace HV3 := h3
  replace HV4 := h4
  have HSZ := hz
  clear hq h1 h3 h4 hz HV2 HDC HFC HCC HRD HRF
  rename World => v8
  have HC1 := hide HV1.out.t.cells
  go_wp2_with (refine wpList_valAt rfl rfl w1.heap.size 0 c1 rfl HS1.out HC1.out ?_)
  clear HC1
  have hz0 := HL1.out
  have hz1 := HB1.out
  have hz2 := HL2.out
  have hz3 := HB2.out
  have hz4 := HL3.out
  have hz5 := HB3.out
  have hz6 := HL4.out
  have hz7 := HB4.out
  have hz8 := HSZ.out
  have hz9 := HBS.out
  have hz10 := HM1.out
  have hz11 := HM2.out
  have hz12 := HTT.out
  have hz13 := HBN.out
  refine ((bvalue_any V) v8 base B C f tt d u (fun q => w.heap.size ≤ q ∧ q < w1.heap.size) c1 HQ.out.bk (Nos.ots (Nos.base (nor_nos HV1.out.n) (by omega))) (fun q e => ⟨by have h1 := e.1; have h2 := e.2; omega, fun e2 => by have h1 := e.1; have h2 := e.2; have := HBL.out q e2; omega⟩) (by omega) (by omega)).mono ?_
  rintro e v9 ⟨rfl, hP⟩
  obtain ⟨n1, hn1, C1, f1, u1, hB1, hk1, hf1⟩ := hP.out
  have HN1 := hide hn1
  have HP1 := hide hB1
  have HK1 := hide hk1
  have HF1 := hide hf1
  replace HV3 := hide (HV3.out.kp hk1 (fun q h1 h2 e => by rcases e with e | e; (have := HBL.out q e; omega); omega) (fun e => by rcases e with e | e; (have := HBL.out _ e; omega); omega) (fun e => by rcases e with e | e; (have := HBL.out _ e; omega); omega))
  replace HV4 := hide (HV4.out.kp hk1 (fun q e => by rcases e with e | e; (have := HBL.out q e; omega); omega))
  have HC3 := hide HV3.out.t.cells
  have HC4 := hide HV4.out.t.cells
  have HK0 : Hid (Kp (fun q => Ft4 B f q ∨ False) w v8) := Kp.mono (S := fun _ => False) ⟨HQ.out.b.os, HQ.out.b.tape, HQ.out.b.output, HQ.out.b.size, fun k hk _ => HQ.out.b.block k hk⟩ (fun _ _ e => e.elim)
  clear hP hn1 hB1 hk1 hf1 HQ HV1
  clear hz0 hz1 hz2 hz3 hz4 hz5 hz6 hz7 hz8 hz9 hz10 hz11 hz12 hz13
  go_wp2_with (first
    | (refine wpList_valAt rfl rfl w3.heap.size 0 c3 rfl HS3.out HC3.out ?_)
    | (refine wpList_valAt rfl rfl w4.heap.size 0 c4 rfl HS4.out HC4.out ?_))
  clear HC3 HC4
  refine (eqValue_any X X true (by simp) v9 c3 c4 HV3.out.tin HV4.out.tin).mono ?_
  rintro e v10 ⟨rfl, hb⟩
  replace HV3 := hide (HV3.out.next hb)
  have HP2 := hide (HP1.out.next hb)
  have HK2 : Hid (Kp (fun q => Ft4 B f q ∨ (w.heap.size ≤ q ∧ q < w1.heap.size)) v8 v10) := HK1.out.trans (Kp.of_below (S := fun _ => False) hb) (fun _ _ e => e.elim)
  have HC3 := hide HV3.out.t.cells
  clear hb HK1 HP1
  go_wp2_with (refine wpList_valAt rfl rfl w3.heap.size 0 c3 rfl HS3.out HC3.out ?_)
  clear HC3
  have hz0 := HL1.out
  have hz1 := HB1.out
  have hz2 := HL2.out
  have hz3 := HB2.out
  have hz4 := HL3.out
  have hz5 := HB3.out
  have hz6 := HL4.out
  have hz7 := HB4.out
  have hz8 := HSZ.out
  have hz9 := HBS.out
  have hz10 := HM1.out
  have hz11 := HM2.out
  have hz12 := HTT.out
  have hz13 := HBN.out
  have hz14 := HN1.out
  have hz15 := HK0.out.size
  have hz16 := HK2.out.size
  refine ((bvalue_any X) v10 base B C1 f1 (tt + n1) d u1 (fun q => v2.heap.size ≤ q ∧ q < w3.heap.size) c3 HP2.out (Nos.ots (Nos.base (nor_nos HV3.out.n) (by omega))) (fun q e => ⟨by have h1 := e.1; have h2 := e.2; omega, fun e2 => by have h1 := e.1; have h2 := e.2; rcases HF1.out q e2 with e3 | e3 | e3; (have := HBL.out q e3; omega); omega; omega⟩) (by omega) (by omega)).mono ?_
  rintro e v11 ⟨rfl, hP⟩
  obtain ⟨n2, hn2, hp2⟩ := hP.out
  have HN2 := hide hn2
  have HE : Hid (Ps w base B f tt d (n1 + n2) v11) := Ps.put (HK0.out.trans HK2.out (fun k hk e => by rcases e with e | e; exact .inl e; omega)) (fun q e => by rcases HF1.out q e with e | e | e; exact .inl e; exact .inr (.inr (by omega)); exact .inr (.inr (by omega))) hp2 (fun q e => by have h1 := e.1; have h2 := e.2; omega)
  clear hP hn2 hp2 hz14 hz15 hz16
  clear hz0 hz1 hz2 hz3 hz4 hz5 hz6 hz7 hz8 hz9 hz10 hz11 hz12 hz13
  go_wp2_with fail
  go_ret
  exact ⟨rfl, _, by have h1 := HN1.out; have h2 := HN2.out; have h3 := HM1.out; have h4 := HM2.out; omega, HE.out⟩
end
section
open Go.RowKit Go
/-- What ReadExact's walk stands on: the argument's own copy, the book; the blocks of G are none of the book's. -/
structure Rgx (w : World) (cs : Array Value) (B tt : Nat) (G : Nat → Prop) (wx : World) : Prop where
  t : wx.heap[w.heap.size]? = some (.cells cs 25 (0, 0))
  l : Below w.heap.size w wx
  hB : w.heap.size < B
  k : ∃ C f d u, Bkq wx B B C f tt d u ∧ ∀ q, Ft4 B f q → ¬ G q
theorem Rgx.start (w : World) (cs : Array Value) {w1 : World} (h1 : w1 = w.alloc (.cells cs 25)) : Rgx w cs w1.heap.size 0 (fun _ => False) (w1.alloc (.cells (bookCells (.slice none 0 0) (.slice none 0 0) 0 0 0 0) 45)) := by
  have ht : w1.heap[w.heap.size]? = some (.cells cs 25 (0, 0)) := by rw [h1]; exact heap_alloc_new w _
  have hb : Below w.heap.size w w1 := by rw [h1]; exact below_alloc4 w _
  have hb2 := below_alloc4 w1 (.cells (bookCells (.slice none 0 0) (.slice none 0 0) 0 0 0 0) 45)
  obtain ⟨C, f, d, u, hk, _⟩ := bk4_new w1
  exact ⟨(hb2.block _ (blk_lt ht)).trans ht, hb.trans (hb2.mono hb.size), blk_lt ht, C, f, d, u, hk, fun _ _ e => e⟩
theorem Rgx.more {w wx wy : World} {cs : Array Value} {B tt : Nat} {G G' : Nat → Prop} (h : Rgx w cs B tt G wx) (hb : Below wx.heap.size wx wy) (hg : ∀ q, G' q → G q ∨ wx.heap.size ≤ q) : Rgx w cs B tt G' wy := by
  obtain ⟨C, f, d, u, hk, hf⟩ := h.k
  refine ⟨(hb.block _ (blk_lt h.t)).trans h.t, h.l.trans (hb.mono h.l.size), h.hB, C, f, d, u, hk.next hb, fun q e e2 => ?_⟩
  rcases hg q e2 with e3 | e3
  · exact hf q e e3
  · have := (hk.lt q e).2
    omega
theorem Rgx.next {w wx wy : World} {cs : Array Value} {B tt : Nat} {G : Nat → Prop} (h : Rgx w cs B tt G wx) (hb : Below wx.heap.size wx wy) : Rgx w cs B tt G wy := h.more hb (fun _ e => .inl e)
theorem Rgx.kp {w wx wy : World} {cs : Array Value} {B tt : Nat} {G S : Nat → Prop} (h : Rgx w cs B tt G wx) (hk : Kp S wx wy) (hs : ∀ q, S q → G q ∧ w.heap.size < q) : Rgx w cs B tt G wy := by
  obtain ⟨C, f, d, u, hb, hf⟩ := h.k
  exact ⟨(hk.block _ (blk_lt h.t) (fun e => by have := (hs _ e).2; omega)).trans h.t, h.l.trans (hk.below h.l.size (fun q e => by have := (hs _ e).2; omega)), h.hB, C, f, d, u, hb.kp hk (fun q e e2 => hf q e (hs q e2).1), hf⟩
theorem told8_rg {w wx : World} {cs : Array Value} {B tt : Nat} {G : Nat → Prop} (hT : Tabs w) (h : Rgx w cs B tt G wx) (hG : ∀ q, G q → q < wx.heap.size) (vI vB : Value) (b : List Nat) (hI : BSl wx vI b) (hB : BSl wx vB b) (hIq : ∀ q, vI.ownBlock = some q → q < wx.heap.size) (hbl : b.length ≤ 1048576) (D : Int) (htt : tt + 6 * (b.length + 1) < 68719476736) :
    Calls Tryz.prog 6 #[vI, vB, .int .i64 D, .pointer (some ⟨B, 0, none⟩)] wx fun e w' => e = .returned (.bool true) ∧ Hid (∃ n, n ≤ 6 * (b.length + 1) ∧ Rgx w cs B (tt + n) G w' ∧ Kp (fun q => ¬ G q) wx w') := by
  obtain ⟨C, f, d, u, hk, hf⟩ := h.k
  refine (told8_any w hT wx h.l vI vB b hI hB hIq hbl D B B C f tt d u hk htt).mono ?_
  rintro e wy ⟨rfl, hP⟩
  obtain ⟨n, hn, C2, f2, u2, g1, g2, g3⟩ := hP.out
  have hB := h.hB
  refine ⟨rfl, n, hn, ⟨(g2.block _ (blk_lt h.t) (fun e => ?_)).trans h.t, h.l.trans (g2.below h.l.size (fun q e => ?_)), hB, C2, f2, d, u2, g1, fun q e e2 => ?_⟩, g2.mono (fun q _ e => ?_)⟩
  · rcases e with e | e
    · have := (hk.lt _ e).1
      omega
    · exact e
  · rcases e with e | e
    · have := (hk.lt _ e).1
      omega
    · exact e.elim
  · rcases g3 q e with e3 | e3 | e3
    · exact hf q e3 e2
    · exact e3
    · have := hG q e2
      omega
  · rcases e with e | e
    · exact hf q e
    · exact e.elim
theorem look8_rg {w wx : World} {cs : Array Value} {B tt : Nat} {G : Nat → Prop} (h : Rgx w cs B tt G wx) :
    Calls Tryz.prog 10 #[.pointer (some ⟨B, 0, none⟩)] wx fun e w' => e = .returned (.bool true) ∧ Hid (Rgx w cs B tt (fun _ => False) w') := by
  obtain ⟨C, f, d, u, hk, hf⟩ := h.k
  have hB := h.hB
  refine (look4_any (w := wx) (base := B) (B := B) (F := fun q => B ≤ q) (t := tt) ⟨C, f, d, u, hk, fun q e => (hk.lt q e).1⟩).mono ?_
  rintro e wy ⟨rfl, hP⟩
  obtain ⟨⟨C2, f2, d2, u2, hk2, _⟩, g2⟩ := hP.out
  exact ⟨rfl, ⟨(g2.block _ (blk_lt h.t) (fun e => by have e' : B ≤ w.heap.size := e; omega)).trans h.t, h.l.trans (g2.below h.l.size (fun q e => by have e' : B ≤ q := e; omega)), hB, C2, f2, d2, u2, hk2, fun _ _ e => e⟩⟩
/-- The bytes that were lent, as they are handed on. -/
theorem lnt_own {g n cap : Nat} {q : Nat} (h : (Value.slice (some ⟨g, 0, none⟩) n cap).ownBlock = some q) : q = g := by
  simpa [Value.ownBlock, eq_comm] using h
theorem rows_row9 {w : World} {a : Option Addr} {len cap : Nat} (h : RowsIn w (.slice a len cap) len) (hl : 0 < len) : ∃ b off, a = some ⟨b, off, none⟩ ∧ ∀ i, i < len → ∃ u xs, w.cell? ⟨b, off + i, none⟩ = some u ∧ BSl w u xs ∧ xs.length ≤ 140737488351232 := by
  obtain ⟨⟨a', cap', hv, _, hr⟩, _⟩ := h
  injection hv with h1 h2 h3
  subst h1
  rcases hr with hr | hr
  · omega
  · exact hr
end
section
open Go.ChangeShapes Go.WideShapes Go.ChangeAt Go.RowKit Go.Deep Go.Joins Go
/-- A slice of int. -/
structure IntsIn (w : World) (v : Value) (len : Nat) : Prop where
  form : ∃ a c, v = .slice a len c ∧ (len = 0 ∨ ∃ b off, a = some ⟨b, off, none⟩ ∧ ∀ j, j < len → ∃ z : Int, w.cell? ⟨b, off + j, none⟩ = some (.int .i64 z))
  max : len ≤ 9223372036854775807
theorem IntsIn.move {w w' : World} {v : Value} {len : Nat} (h : IntsIn w v len) (hm : ∀ p u, w.cell? p = some u → w'.cell? p = some u) : IntsIn w' v len := by
  obtain ⟨⟨a, c, hv, hc⟩, h1⟩ := h
  refine ⟨⟨a, c, hv, ?_⟩, h1⟩
  rcases hc with hc | ⟨b, off, ha, hc⟩
  · exact .inl hc
  · exact .inr ⟨b, off, ha, fun j hj => (hc j hj).imp fun z hz => hm _ _ hz⟩
theorem ints_open {H : Type} {enc : TypeId × Value → H} {W : World} {base fuel : Nat} {held : Bool} {v : Value} {y : DataW H × List MemPlace} (h : DataW.trod enc Tryz.prog W base (fun _ => true) held fuel 23 [v] = some y) : ∃ len, IntsIn W v len := by
  rcases open_ints Tryz.underlying23 Tryz.underlying3 Tryz.cells_int h with ⟨hcs, _⟩ | ⟨a, len, cap, zs, hcs, _, hl, hm, hz, _, hcell, hwf⟩
  · injection hcs with hcs _
    subst hcs
    exact ⟨0, ⟨none, 0, rfl, .inl rfl⟩, by simp⟩
  · injection hcs with hcs _
    subst hcs
    simp only [if_true] at hz
    refine ⟨len, ⟨some a, cap, rfl, ?_⟩, by unfold maxLen at hm; omega⟩
    by_cases h0 : len = 0
    · exact .inl h0
    · right
      obtain ⟨b, off, spot⟩ := a
      have h1 := hcell 0 (by omega)
      have hspot : spot = none := by simpa [Addr.add] using World.cell?_spot h1
      subst hspot
      refine ⟨b, off, rfl, fun j hj => ?_⟩
      have h2 := hcell j (by omega)
      have hadd : (⟨b, off, none⟩ : Addr).add j = ⟨b, off + j, none⟩ := by unfold Addr.add; split <;> simp_all
      rw [hadd] at h2
      exact ⟨_, h2⟩
end
section
open Go.RowKit Go
set_option maxRecDepth 1000000 in
set_option maxHeartbeats 4000000 in
/-- The depth of a row: some number. -/
theorem depth8_any (w : World) (v0 : Value) (aI : Option Addr) (nI cI i : Nat) (hI : IntsIn w (.slice aI nI cI) nI) (hi : i ≤ 1000) :
    Calls Tryz.prog 4 #[.agg #[v0, .slice aI nI cI], .int .i64 (i : Nat)] w fun e w' => ∃ z : Int, e = .returned (.int .i64 z) ∧ Below w.heap.size w w' := by
  have HT : Hid ((w.alloc (.cells #[v0, .slice aI nI cI] 25)).heap[w.heap.size]? = some (.cells #[v0, .slice aI nI cI] 25 (0, 0))) := heap_alloc_new w _
  have HB := hide (below_alloc4 w (.cells #[v0, .slice aI nI cI] 25))
  have HI := hide hI
  have hmx := hI.max
  clear hI
  go_enter Tryz.func4, Tryz.ntmps4
  by_cases h0 : nI = 0
  · have g0 : ((nI : Int) == 0) = true := beq_iff_eq.2 (by omega)
    clear h0
    go_wp2_with fail
    go_ret
    exact ⟨_, rfl, HB.out⟩
  · have g0 : ((nI : Int) == 0) = false := beq_eq_false_iff_ne.2 (by omega)
    have q1 : (w.alloc (.cells #[v0, .slice aI nI cI] 25)).cell? ⟨w.heap.size, 1, none⟩ = some (.slice aI nI cI) := blk_cell HT.out rfl
    obtain ⟨a', c', hv, hform⟩ := HI.out.form
    injection hv with e1 e2 e3
    subst e1
    obtain ⟨b, off, rfl, hcells⟩ := hform.resolve_left h0
    have hmod : i % nI < nI := Nat.mod_lt _ (by omega)
    obtain ⟨z, hz⟩ := hcells (i % nI) hmod
    have cz := keep_below HB.out _ _ hz
    have htm : (i : Int).tmod (nI : Int) = ((i % nI : Nat) : Int) := by rw [Int.tmod_eq_emod_of_nonneg (by omega)]; omega
    have hml : ((i % nI : Nat) : Int) < (nI : Int) := by omega
    have gp : (0 : Int) < (nI : Int) := by omega
    clear hform hcells hmod hz e2 e3
    generalize i % nI = im at *
    go_wp2_with fail
    generalize w.alloc (.cells #[v0, .slice (some ⟨b, off, none⟩) nI cI] 25) = w0 at *
    go_region
    go_wp2_with fail
    go_ret
    exact ⟨z, rfl, HB.out.trans ((Below.refl _ _).drew)⟩
end
section
open Go.RowKit Go
set_option maxRecDepth 1000000 in
set_option maxHeartbeats 2000000 in
theorem rexact_any (w : World) (hT : Tabs w) (vB vI : Value) (nB nI : Nat) (hB : RowsIn w vB nB) (hI : IntsIn w vI nI) :
    Calls Tryz.prog 3 #[.agg #[vB, vI]] w fun e w' => e = .returned (.bool true) ∧ Below w.heap.size w w' := by
  have HTT := hide hT
  have HRB := hide hB
  have HRI := hide hI
  obtain ⟨⟨aB, cB, rfl, hq1, hq2⟩, hmB⟩ := hB
  obtain ⟨⟨aI, cI, rfl, hq3⟩, hmI⟩ := hI
  clear hq1 hq2 hq3 hT
  go_enter Tryz.func3, Tryz.ntmps3
  go_upto_region 1 with fail
  generalize hw1 : w.alloc (.cells #[.slice aB nB cB, .slice aI nI cI] 25) = w1 at *
  have HX0 := hide (Rgx.start w #[.slice aB nB cB, .slice aI nI cI] hw1.symm)
  clear hw1
  go_wp2_with (refine wpList_buildBook rfl rfl ?_)
  generalize w1.alloc (.cells (bookCells (.slice none 0 0) (.slice none 0 0) 0 0 0 0) 45) = w0 at *
  generalize w1.heap.size = B at *
  go_loopw [4, 5] (fun va vi wx => ∃ i A tt : Nat, i ≤ nB ∧ i ≤ 400 ∧ A ≤ 1048576 ∧ va = .int .i64 (A : Nat) ∧ vi = .int .i64 (i : Nat) ∧ Hid (tt ≤ 18 * (A + i)) ∧ Hid (Rgx w #[.slice aB nB cB, .slice aI nI cI] B tt (fun _ => False) wx)) (fun _ vi _ => 400 - (intOf vi).toNat)
  case atStart => exact ⟨0, 0, 0, by omega, by omega, by omega, rfl, rfl, Nat.zero_le _, HX0⟩
  case round =>
    obtain ⟨i, A, tt, hi, hi4, hA, rfl, rfl, HTL, HX⟩ := hrel
    clear HX0
    have q0 : wr.cell? ⟨w.heap.size, 0, none⟩ = some (.slice aB nB cB) := blk_cell (j := 0) HX.out.t rfl
    by_cases hil : i < nB ∧ i < 400
    case neg => as_aux_lemma =>
      by_cases h1 : i < nB
      · have g1 : (i : Int) < (nB : Int) := by omega
        have g2 : ¬ (i : Int) < 400 := by omega
        clear hil h1 hi hi4
        go_wp2_with fail
        refine (reads8_any w HTT.out wr HX.out.l).mono ?_
        rintro e w2 ⟨rfl, hb2⟩
        have HB2 : Hid (Below w.heap.size w w2) := HX.out.l.trans (hb2.mono HX.out.l.size)
        clear hb2
        go_wp2_with fail
        go_ret
        exact ⟨rfl, HB2.out⟩
      · have g1 : ¬ (i : Int) < (nB : Int) := by omega
        clear hil h1 hi hi4
        go_wp2_with fail
        refine (reads8_any w HTT.out wr HX.out.l).mono ?_
        rintro e w2 ⟨rfl, hb2⟩
        have HB2 : Hid (Below w.heap.size w w2) := HX.out.l.trans (hb2.mono HX.out.l.size)
        clear hb2
        go_wp2_with fail
        go_ret
        exact ⟨rfl, HB2.out⟩
    obtain ⟨hil, hi400⟩ := hil
    have g1 : (i : Int) < (nB : Int) := by omega
    have g2 : (i : Int) < 400 := by omega
    obtain ⟨bB, oB, rfl, hrB⟩ := rows_row9 HRB.out (by omega)
    obtain ⟨u, xs, hcu, hbu, hxl⟩ := hrB i hil
    have cu : wr.cell? ⟨bB, oB + i, none⟩ = some u := keep_below HX.out.l _ _ hcu
    have HU := hide hbu
    obtain ⟨⟨au, cu', hvu, _, _⟩, _, _⟩ := hbu
    subst hvu
    clear hrB hcu
    have e1 : IntKind.i64.wrap ((A : Int) + (xs.length : Int)) = ((A + xs.length : Nat) : Int) := by rw [IntKind.wrap_i64]; omega
    have HXL := hide hxl
    have HA := hide hA
    obtain ⟨A', hA'⟩ : ∃ A', A' = A + xs.length := ⟨_, rfl⟩
    rw [← hA'] at e1
    by_cases hbig : 1048576 < A'
    · as_aux_lemma =>
      have g3 : (1048576 : Int) < (A' : Int) := by omega
      clear hbig hA' hA hxl
      go_wp2_with fail
      refine (reads8_any w HTT.out wr HX.out.l).mono ?_
      rintro e w2 ⟨rfl, hb2⟩
      have HB2 : Hid (Below w.heap.size w w2) := HX.out.l.trans (hb2.mono HX.out.l.size)
      clear hb2
      go_wp2_with fail
      go_ret
      exact ⟨rfl, HB2.out⟩
    have g3 : ¬ (1048576 : Int) < (A' : Int) := by omega
    have HL : Hid (xs.length ≤ 1048576) := by show _ ≤ _; omega
    have HA2 : Hid (A' ≤ 1048576) := by show _ ≤ _; omega
    have HA3 : Hid (A' = A + xs.length) := hA'
    clear hbig hA' hA hxl
    have q1 : wr.cell? ⟨w.heap.size, 1, none⟩ = some (.slice aI nI cI) := blk_cell (j := 1) HX.out.t rfl
    have HI4 : Hid (i ≤ 1000) := by show _ ≤ _; omega
    have HI5 : Hid (i < 400) := hi400
    have HI6 : Hid (i < nB) := hil
    go_wp2_with fail
    refine (depth8_any wr _ aI nI cI i (HRI.out.move (keep_below HX.out.l)) HI4.out).mono ?_
    rintro e w2 ⟨D, rfl, hb⟩
    replace HX := hide (HX.out.next hb)
    clear hb q0 q1 cu g1 g2 g3 e1
    go_wp2_with fail
    refine (lend_any w2 _ xs (HU.out.move (keep_below HX.out.l)) HXL.out).mono ?_
    rintro e w3 ⟨g, cap, rfl, ho, hb⟩
    have HG0 : Hid (w2.heap.size ≤ g ∧ g < w3.heap.size) := ho.lt g (by simp [Value.ownBlock])
    have HLN : Hid (Lnt w3 w2.heap.size g cap xs) := ⟨ho, HU.out.byte, HXL.out⟩
    have HGW : Hid (w.heap.size < g) := by
      have h1 := HG0.out.1
      have h2 := blk_lt HX.out.t
      show _ < _
      omega
    replace HX : Hid (Rgx w #[.slice (some ⟨bB, oB, none⟩) nB cB, .slice aI nI cI] B tt (fun q => q = g) w3) := HX.out.more hb (fun q e => .inr (by have e' : q = g := e; have := HG0.out.1; omega))
    have HGL : Hid (g < w3.heap.size) := HG0.out.2
    clear ho hb HG0
    generalize w2.heap.size = lo at *
    have HTA : Hid (tt + 18 * (xs.length + 1) < 68719476736) := by have h1 := HTL.out; have h2 := HA2.out; have h3 := HA3.out; have h4 := HI5.out; show _ < _; omega
    go_wp2_with fail
    refine (told8_rg HTT.out HX.out (fun q e => by have e' : q = g := e; have := HGL.out; omega) _ _ xs HLN.out.bsl (HU.out.move (keep_below HX.out.l)) (fun q e => by have e' := lnt_own e; have := HGL.out; omega) HL.out D (by have := HTA.out; omega)).mono ?_
    rintro e w4 ⟨rfl, hP⟩
    obtain ⟨n1, hn1, hx, hk⟩ := hP.out
    have HN1 := hide hn1
    replace HX := hide hx
    replace HLN := hide (HLN.out.kp hk (fun e => e rfl))
    replace HGL : Hid (g < w4.heap.size) := Nat.lt_of_lt_of_le HGL.out hk.size
    clear hP hn1 hx hk
    go_wp2_with fail
    refine (told8_rg HTT.out HX.out (fun q e => by have e' : q = g := e; have := HGL.out; omega) _ _ xs HLN.out.bsl (HU.out.move (keep_below HX.out.l)) (fun q e => by have e' := lnt_own e; have := HGL.out; omega) HL.out D (by have h1 := HTA.out; have h2 := HN1.out; omega)).mono ?_
    rintro e w5 ⟨rfl, hP⟩
    obtain ⟨n2, hn2, hx, hk⟩ := hP.out
    have HN2 := hide hn2
    replace HX := hide hx
    replace HLN := hide (HLN.out.kp hk (fun e => e rfl))
    replace HGL : Hid (g < w5.heap.size) := Nat.lt_of_lt_of_le HGL.out hk.size
    clear hP hn2 hx hk
    go_wp2_with fail
    refine (intact_any HLN.out _ (HU.out.move (keep_below HX.out.l))).mono ?_
    rintro e w6 ⟨rfl, hk⟩
    replace HX := hide (HX.out.kp hk (fun _ e => e.elim))
    replace HLN := hide (HLN.out.kp hk (fun e => e))
    replace HGL : Hid (g < w6.heap.size) := Nat.lt_of_lt_of_le HGL.out hk.size
    clear hk
    go_wp2_with fail
    refine (other_any w6 _ xs (HU.out.move (keep_below HX.out.l)) HXL.out).mono ?_
    rintro e w7 ⟨vo, rfl, hO⟩
    obtain ⟨ys, ho, hyb, hyl, hb⟩ := hO.out
    have HYB := hide hyb
    have HYL := hide hyl
    have HYO := hide ho
    replace HX : Hid (Rgx w #[.slice (some ⟨bB, oB, none⟩) nB cB, .slice aI nI cI] B (tt + n1 + n2) (fun q => q = g ∨ vo.ownBlock = some q) w7) := HX.out.more hb (fun q e => by
      rcases e with e | e
      · exact .inl e
      · exact .inr (ho.lt q e).1)
    replace HLN := hide (HLN.out.kp (Kp.of_below (S := fun _ => False) hb) (fun e => e))
    have HNE : Hid (vo.ownBlock ≠ some g) := fun e => by
      have h1 := (ho.lt g e).1
      have h2 := HGL.out
      omega
    have HOQ : Hid (∀ q, vo.ownBlock = some q → q < w7.heap.size) := fun q e => (ho.lt q e).2
    replace HGL : Hid (g < w7.heap.size) := Nat.lt_of_lt_of_le HGL.out hb.size
    obtain ⟨ao, co, hvo, hq1, hq2, hq3⟩ := own_form ho
    subst hvo
    clear hO ho hyb hyl hb hq1 hq2 hq3
    generalize w6.heap.size = lo2 at *
    go_wp2_with fail
    refine (into_any HLN.out _ (BSl.own HYO.out HYB.out) HYL.out HNE.out).mono ?_
    rintro e w8 ⟨rfl, hln, hk⟩
    replace HLN := hide hln
    replace HX := hide (HX.out.kp hk (fun q e => by
      have e' : q = g := e
      exact ⟨.inl e', by have := HGW.out; omega⟩))
    replace HYO := hide (hk.owns HYO.out (fun q e e2 => by
      have e3 : q = g := e2
      subst e3
      exact HNE.out e))
    replace HGL : Hid (g < w8.heap.size) := Nat.lt_of_lt_of_le HGL.out hk.size
    replace HOQ := hide (fun q (e : (Value.slice ao ys.length co).ownBlock = some q) => Nat.lt_of_lt_of_le (HOQ.out q e) hk.size)
    clear hln hk
    have HBI : Hid (BSl w8 (.slice (some ⟨g, 0, none⟩) xs.length cap) ys) := by
      have h1 := HLN.out.bsl
      rw [HYL.out] at h1
      exact h1
    have HYS : Hid (ys.length ≤ 1048576) := by have h1 := HYL.out; have h2 := HL.out; show _ ≤ _; omega
    have HGG : Hid (∀ q, (q = g ∨ (Value.slice ao ys.length co).ownBlock = some q) → q < w8.heap.size) := fun q e => by
      rcases e with e | e
      · have := HGL.out
        omega
      · exact HOQ.out q e
    go_wp2_with fail
    refine (told8_rg HTT.out HX.out HGG.out _ _ ys HBI.out (BSl.own HYO.out HYB.out) (fun q e => by have e' := lnt_own e; have := HGL.out; omega) HYS.out D (by have h1 := HTA.out; have h2 := HN1.out; have h3 := HN2.out; have h4 := HYL.out; omega)).mono ?_
    rintro e w9 ⟨rfl, hP⟩
    obtain ⟨n3, hn3, hx, hk⟩ := hP.out
    have HN3 := hide hn3
    replace HX := hide hx
    replace HLN := hide (HLN.out.kp hk (fun e => e (.inl rfl)))
    replace HYO := hide (hk.owns HYO.out (fun q e e2 => e2 (.inr e)))
    clear hP hn3 hx hk HBI HGG
    go_wp2_with fail
    have HIC : Hid (Calls Tryz.prog 7 #[.slice (some ⟨g, 0, none⟩) xs.length cap, .slice ao ys.length co] w9 fun e w' => e = .returned (.bool true) ∧ Kp (fun _ => False) w9 w') := by
      have h1 := intact_any HLN.out (.slice ao ys.length co) (BSl.own HYO.out HYB.out)
      have h2 : (Value.slice (some ⟨g, 0, none⟩) ys.length cap) = .slice (some ⟨g, 0, none⟩) xs.length cap := by rw [HYL.out]
      rw [h2] at h1
      exact h1
    refine HIC.out.mono ?_
    rintro e w10 ⟨rfl, hk⟩
    replace HX := hide (HX.out.kp hk (fun _ e => e.elim))
    clear hk HIC
    go_wp2_with fail
    refine (look8_rg HX.out).mono ?_
    rintro e w11 ⟨rfl, hx⟩
    replace HX := hx
    clear hx
    go_wp2_with fail
    go_roundw
    case rel => exact ⟨i + 1, A', tt + n1 + n2 + n3, by have := HI6.out; omega, by have := HI5.out; omega, HA2.out, rfl, by go_num, by have h1 := HTL.out; have h2 := HN1.out; have h3 := HN2.out; have h4 := HN3.out; have h5 := HYL.out; have h6 := HA3.out; show _ ≤ _; omega, HX⟩
    case measure => have := HI5.out; simp [intOf]; omega
end
section
open Go.ChangeShapes Go.WideShapes Go.ChangeAt Go.RowKit Go.Deep Go.Joins Go
theorem Tryz.cellsReads : Tryz.prog.cellsOf 25 = 2 := by kernel_rfl
set_option maxRecDepth 100000 in
theorem reads_open {H : Type} {enc : TypeId × Value → H} {w : World} {base b0 : Nat} {r : Reach} {held : Bool} {v : Value} {d : DataW H} {p : List MemPlace} (hv : Value.okWide Tryz.prog w r b0 25 v) (h : DataW.Trod enc Tryz.prog w base (fun _ => true) held 25 v d p) (hW : (d.weights Tryz.prog 25).all (· ≤ reachBytes) = true) :
    ∃ (vB vI : Value) (nB nI : Nat), v = .agg #[vB, vI] ∧ RowsIn w vB nB ∧ IntsIn w vI nI := by
  obtain ⟨c0, c1, y0, y1, m, rfl, hd, _, hy0, hy1⟩ := open_agg2 Tryz.underlying25 (by kernel_rfl) Tryz.cellsReads hv h
  subst hd
  have hs2 : (DataW.weightsEach Tryz.prog [22, 23] [y0.1, y1.1]).all (· ≤ reachBytes) = true := by
    simp only [DataW.weights, Tryz.underlying25] at hW
    exact hW
  obtain ⟨nB, hB⟩ := rows_open hy0 hs2 (j := 0) rfl rfl
  obtain ⟨nI, hI⟩ := ints_open hy1
  exact ⟨c0, c1, nB, nI, rfl, hB, hI⟩
end
section
open Go.RowKit Go
theorem acc_eq : (Rows.laid_unicode_utf8_acceptRanges : DataW Unit) = Lib.acceptData := by kernel_rfl
theorem fst_eq : Rows.laid_unicode_utf8_first = Lib.firstData := by kernel_rfl
theorem tabs_of_laid {W : World} (h : laidMet Tryz.prog [("unicode/utf8.acceptRanges", Rows.laid_unicode_utf8_acceptRanges), ("unicode/utf8.first", Rows.laid_unicode_utf8_first)] W) : Tabs W := by
  rw [acc_eq, fst_eq] at h
  exact utf8Tabs_of_readsT (U8Types.of196 Tryz.laysValid) ⟨by kernel_rfl, by kernel_rfl, by kernel_rfl, by kernel_rfl, by kernel_rfl, by kernel_rfl, by kernel_rfl⟩ (Lib.laidMet.reads h (.tail _ (.head _))) (Lib.laidMet.reads h (.head _))
/-- The settled world, the tables laid. -/
noncomputable def laidWorld6 (os : Os) : World :=
  let w0 := World.holding Tryz.prog os ⟨#[], #[], []⟩
  let put (h : Array Obj) (g : Nat) (cs : Array Value) : Array Obj := h.modify g fun
    | .cells _ t frozen => .cells cs t frozen
    | o => o
  let h1 := put w0.heap 0 (Lib.firstTab.map fun z => Value.int .u8 z).toArray
  let h2 := put h1 1 ((List.range 16).flatMap fun i => [Value.int .u8 (Lib.accLo i), Value.int .u8 (Lib.accHi i)]).toArray
  { w0 with heap := h2 }
theorem laid_met6 (os : Os) (args : Array Value) : laidMet Tryz.prog [("unicode/utf8.acceptRanges", Rows.laid_unicode_utf8_acceptRanges), ("unicode/utf8.first", Rows.laid_unicode_utf8_first)] ((laidWorld6 os).forCall (fun _ _ => 0) ⟨#[], args, []⟩).memory := by
  rw [acc_eq, fst_eq]
  exact (LaidIn.of_run (l := [("unicode/utf8.acceptRanges", Lib.acceptData), ("unicode/utf8.first", Lib.firstData)]) [1, 0] 8 (by kernel_rfl) (by kernel_rfl) (by kernel_rfl) (by kernel_rfl)).met
end
section
open Go.ChangeShapes Go.WideShapes Go.ChangeAt Go.RowKit Go.Deep Go.Joins Go

end
end Go.Proofs.YtdejcapbggjjgaaGreatDoor
