import Derived.Test.YtibcepokeaaoiaaDoorJj
import Derived.Deep.CutBlock
import Derived.Lib.ValidLaws
import Derived.LaidLaws
import Derived.Handed
import Derived.Lib.LaidTab
import Derived.Great.BuildSlice
import Derived.Great.FillDense
import Derived.Maps.AppendAt
namespace Go.Proofs.YtibcepokeaaoiaaDoor
section
open Go.RowKit Go
/-- The key at a place. -/
def kat (ks : List ByteArray) (p : Nat) : List Nat := sl (ks.getD p ⟨#[]⟩)
/-- Two rows of places being put into one. -/
structure Mrg (ks : List ByteArray) (a b : List Nat) (i k : Nat) (out : List Nat) : Prop where
  p : out.Perm (a.take i ++ b.take k)
  s : out.Pairwise (fun p q => bfr (kat ks q) (kat ks p) = false)
  r : ∀ p ∈ out, ∀ q, q ∈ a.drop i ∨ q ∈ b.drop k → bfr (kat ks q) (kat ks p) = false
theorem Mrg.start (ks : List ByteArray) (a b : List Nat) : Mrg ks a b 0 0 [] := ⟨by simp, by simp, by simp⟩
theorem pw_drop {R : Nat → Nat → Prop} {a : List Nat} (h : a.Pairwise R) {i x : Nat} (hx : a[i]? = some x) : ∀ q ∈ a.drop (i + 1), R x q := by
  have hi := (List.getElem?_eq_some_iff.1 hx).1
  have h2 : (a.drop i).Pairwise R := h.sublist (List.drop_sublist i a)
  rw [List.drop_eq_getElem_cons hi] at h2
  rw [List.getElem?_eq_getElem hi] at hx
  injection hx with hx
  subst hx
  exact fun q hq => List.rel_of_pairwise_cons h2 hq
theorem mem_drop_cons {a : List Nat} {i x q : Nat} (hx : a[i]? = some x) (hq : q ∈ a.drop i) : q = x ∨ q ∈ a.drop (i + 1) := by
  have hi := (List.getElem?_eq_some_iff.1 hx).1
  rw [List.drop_eq_getElem_cons hi] at hq
  rw [List.getElem?_eq_getElem hi] at hx
  injection hx with hx
  subst hx
  exact List.mem_cons.1 hq
theorem mem_drop_at {a : List Nat} {i x : Nat} (hx : a[i]? = some x) : x ∈ a.drop i := by
  have hi := (List.getElem?_eq_some_iff.1 hx).1
  rw [List.drop_eq_getElem_cons hi]
  rw [List.getElem?_eq_getElem hi] at hx
  injection hx with hx
  simp [hx]
theorem mem_drop_succ {a : List Nat} {i q : Nat} (hq : q ∈ a.drop (i + 1)) : q ∈ a.drop i := by
  have e : a.drop (i + 1) = (a.drop i).drop 1 := by rw [List.drop_drop]
  rw [e] at hq
  exact List.mem_of_mem_drop hq
theorem take_at2 {a : List Nat} {i x : Nat} (hx : a[i]? = some x) : a.take (i + 1) = a.take i ++ [x] := by
  have hi := (List.getElem?_eq_some_iff.1 hx).1
  rw [List.take_succ_eq_append_getElem hi]
  rw [List.getElem?_eq_getElem hi] at hx
  injection hx with hx
  rw [hx]
theorem Mrg.left {ks : List ByteArray} {a b out : List Nat} {i k x : Nat} (h : Mrg ks a b i k out) (ha : a.Pairwise (fun p q => bfr (kat ks q) (kat ks p) = false)) (hb : b.Pairwise (fun p q => bfr (kat ks q) (kat ks p) = false)) (hx : a[i]? = some x)
    (hy : ∀ y, b[k]? = some y → bfr (kat ks y) (kat ks x) = false) : Mrg ks a b (i + 1) k (out ++ [x]) := by
  refine ⟨?_, ?_, ?_⟩
  · rw [take_at2 hx]
    refine (h.p.append_right [x]).trans ?_
    rw [List.append_assoc, List.append_assoc]
    exact (List.perm_append_comm).append_left _
  · rw [List.pairwise_append]
    refine ⟨h.s, by simp, ?_⟩
    intro p hp q hq
    rw [List.mem_singleton] at hq
    subst hq
    exact h.r p hp q (.inl (mem_drop_at hx))
  · intro p hp q hq
    rw [List.mem_append, List.mem_singleton] at hp
    rcases hp with hp | rfl
    · rcases hq with hq | hq
      · exact h.r p hp q (.inl (mem_drop_succ hq))
      · exact h.r p hp q (.inr hq)
    · rcases hq with hq | hq
      · exact pw_drop ha hx q hq
      · have hkl : k < b.length := by
          rcases Nat.lt_or_ge k b.length with h1 | h1
          · exact h1
          · rw [List.drop_of_length_le h1] at hq; simp at hq
        have hk := List.getElem?_eq_getElem hkl
        rcases mem_drop_cons hk hq with rfl | hq
        · exact hy _ hk
        · exact bfr_nt _ _ _ (pw_drop hb hk q hq) (hy _ hk)
theorem Mrg.right {ks : List ByteArray} {a b out : List Nat} {i k y : Nat} (h : Mrg ks a b i k out) (ha : a.Pairwise (fun p q => bfr (kat ks q) (kat ks p) = false)) (hb : b.Pairwise (fun p q => bfr (kat ks q) (kat ks p) = false)) (hy : b[k]? = some y)
    (hx : ∀ x, a[i]? = some x → bfr (kat ks x) (kat ks y) = false) : Mrg ks a b i (k + 1) (out ++ [y]) := by
  refine ⟨?_, ?_, ?_⟩
  · rw [take_at2 hy, ← List.append_assoc]
    exact h.p.append_right [y]
  · rw [List.pairwise_append]
    refine ⟨h.s, by simp, ?_⟩
    intro p hp q hq
    rw [List.mem_singleton] at hq
    subst hq
    exact h.r p hp q (.inr (mem_drop_at hy))
  · intro p hp q hq
    rw [List.mem_append, List.mem_singleton] at hp
    rcases hp with hp | rfl
    · rcases hq with hq | hq
      · exact h.r p hp q (.inl hq)
      · exact h.r p hp q (.inr (mem_drop_succ hq))
    · rcases hq with hq | hq
      · have hil : i < a.length := by
          rcases Nat.lt_or_ge i a.length with h1 | h1
          · exact h1
          · rw [List.drop_of_length_le h1] at hq; simp at hq
        have hi := List.getElem?_eq_getElem hil
        rcases mem_drop_cons hi hq with rfl | hq
        · exact hx _ hi
        · exact bfr_nt _ _ _ (pw_drop ha hi q hq) (hx _ hi)
      · exact pw_drop hb hy q hq
theorem bfr_asym {x y : List Nat} (h : bfr x y = true) : bfr y x = false := by
  rcases Bool.eq_false_or_eq_true (bfr y x) with h2 | h2
  · have := bfr_tr _ _ _ h h2
    rw [bfr_self] at this
    exact absurd this (by simp)
  · exact h2
theorem kat_take {ks : List ByteArray} {h p : Nat} (hp : p < h) : kat (ks.take h) p = kat ks p := by
  unfold kat List.getD
  rw [List.getElem?_take_of_lt hp]
theorem kat_drop (ks : List ByteArray) (h p : Nat) : kat (ks.drop h) p = kat ks (h + p) := by
  unfold kat List.getD
  rw [List.getElem?_drop]
theorem srp_pw {ks : List ByteArray} {n : Nat} {ps : List Nat} (h : Srp ks n ps) : ps.Pairwise (fun p q => bfr (kat ks q) (kat ks p) = false) := h.pw
theorem srp_left {ks : List ByteArray} {h : Nat} {a : List Nat} (hs : Srp (ks.take h) h a) : a.Pairwise (fun p q => bfr (kat ks q) (kat ks p) = false) := by
  refine (srp_pw hs).imp_of_mem ?_
  intro p q hp hq e
  rw [kat_take (hs.lt p hp), kat_take (hs.lt q hq)] at e
  exact e
theorem srp_right {ks : List ByteArray} {h m : Nat} {b : List Nat} (hs : Srp (ks.drop h) m b) : (b.map (h + ·)).Pairwise (fun p q => bfr (kat ks q) (kat ks p) = false) := by
  rw [List.pairwise_map]
  refine (srp_pw hs).imp ?_
  intro p q e
  rw [kat_drop, kat_drop] at e
  exact e
theorem Mrg.done {ks : List ByteArray} {h n : Nat} {a b out : List Nat} (hm : Mrg ks a (b.map (h + ·)) a.length b.length out) (hs : Srp (ks.take h) h a) (ht : Srp (ks.drop h) (n - h) b) (hn : h ≤ n) : Srp ks n out := by
  refine ⟨?_, ?_⟩
  · refine hm.p.trans ?_
    rw [List.take_length, show b.length = (b.map (h + ·)).length by simp, List.take_length]
    have e : List.range n = List.range h ++ (List.range (n - h)).map (h + ·) := by
      have e2 : n = h + (n - h) := by omega
      conv => lhs; rw [e2]
      rw [List.range_add]
    rw [e]
    exact hs.p.append (ht.p.map _)
  · intro i j p q hij hp hq
    have h1 := List.pairwise_iff_getElem.1 hm.s i j (List.getElem?_eq_some_iff.1 hp).1 (List.getElem?_eq_some_iff.1 hq).1 hij
    rw [(List.getElem?_eq_some_iff.1 hp).2, (List.getElem?_eq_some_iff.1 hq).2] at h1
    exact h1
theorem Mrg.len {ks : List ByteArray} {a b out : List Nat} {i k : Nat} (h : Mrg ks a b i k out) (hi : i ≤ a.length) (hk : k ≤ b.length) : out.length = i + k := by
  rw [h.p.length_eq, List.length_append, List.length_take, List.length_take]
  omega
theorem srp_nil : Srp [] 0 [] := ⟨by simp, by simp⟩
theorem srp_single (s : ByteArray) : Srp [s] 1 [0] := ⟨by simp [List.range_succ], fun i j p q hij hp hq => by
  have h1 := (List.getElem?_eq_some_iff.1 hq).1
  simp at h1
  omega⟩
end
section
open Go.RowKit Go
/-- What the reference's Order does. -/
def OrdC (ks : List ByteArray) : Prop := ∀ (w : World) (v : Value), SSl w v ks → ks.length ≤ 100000 → Calls Tryd.prog 46 #[v] w fun e w' => ∃ v' ps, e = .returned v' ∧ Srp ks ks.length ps ∧ w'.ownsRow w.heap.size 3 1 v' ps.length (ivs ps) ∧ Below w.heap.size w w'
theorem SSl.take {w : World} {b off n cap h : Nat} {ks : List ByteArray} (hs : SSl w (.slice (some ⟨b, off, none⟩) n cap) ks) (hh : h ≤ ks.length) : SSl w (.slice (some ⟨b, off, none⟩) h cap) (ks.take h) := by
  obtain ⟨⟨a, c, hv, hn, hc⟩, h1, h2⟩ := hs
  injection hv with e1 e2 e3
  subst e1 e2 e3
  have hl : (ks.take h).length = h := by rw [List.length_take]; omega
  refine ⟨⟨_, _, by rw [hl], ⟨by omega, hn.2⟩, ?_⟩, by omega, fun s hs => h2 s (List.mem_of_mem_take hs)⟩
  rcases hc with hc | ⟨b', off', ha, hc⟩
  · exact .inl (by rw [hc]; simp)
  · refine .inr ⟨b', off', ha, fun j s hj => hc j s ?_⟩
    have hjl := (List.getElem?_eq_some_iff.1 hj).1
    rw [List.getElem?_take_of_lt (by omega)] at hj
    exact hj
theorem SSl.drop {w : World} {b off n cap h : Nat} {ks : List ByteArray} (hs : SSl w (.slice (some ⟨b, off, none⟩) n cap) ks) (hh : h ≤ ks.length) : SSl w (.slice (some ⟨b, off + h, none⟩) (n - h) (cap - h)) (ks.drop h) := by
  obtain ⟨⟨a, c, hv, hn, hc⟩, h1, h2⟩ := hs
  injection hv with e1 e2 e3
  subst e1 e2 e3
  have hl : (ks.drop h).length = ks.length - h := List.length_drop
  refine ⟨⟨_, _, by rw [hl], ⟨by omega, fun h => by cases h⟩, ?_⟩, by omega, fun s hs => h2 s (List.mem_of_mem_drop hs)⟩
  rcases hc with hc | ⟨b', off', ha, hc⟩
  · exact .inl (by rw [hc]; simp)
  · injection ha with ha
    injection ha with ha1 ha2
    subst ha1 ha2
    refine .inr ⟨_, _, rfl, fun j s hj => ?_⟩
    rw [Nat.add_assoc]
    rw [List.getElem?_drop] at hj
    exact hc _ s hj
set_option maxRecDepth 1000000 in
theorem OrdC.small {ks : List ByteArray} (h : ks.length ≤ 1) : OrdC ks := by
  intro w v hv hl
  obtain ⟨⟨a, cap, rfl, hn, hc⟩, h1, h2⟩ := hv
  clear hc h1 h2 hl hn
  by_cases h0 : ks.length = 0
  · as_aux_lemma =>
    have e : ks = [] := List.length_eq_zero_iff.1 h0
    subst e
    go_enter Tryd.func46, Tryd.ntmps46
    go_wp2_with fail
    go_ret
    exact ⟨_, [], rfl, srp_nil, World.ownsRow_nil _ _ _ _, Below.refl _ _⟩
  · as_aux_lemma =>
    obtain ⟨s, e⟩ := List.length_eq_one_iff.1 (show ks.length = 1 by omega)
    subst e
    clear h h0
    go_enter Tryd.func46, Tryd.ntmps46
    go_wp2_with (at_builtin; refine append_nat rfl _ _ rfl w.heap.size _ [] rfl (World.ownsRow_nil _ _ _ _) 0 rfl (by simp) (Nat.le_refl _) ?_)
    intro v5 w5 ho5 hb5
    have HO5 := hide ho5
    have HB5 := hide hb5
    clear ho5 hb5
    go_wp2_with fail
    go_ret
    exact ⟨_, [0], rfl, srp_single s, HO5.out, HB5.out⟩
set_option maxRecDepth 1000000 in
set_option maxHeartbeats 20000000 in
theorem order_step (ks : List ByteArray) (ih : ∀ l : List ByteArray, l.length < ks.length → OrdC l) : OrdC ks := by
  intro w v hv hl
  by_cases hsm : ks.length ≤ 1
  · exact OrdC.small hsm w v hv hl
  have HS0 := hide hv
  have HIH := hide ih
  clear ih
  obtain ⟨⟨a, cap, rfl, hn, hc⟩, h1, h2⟩ := hv
  have HSZ := hide h2
  obtain ⟨b, off, rfl, hcc⟩ := hc.resolve_left (fun h => by rw [h] at hsm; simp at hsm)
  have HCC := hide hcc
  clear hc hcc h1 h2
  have hcap := hn.1
  clear hn
  obtain ⟨h, hh⟩ : ∃ h, h = ks.length / 2 := ⟨_, rfl⟩
  have hq : ((ks.length : Int) / 2) = (h : Int) := by omega
  have hq2 : Int.tdiv (ks.length : Int) 2 = (h : Int) := by rw [Int.tdiv_eq_ediv_of_nonneg (by omega)]; exact hq
  have hhl : h < ks.length := by omega
  have hhp : 0 < h := by omega
  have g1 : ((ks.length : Int) == 1) = false := beq_eq_false_iff_ne.2 (by omega)
  have g0 : ((ks.length : Int) == 0) = false := beq_eq_false_iff_ne.2 (by omega)
  have gh : (h : Int) ≤ (cap : Int) := by omega
  have gh2 : (h : Int) ≤ (ks.length : Int) := by omega
  have gc : (ks.length : Int) ≤ (cap : Int) := by omega
  have HN : Hid (h = ks.length / 2) := hh
  have HBe : Hid (Below w.heap.size w w) := Below.refl _ _
  clear hh hsm
  go_enter Tryd.func46, Tryd.ntmps46
  go_wp2_with fail
  refine (HIH.out (ks.take h) (by rw [List.length_take]; omega) w _ (HS0.out.take (by omega)) (by rw [List.length_take]; omega)).mono ?_
  rintro e w1 ⟨va, pa, rfl, hsa, hoa, hb1⟩
  have hla : (ks.take h).length = h := by rw [List.length_take]; omega
  rw [hla] at hsa
  have hpa : pa.length = h := hsa.len
  have HSA := hide hsa
  have HB1 := hide hb1
  have hia : ISl w1 va pa := ISl.own hoa rfl (by omega)
  have HIA := hide hia
  clear hsa hoa hb1 hia hla
  go_wp2_with fail
  refine (HIH.out (ks.drop h) (by rw [List.length_drop]; omega) w1 _ ((HS0.out.move (keep_below HB1.out)).drop (by omega)) (by rw [List.length_drop]; omega)).mono ?_
  rintro e w3 ⟨vb, pb, rfl, hsb, hob, hb2⟩
  rw [List.length_drop] at hsb
  have hpb : pb.length = ks.length - h := hsb.len
  have HSB := hide hsb
  have hib : ISl w3 vb pb := ISl.own hob rfl (by omega)
  have hia : ISl w3 va pa := HIA.out.move (keep_below hb2)
  have HB3 : Hid (Below w.heap.size w w3) := HB1.out.trans (hb2.mono HB1.out.size)
  have HC3 : Hid (∀ j s, ks[j]? = some s → w3.cell? ⟨b, off + j, none⟩ = some (.string s)) := fun j s hj => keep_below HB3.out _ _ (HCC.out j s hj)
  have HPA : Hid (∀ p ∈ pa, p < h) := HSA.out.lt
  have HPB : Hid (∀ p ∈ pb, p < ks.length - h) := HSB.out.lt
  have HWA := hide (srp_left HSA.out)
  have HWB := hide (srp_right HSB.out)
  clear hsb hob hb2 HIA HB1 HCC HS0 HIH gh gh2 gc g0 g1 hq hq2
  obtain ⟨⟨aa, ca, rfl, hna, hca⟩, _⟩ := hia
  obtain ⟨ba, oa, rfl, hcca⟩ := hca.resolve_left (fun h => by rw [h] at hpa; simp at hpa; omega)
  obtain ⟨⟨ab, cb, rfl, hnb, hcb⟩, _⟩ := hib
  obtain ⟨bb, ob, rfl, hccb⟩ := hcb.resolve_left (fun h => by rw [h] at hpb; simp at hpb; omega)
  have HCA := hide hcca
  have HCB := hide hccb
  have HPL : Hid (pa.length = h ∧ pb.length = ks.length - h) := ⟨hpa, hpb⟩
  have hpa2 : pa.length ≤ 100000 := by omega
  have hpb2 : pb.length ≤ 100000 := by omega
  clear hca hcca hcb hccb hna hnb w1 hpa hpb
  go_wp2_with fail
  go_loopw [3, 7, 8] (fun vv ii kk wx => ∃ (i k : Nat) (os : List Nat), i ≤ pa.length ∧ k ≤ pb.length ∧ ii = .int .i64 (i : Nat) ∧ kk = .int .i64 (k : Nat) ∧ Hid (Mrg ks pa (pb.map (h + ·)) i k os) ∧ Hid (wx.ownsRow w3.heap.size 3 1 vv os.length (ivs os)) ∧ Hid (Below w3.heap.size w3 wx)) (fun _ ii kk _ => pa.length + pb.length - (intOf ii).toNat - (intOf kk).toNat)
  case atStart => exact ⟨0, 0, [], by omega, by omega, rfl, rfl, Mrg.start _ _ _, World.ownsRow_nil _ _ _ _, Below.refl _ _⟩
  case round =>
    obtain ⟨i, k, os, hi, hk, rfl, rfl, HM, HO, HBw⟩ := hrel
    obtain ⟨ax, cx, hvx⟩ := own_slice HO.out
    subst hvx
    have HLN : Hid (os.length < 1099511627776) := by
      have h1 := HM.out.len hi (by rw [List.length_map]; exact hk)
      show _ < _
      omega
    have hce : ∀ (p : Addr) (x : Value), w3.cell? p = some x → ∀ t : Ext wr, t.w'.cell? p = some x := fun p x hx t => keep_below t.h _ _ (keep_below HBw.out _ _ hx)
    by_cases hkb : k < pb.length
    · obtain ⟨y, hy⟩ : ∃ y, pb[k]? = some y := ⟨pb[k], List.getElem?_eq_getElem hkb⟩
      have hyl := HPB.out y (List.mem_of_getElem? hy)
      obtain ⟨m, hm⟩ : ∃ m, m = h + y := ⟨_, rfl⟩
      obtain ⟨sy, hsy⟩ : ∃ s, ks[m]? = some s := ⟨ks[m], List.getElem?_eq_getElem (by omega)⟩
      have HMY : Hid ((pb.map (h + ·))[k]? = some m) := by show _ = _; rw [List.getElem?_map, hy, hm]; rfl
      have HKY : Hid (kat ks m = sl sy) := by show sl (ks.getD _ _) = _; rw [List.getD_eq_getElem?_getD, hsy]; rfl
      have HSY := hide (HSZ.out sy (List.mem_of_getElem? hsy))
      have cB := hce _ _ (HCB.out k y hy)
      have cBw := keep_below HBw.out _ _ (HCB.out k y hy)
      have cE := hce _ _ (HC3.out _ sy hsy)
      have gk : (k : Int) < (pb.length : Int) := by omega
      have gke : ((k : Int) == (pb.length : Int)) = false := beq_eq_false_iff_ne.2 (by omega)
      have ey : (h : Int) + (y : Int) = (m : Int) := by omega
      have wm : IntKind.i64.wrap (m : Int) = (m : Int) := by rw [IntKind.wrap_i64]; omega
      have gy2 : (m : Int) < (ks.length : Int) := by omega
      have HML : Hid (m < ks.length) := by show _ < _; omega
      clear hm
      clear hy hsy
      by_cases hia : i < pa.length
      · obtain ⟨x, hx⟩ : ∃ x, pa[i]? = some x := ⟨pa[i], List.getElem?_eq_getElem hia⟩
        have hxl := HPA.out x (List.mem_of_getElem? hx)
        obtain ⟨sx, hsx⟩ : ∃ s, ks[x]? = some s := ⟨ks[x], List.getElem?_eq_getElem (by omega)⟩
        have HMX := hide hx
        have HKX : Hid (kat ks x = sl sx) := by show sl (ks.getD _ _) = _; rw [List.getD_eq_getElem?_getD, hsx]; rfl
        have cA := hce _ _ (HCA.out i x hx)
        have cAw := keep_below HBw.out _ _ (HCA.out i x hx)
        have cF := hce _ _ (HC3.out _ sx hsx)
        have gi : (i : Int) < (pa.length : Int) := by omega
        have gx : (x : Int) < (ks.length : Int) := by omega
        have HBC0 : Hid (∀ t : Ext wr, Calls Tryd.prog 19 #[.string sy, .string sx] t.w' fun e w'' => e = .returned (.bool (bfr (sl sy) (sl sx))) ∧ ∃ t' : Ext wr, w'' = t'.w') := fun t => Calls.ext_below (rbefore_any t.w' sy sx (by have := HSY.out; omega))
        clear hx hsx hce
        rcases Bool.eq_false_or_eq_true (bfr (sl sy) (sl sx)) with hbf | hbf
        · as_aux_lemma =>
          have HBC := HBC0
          rw [hbf] at HBC
          have HM2 : Hid (Mrg ks pa (pb.map (h + ·)) i (k + 1) (os ++ [m])) := HM.out.right HWA.out HWB.out HMY.out (fun x' hx' => by
            have e := hx'.symm.trans HMX.out
            injection e with e
            rw [e, HKX.out, HKY.out]
            exact bfr_asym hbf)
          clear HBC0 hbf HM
          go_wp2_with fail
          refine region_ext (by kernel_rfl) (by kernel_rfl) ?_
          repeat (
            with_reducible refine wpQuiet_step (fun K hK => ?_)
            go_simp
            first
              | (with_reducible refine hK _ ?_; clear hK K)
              | (rw [if_neg (by decide)]; with_reducible refine hK _ ?_; clear hK K)
              | (apply Exists.intro
                 refine ⟨fun _ => ?_, hK _ ?_⟩
                 (go_at_call 19; exact HBC.out _)
                 clear hK K))
          refine wpQuiet_nil ?_
          rintro _ ⟨tq, rfl⟩
          have HB2 : Hid (Below w3.heap.size w3 tq.w') := HBw.out.trans (tq.h.mono HBw.out.size)
          have HO2 : Hid (tq.w'.ownsRow w3.heap.size 3 1 (.slice ax os.length cx) os.length (ivs os)) := (Kp.of_below (S := fun _ => False) tq.h).owns HO.out (fun _ _ e => e)
          have cA2 := keep_below tq.h _ _ cBw
          clear HBw HO HBC cE cF cBw
          generalize tq.w' = w4 at *
          clear tq
          go_wp2_with (at_builtin; refine append_nat rfl _ _ rfl w3.heap.size _ os rfl HO2.out m rfl HLN.out HB2.out.size ?_)
          intro v5 w5 ho5 hb5
          have HO5 : Hid (w5.ownsRow w3.heap.size 3 1 v5 (os ++ [m]).length (ivs (os ++ [m]))) := by show World.ownsRow _ _ _ _ _ _ _; rw [List.length_append]; exact ho5
          have HB5 : Hid (Below w3.heap.size w3 w5) := HB2.out.trans hb5
          clear ho5 hb5 HO2 HB2
          go_wp2_with fail
          go_roundw
          case rel => exact ⟨i, k + 1, _, by omega, by omega, by go_num, by go_num, HM2, HO5, HB5⟩
          case measure => simp [intOf]; omega
        · as_aux_lemma =>
          have HBC := HBC0
          rw [hbf] at HBC
          have HM2 : Hid (Mrg ks pa (pb.map (h + ·)) (i + 1) k (os ++ [x])) := HM.out.left HWA.out HWB.out HMX.out (fun y' hy' => by
            have e := hy'.symm.trans HMY.out
            injection e with e
            rw [e, HKX.out, HKY.out]
            exact hbf)
          clear HBC0 hbf HM
          go_wp2_with fail
          refine region_ext (by kernel_rfl) (by kernel_rfl) ?_
          repeat (
            with_reducible refine wpQuiet_step (fun K hK => ?_)
            go_simp
            first
              | (with_reducible refine hK _ ?_; clear hK K)
              | (rw [if_neg (by decide)]; with_reducible refine hK _ ?_; clear hK K)
              | (apply Exists.intro
                 refine ⟨fun _ => ?_, hK _ ?_⟩
                 (go_at_call 19; exact HBC.out _)
                 clear hK K))
          refine wpQuiet_nil ?_
          rintro _ ⟨tq, rfl⟩
          have HB2 : Hid (Below w3.heap.size w3 tq.w') := HBw.out.trans (tq.h.mono HBw.out.size)
          have HO2 : Hid (tq.w'.ownsRow w3.heap.size 3 1 (.slice ax os.length cx) os.length (ivs os)) := (Kp.of_below (S := fun _ => False) tq.h).owns HO.out (fun _ _ e => e)
          have cA2 := keep_below tq.h _ _ cAw
          clear HBw HO HBC cE cF cAw
          generalize tq.w' = w4 at *
          clear tq
          go_wp2_with (at_builtin; refine append_nat rfl _ _ rfl w3.heap.size _ os rfl HO2.out x rfl HLN.out HB2.out.size ?_)
          intro v5 w5 ho5 hb5
          have HO5 : Hid (w5.ownsRow w3.heap.size 3 1 v5 (os ++ [x]).length (ivs (os ++ [x]))) := by show World.ownsRow _ _ _ _ _ _ _; rw [List.length_append]; exact ho5
          have HB5 : Hid (Below w3.heap.size w3 w5) := HB2.out.trans hb5
          clear ho5 hb5 HO2 HB2
          go_wp2_with fail
          go_roundw
          case rel => exact ⟨i + 1, k, _, by omega, by omega, by go_num, by go_num, HM2, HO5, HB5⟩
          case measure => simp [intOf]; omega
      · as_aux_lemma =>
        have hie : i = pa.length := by omega
        subst hie
        clear hia hi
        have HM2 : Hid (Mrg ks pa (pb.map (h + ·)) pa.length (k + 1) (os ++ [m])) := HM.out.right HWA.out HWB.out HMY.out (fun x' hx' => by
          have := (List.getElem?_eq_some_iff.1 hx').1
          omega)
        clear HM hce
        go_wp2_with fail
        refine region_ext (by kernel_rfl) (by kernel_rfl) ?_
        repeat (
          with_reducible refine wpQuiet_step (fun K hK => ?_)
          go_simp
          first
            | (with_reducible refine hK _ ?_; clear hK K)
            | (rw [if_neg (by decide)]; with_reducible refine hK _ ?_; clear hK K))
        refine wpQuiet_nil ?_
        rintro _ ⟨tq, rfl⟩
        have HB2 : Hid (Below w3.heap.size w3 tq.w') := HBw.out.trans (tq.h.mono HBw.out.size)
        have HO2 : Hid (tq.w'.ownsRow w3.heap.size 3 1 (.slice ax os.length cx) os.length (ivs os)) := (Kp.of_below (S := fun _ => False) tq.h).owns HO.out (fun _ _ e => e)
        have cA2 := keep_below tq.h _ _ cBw
        clear HBw HO cBw
        generalize tq.w' = w4 at *
        clear tq
        go_wp2_with (at_builtin; refine append_nat rfl _ _ rfl w3.heap.size _ os rfl HO2.out m rfl HLN.out HB2.out.size ?_)
        intro v5 w5 ho5 hb5
        have HO5 : Hid (w5.ownsRow w3.heap.size 3 1 v5 (os ++ [m]).length (ivs (os ++ [m]))) := by show World.ownsRow _ _ _ _ _ _ _; rw [List.length_append]; exact ho5
        have HB5 : Hid (Below w3.heap.size w3 w5) := HB2.out.trans hb5
        clear ho5 hb5 HO2 HB2
        go_wp2_with fail
        go_roundw
        case rel => exact ⟨pa.length, k + 1, _, by omega, by omega, by go_num, by go_num, HM2, HO5, HB5⟩
        case measure => simp [intOf]; omega
    · have HKE : Hid (k = pb.length) := by show _ = _; omega
      by_cases hia : i < pa.length
      · as_aux_lemma =>
        obtain ⟨x, hx⟩ : ∃ x, pa[i]? = some x := ⟨pa[i], List.getElem?_eq_getElem hia⟩
        have cAw := keep_below HBw.out _ _ (HCA.out i x hx)
        have gi : (i : Int) < (pa.length : Int) := by omega
        have hke := HKE.out
        subst hke
        clear HKE hkb hk
        have HM2 : Hid (Mrg ks pa (pb.map (h + ·)) (i + 1) pb.length (os ++ [x])) := HM.out.left HWA.out HWB.out hx (fun y' hy' => by
          have := (List.getElem?_eq_some_iff.1 hy').1
          rw [List.length_map] at this
          omega)
        clear HM hce hx
        go_wp2_with fail
        refine region_ext (by kernel_rfl) (by kernel_rfl) ?_
        repeat (
          with_reducible refine wpQuiet_step (fun K hK => ?_)
          go_simp
          first
            | (with_reducible refine hK _ ?_; clear hK K)
            | (rw [if_neg (by decide)]; with_reducible refine hK _ ?_; clear hK K))
        refine wpQuiet_nil ?_
        rintro _ ⟨tq, rfl⟩
        have HB2 : Hid (Below w3.heap.size w3 tq.w') := HBw.out.trans (tq.h.mono HBw.out.size)
        have HO2 : Hid (tq.w'.ownsRow w3.heap.size 3 1 (.slice ax os.length cx) os.length (ivs os)) := (Kp.of_below (S := fun _ => False) tq.h).owns HO.out (fun _ _ e => e)
        have cA2 := keep_below tq.h _ _ cAw
        clear HBw HO cAw
        generalize tq.w' = w4 at *
        clear tq
        go_wp2_with (at_builtin; refine append_nat rfl _ _ rfl w3.heap.size _ os rfl HO2.out x rfl HLN.out HB2.out.size ?_)
        intro v5 w5 ho5 hb5
        have HO5 : Hid (w5.ownsRow w3.heap.size 3 1 v5 (os ++ [x]).length (ivs (os ++ [x]))) := by show World.ownsRow _ _ _ _ _ _ _; rw [List.length_append]; exact ho5
        have HB5 : Hid (Below w3.heap.size w3 w5) := HB2.out.trans hb5
        clear ho5 hb5 HO2 HB2
        go_wp2_with fail
        go_roundw
        case rel => exact ⟨i + 1, pb.length, _, by omega, by omega, by go_num, by go_num, HM2, HO5, HB5⟩
        case measure => simp [intOf]; omega
      · as_aux_lemma =>
        have gi : ¬ (i : Int) < (pa.length : Int) := by omega
        have gi2 : ¬ i < pa.length := by omega
        have gi3 : decide (i < pa.length) = false := decide_eq_false gi2
        have gi4 : decide ((i : Int) < (pa.length : Int)) = false := decide_eq_false gi
        have gk : ¬ (k : Int) < (pb.length : Int) := by omega
        have HR : Hid (Srp ks ks.length os) := by
          have e1 : i = pa.length := by omega
          have h1 := HM.out
          rw [e1, HKE.out] at h1
          exact h1.done HSA.out HSB.out (by omega)
        have HBZ : Hid (Below w.heap.size w wr) := HB3.out.trans (HBw.out.mono HB3.out.size)
        have HOZ : Hid (wr.ownsRow w.heap.size 3 1 (.slice ax os.length cx) os.length (ivs os)) := own_mono HO.out HB3.out.size
        clear HM hce
        go_wp2_with fail
        go_ret
        exact ⟨_, rfl, os, HR.out, HOZ.out, HBZ.out⟩
theorem orderR_any (ks : List ByteArray) : OrdC ks := by
  have key : ∀ N, ∀ l : List ByteArray, l.length = N → OrdC l := by
    intro N
    induction N using Nat.strongRecOn with
    | _ N ih =>
      intro l hl
      exact order_step l fun m hm => ih m.length (by omega) m rfl
  exact key _ ks rfl
end
section
open Go.RowKit Go
set_option maxRecDepth 1000000 in
set_option maxHeartbeats 1000000 in
theorem keys_any (t : Tv) (R : Bool) (hR : R = true ↔ (t.ks.length = t.is.length ∧ t.ks.Nodup)) (w : World) (cs : Array Value) (ht : Tin w t cs) (hn : t.ks.length ≤ 100000) : Calls Tryd.prog 75 #[.agg cs] w fun e w' => e = .returned (.bool R) ∧ Below w.heap.size w w' := by
  have HR := hide hR
  obtain ⟨vy, vk, vi, rfl, hy, hk, hv, hb⟩ := ht.parts
  have HKS := hide hk
  obtain ⟨⟨ak, ck, rfl, _, hkf⟩, hkm, _⟩ := hk
  obtain ⟨⟨ai, ci, rfl, _, _⟩, _⟩ := hv
  have HKF := hide hkf
  have HCK : Hid ((vcs t vy (.slice ak t.ks.length ck) (.slice ai t.is.length ci))[11]? = some (.slice ak t.ks.length ck)) := rfl
  have HCI : Hid ((vcs t vy (.slice ak t.ks.length ck) (.slice ai t.is.length ci))[12]? = some (.slice ai t.is.length ci)) := rfl
  generalize vcs t vy (.slice ak t.ks.length ck) (.slice ai t.is.length ci) = cs at *
  clear hR ht hy hkf hb
  have HQ0 : Hid (Aln w (w.alloc (.cells cs 30)) cs) := box_mk0 w _
  have q11 : (w.alloc (.cells cs 30)).cell? ⟨w.heap.size, 11, none⟩ = some (.slice ak t.ks.length ck) := blk_cell HQ0.out.2 HCK.out
  have q12 : (w.alloc (.cells cs 30)).cell? ⟨w.heap.size, 12, none⟩ = some (.slice ai t.is.length ci) := blk_cell HQ0.out.2 HCI.out
  go_enter Tryd.func75, Tryd.ntmps75
  by_cases hl : t.ks.length = t.is.length
  case neg => as_aux_lemma =>
    have HT : Hid (R = false) := r_no HR.out (fun h => hl h.1)
    have g0 : ((t.ks.length : Int) != (t.is.length : Int)) = true := by rw [nat_ne]; simp [hl]
    clear hl
    go_wp2_with fail
    go_ret
    exact ⟨by rw [HT.out]; rfl, HQ0.out.1⟩
  have g0 : ((t.ks.length : Int) != (t.is.length : Int)) = false := by rw [nat_ne]; simp [hl]
  have HL := hide hl
  clear hl
  go_wp2_with fail
  refine (orderR_any t.ks _ _ (HKS.out.move (keep_below HQ0.out.1)) hn).mono ?_
  rintro e w2 ⟨v, ps, rfl, hsp, ho, hb2⟩
  have HSP := hide hsp
  have hpl : ps.length ≤ 100000 := by have := hsp.len; omega
  have hi2 := ISl.own ho rfl (by omega)
  obtain ⟨⟨pa, pc, rfl, _, hpf⟩, _⟩ := hi2
  have HPF := hide hpf
  have HW2 := hide (HQ0.out.next hb2)
  clear hsp ho hb2 hpf HQ0 q11 q12
  go_wp2_with fail
  go_loopw [4] (fun ii wx => ∃ k : Nat, k ≤ ps.length ∧ ii = .int .i64 ((k : Int) + 1) ∧ Hid (∀ (j p q : Nat), j < k → ps[j]? = some p → ps[j + 1]? = some q → t.ks.getD p ⟨#[]⟩ ≠ t.ks.getD q ⟨#[]⟩) ∧ Hid (Below w2.heap.size w2 wx)) (fun ii _ => ps.length + 1 - (intOf ii).toNat)
  case atStart => exact ⟨0, by omega, rfl, fun j p q hj => absurd hj (by omega), Below.refl _ _⟩
  case round =>
    obtain ⟨k, hk1, rfl, HI, HBw⟩ := hrel
    have x1 : wr.cell? ⟨w.heap.size, 11, none⟩ = some (.slice ak t.ks.length ck) := keep_below HBw.out _ _ (blk_cell HW2.out.2 HCK.out)
    by_cases hlt : k + 1 < ps.length
    · have g1 : (k : Int) + 1 < (ps.length : Int) := by omega
      obtain ⟨p, hp⟩ : ∃ p, ps[k]? = some p := ⟨ps[k], List.getElem?_eq_getElem (by omega)⟩
      obtain ⟨q, hq⟩ : ∃ p, ps[k + 1]? = some p := ⟨ps[k + 1], List.getElem?_eq_getElem hlt⟩
      have l1 := HSP.out.lt p (List.mem_of_getElem? hp)
      have l2 := HSP.out.lt q (List.mem_of_getElem? hq)
      obtain ⟨b1, off1, rfl, hc1⟩ := HPF.out.resolve_left (fun h => by rw [h] at hlt; simp at hlt)
      obtain ⟨b2, off2, rfl, hc2⟩ := HKF.out.resolve_left (fun h => by rw [h] at l1; simp at l1)
      have hkw : ∀ a x, w.cell? a = some x → wr.cell? a = some x := fun a x h => keep_below HBw.out _ _ (keep_below HW2.out.1 _ _ h)
      have c1 : wr.cell? ⟨b1, off1 + k, none⟩ = some (.int .i64 (p : Nat)) := keep_below HBw.out _ _ (hc1 k p hp)
      have c2 : wr.cell? ⟨b1, off1 + (k + 1), none⟩ = some (.int .i64 (q : Nat)) := keep_below HBw.out _ _ (hc1 (k + 1) q hq)
      have s1 : wr.cell? ⟨b2, off2 + p, none⟩ = some (.string (t.ks.getD p ⟨#[]⟩)) := hkw _ _ (hc2 p _ (by simp [List.getD, List.getElem?_eq_getElem l1]))
      have s2 : wr.cell? ⟨b2, off2 + q, none⟩ = some (.string (t.ks.getD q ⟨#[]⟩)) := hkw _ _ (hc2 q _ (by simp [List.getD, List.getElem?_eq_getElem l2]))
      have g3 : (k : Int) < (ps.length : Int) := by omega
      have g4 : (p : Int) < (t.ks.length : Int) := by omega
      have g5 : (q : Int) < (t.ks.length : Int) := by omega
      clear hc1 hc2 hkw
      by_cases he : t.ks.getD p ⟨#[]⟩ = t.ks.getD q ⟨#[]⟩
      · as_aux_lemma =>
        have HT : Hid (R = false) := r_no HR.out (fun h => dup_adj HSP.out hp hq he h.2)
        have hne : ((t.ks.getD q ⟨#[]⟩).toList == (t.ks.getD p ⟨#[]⟩).toList) = true := by rw [he]; simp
        clear hp hq he HI
        generalize t.ks.getD p ⟨#[]⟩ = k1 at *
        generalize t.ks.getD q ⟨#[]⟩ = k2 at *
        go_wp2_with fail
        go_quiet (fail)
        go_wp2_with fail
        go_ret
        exact ⟨by rw [HT.out]; rfl, HW2.out.1.trans ((HBw.out.trans ((((Kp.refl (fun _ => False) wr).drewN _).below (Nat.le_refl _) (fun _ h => h.elim)).mono HBw.out.size)).mono HW2.out.1.size)⟩
      · as_aux_lemma =>
        have hne : ((t.ks.getD q ⟨#[]⟩).toList == (t.ks.getD p ⟨#[]⟩).toList) = false := str_beq_no (fun h => he h.symm)
        have HI2 : Hid (∀ (j p q : Nat), j < k + 1 → ps[j]? = some p → ps[j + 1]? = some q → t.ks.getD p ⟨#[]⟩ ≠ t.ks.getD q ⟨#[]⟩) := fun j p' q' hj h1 h2 => by
          by_cases hjk : j = k
          · subst hjk
            rw [hp] at h1
            rw [hq] at h2
            injection h1 with h1
            injection h2 with h2
            subst h1 h2
            exact he
          · exact HI.out j p' q' (by omega) h1 h2
        clear hp hq he HI
        generalize t.ks.getD p ⟨#[]⟩ = k1 at *
        generalize t.ks.getD q ⟨#[]⟩ = k2 at *
        go_wp2_with fail
        go_quiet (fail)
        go_wp2_with fail
        have HB2 : Hid (Below w2.heap.size w2 (wr.drewN nq)) := HBw.out.trans ((((Kp.refl (fun _ => False) wr).drewN _).below (Nat.le_refl _) (fun _ h => h.elim)).mono HBw.out.size)
        go_roundw
        case rel => exact ⟨k + 1, by omega, by go_num, HI2, HB2⟩
        case measure => simp [intOf]; omega
    · as_aux_lemma =>
      have g1 : ¬ (k : Int) + 1 < (ps.length : Int) := by omega
      have HT : Hid (R = true) := HR.out.2 ⟨HL.out, nodup_adj HSP.out (fun j p q h1 h2 => HI.out j p q (by have := (List.getElem?_eq_some_iff.1 h2).1; omega) h1 h2)⟩
      go_wp2_with fail
      go_ret
      exact ⟨by rw [HT.out]; rfl, HW2.out.1.trans (HBw.out.mono HW2.out.1.size)⟩
end
section
open Go.RowKit Go
/-- How many bytes a code point's first byte asks for; the bounds of the second. -/
def un (c : Nat) : Nat := if 194 ≤ c ∧ c ≤ 223 then 2 else if 224 ≤ c ∧ c ≤ 239 then 3 else if 240 ≤ c ∧ c ≤ 244 then 4 else 0
def ulo (c : Nat) : Nat := if c = 240 then 144 else if c = 224 then 160 else 128
def uhi (c : Nat) : Nat := if c = 244 then 143 else if c = 237 then 159 else 191
/-- How many bytes the code point at the front has; 0: there is none. -/
def uone (b : List Nat) : Nat := match b with
  | [] => 0
  | c :: r => if c < 128 then 1
    else if un c = 0 ∨ b.length < un c ∨ r.getD 0 0 < ulo c ∨ uhi c < r.getD 0 0 then 0
    else if ((b.take (un c)).drop 2).all (fun x => decide (128 ≤ x) && decide (x ≤ 191)) then un c else 0
theorem un_le (c : Nat) : un c ≤ 4 := by
  unfold un
  split
  · omega
  · split
    · omega
    · split <;> omega
theorem un_ge (c : Nat) : un c = 0 ∨ 2 ≤ un c := by
  unfold un
  split
  · omega
  · split
    · omega
    · split <;> omega
theorem drop_take2 (B : List Nat) : (B.take 2).drop 2 = [] := List.drop_of_length_le (by rw [List.length_take]; omega)
theorem take_drop2 {B : List Nat} {i : Nat} (h2 : 2 ≤ i) (hi : i < B.length) : (B.take (i + 1)).drop 2 = (B.take i).drop 2 ++ [B.getD i 0] := by
  rw [take_at B i hi, List.drop_append_of_le_length (by rw [List.length_take]; omega)]
theorem mem_take_drop2 {B : List Nat} {i n : Nat} (h2 : 2 ≤ i) (hn : i < n) (hi : i < B.length) : B.getD i 0 ∈ (B.take n).drop 2 := by
  rw [List.mem_iff_getElem?]
  refine ⟨i - 2, ?_⟩
  rw [List.getElem?_drop, show 2 + (i - 2) = i by omega, List.getElem?_take_of_lt hn, List.getD_eq_getElem?_getD, List.getElem?_eq_getElem hi]
  rfl
set_option maxRecDepth 1000000 in
set_option maxHeartbeats 1000000 in
theorem one6_any (w : World) (s : ByteArray) (hs : s.size ≤ 9223372036854775807) : Calls Tryd.prog 89 #[.string s] w fun e w' => e = .returned (.int .i64 (uone (sl s) : Nat)) ∧ w' = w := by
  have HSL := hide (sl_len s)
  have HAT := hide (fun i h => sl_at s i h)
  go_enter Tryd.func89, Tryd.ntmps89
  cases hsl : sl s with
  | nil =>
    as_aux_lemma =>
    have hz : s.size = 0 := by rw [← HSL.out, hsl]; rfl
    have g0 : ((s.size : Int) == 0) = true := beq_iff_eq.2 (by omega)
    clear hz hsl
    go_wp2_with fail
    go_ret
    exact ⟨rfl, rfl⟩
  | cons c r =>
    have hz : s.size = r.length + 1 := by rw [← HSL.out, hsl]; rfl
    have g0 : ((s.size : Int) == 0) = false := beq_eq_false_iff_ne.2 (by omega)
    have gp : (0 : Int) < (s.size : Int) := by omega
    have h0 : 0 < s.size := by omega
    have HC : Hid (s[0].toNat = c) := by
      have h := HAT.out 0 h0
      rw [hsl] at h
      exact h.symm
    have HU : Hid (uone (c :: r) = if c < 128 then 1 else if un c = 0 ∨ s.size < un c ∨ r.getD 0 0 < ulo c ∨ uhi c < r.getD 0 0 then 0 else if (((c :: r).take (un c)).drop 2).all (fun x => decide (128 ≤ x) && decide (x ≤ 191)) then un c else 0) := by
      show _ = _
      unfold uone
      rw [hz]
      rfl
    have HSX := hide hsl
    have hc6 : s[0].toNat < 256 := (s[0]).toNat_lt
    have HZ := hide hz
    clear hz
    by_cases h128 : c < 128
    · as_aux_lemma =>
      rw [if_pos h128] at HU
      have g1 : (s[0].toNat : Int) < 128 := by have := HC.out; omega
      clear h128 hsl
      go_wp2_with fail
      go_ret
      exact ⟨by rw [HU.out]; rfl, rfl⟩
    · rw [if_neg h128] at HU
      have g1 : ¬ (s[0].toNat : Int) < 128 := by have := HC.out; omega
      have HC8 : Hid (¬ c < 128) := h128
      clear h128 hsl
      go_upto_block 0 with fail
      go_cut [4] (fun nn wx => nn = .int .i64 (un c : Nat) ∧ wx = w)
      case first => as_aux_lemma =>
        by_cases a1 : 194 ≤ s[0].toNat
        · have k1 : (194 : Int) ≤ (s[0].toNat : Int) := by omega
          by_cases a2 : s[0].toNat ≤ 223
          · have k2 : (s[0].toNat : Int) ≤ 223 := by omega
            have HN : Hid (un c = 2) := by show _ = _; rw [← HC.out]; exact if_pos ⟨a1, a2⟩
            go_wp2_with fail
            go_meet
            case rel => exact ⟨by rw [HN.out]; rfl, rfl⟩
          · have k2 : ¬ (s[0].toNat : Int) ≤ 223 := by omega
            have k3 : (224 : Int) ≤ (s[0].toNat : Int) := by omega
            by_cases a3 : s[0].toNat ≤ 239
            · have k4 : (s[0].toNat : Int) ≤ 239 := by omega
              have HN : Hid (un c = 3) := by show _ = _; rw [← HC.out]; unfold un; rw [if_neg (by omega), if_pos (by omega)]
              go_wp2_with fail
              go_meet
              case rel => exact ⟨by rw [HN.out]; rfl, rfl⟩
            · have k4 : ¬ (s[0].toNat : Int) ≤ 239 := by omega
              have k5 : (240 : Int) ≤ (s[0].toNat : Int) := by omega
              by_cases a4 : s[0].toNat ≤ 244
              · have k6 : (s[0].toNat : Int) ≤ 244 := by omega
                have HN : Hid (un c = 4) := by show _ = _; rw [← HC.out]; unfold un; rw [if_neg (by omega), if_neg (by omega), if_pos (by omega)]
                go_wp2_with fail
                go_meet
                case rel => exact ⟨by rw [HN.out]; rfl, rfl⟩
              · have k6 : ¬ (s[0].toNat : Int) ≤ 244 := by omega
                have HN : Hid (un c = 0) := by show _ = _; rw [← HC.out]; unfold un; rw [if_neg (by omega), if_neg (by omega), if_neg (by omega)]
                go_wp2_with fail
                go_meet
                case rel => exact ⟨by rw [HN.out]; rfl, rfl⟩
        · have k1 : ¬ (194 : Int) ≤ (s[0].toNat : Int) := by omega
          have k2 : ¬ (224 : Int) ≤ (s[0].toNat : Int) := by omega
          have k3 : ¬ (240 : Int) ≤ (s[0].toNat : Int) := by omega
          have HN : Hid (un c = 0) := by show _ = _; rw [← HC.out]; unfold un; rw [if_neg (by omega), if_neg (by omega), if_neg (by omega)]
          go_wp2_with fail
          go_meet
          case rel => exact ⟨by rw [HN.out]; rfl, rfl⟩
      case rest => as_aux_lemma =>
        obtain ⟨hnn, hww⟩ := hcut
        have hww := hww.symm
        subst hww
        have hu4 := un_le c
        generalize hun : un c = n at *
        have HUN := hide hun
        clear hun
        subst hnn
        go_upto_if 37 with fail
        go_cut [5] (fun ll wx => ∃ zz : Nat, ll = .int .u8 (zz : Nat) ∧ zz < 256 ∧ Hid (zz = if c = 224 then 160 else 128) ∧ wx = w)
        case first => as_aux_lemma =>
          by_cases a1 : s[0].toNat = 224
          · have k1 : ((s[0].toNat : Int) == 224) = true := beq_iff_eq.2 (by omega)
            have HN : Hid (160 = if c = 224 then 160 else 128) := by show _ = _; rw [← HC.out, if_pos a1]
            clear a1
            go_wp2_with fail
            go_meet
            case rel => exact ⟨160, rfl, by omega, HN, rfl⟩
          · have k1 : ((s[0].toNat : Int) == 224) = false := beq_eq_false_iff_ne.2 (by omega)
            have HN : Hid (128 = if c = 224 then 160 else 128) := by show _ = _; rw [← HC.out, if_neg a1]
            clear a1
            go_wp2_with fail
            go_meet
            case rel => exact ⟨128, rfl, by omega, HN, rfl⟩
        case rest => as_aux_lemma =>
          obtain ⟨l1, rfl, hl1, Hl1, hww⟩ := hcut
          have hww := hww.symm
          subst hww
          go_upto_if 39 with fail
          go_cut [6] (fun ll wx => ∃ zz : Nat, ll = .int .u8 (zz : Nat) ∧ zz < 256 ∧ Hid (zz = if c = 237 then 159 else 191) ∧ wx = w)
          case first => as_aux_lemma =>
            by_cases a1 : s[0].toNat = 237
            · have k1 : ((s[0].toNat : Int) == 237) = true := beq_iff_eq.2 (by omega)
              have HN : Hid (159 = if c = 237 then 159 else 191) := by show _ = _; rw [← HC.out, if_pos a1]
              clear a1
              go_wp2_with fail
              go_meet
              case rel => exact ⟨159, rfl, by omega, HN, rfl⟩
            · have k1 : ((s[0].toNat : Int) == 237) = false := beq_eq_false_iff_ne.2 (by omega)
              have HN : Hid (191 = if c = 237 then 159 else 191) := by show _ = _; rw [← HC.out, if_neg a1]
              clear a1
              go_wp2_with fail
              go_meet
              case rel => exact ⟨191, rfl, by omega, HN, rfl⟩
          case rest => as_aux_lemma =>
            obtain ⟨h1, rfl, hh1, Hh1, hww⟩ := hcut
            have hww := hww.symm
            subst hww
            go_upto_if 41 with fail
            go_cut [5] (fun ll wx => ∃ zz : Nat, ll = .int .u8 (zz : Nat) ∧ zz < 256 ∧ Hid (zz = if c = 240 then 144 else l1) ∧ wx = w)
            case first => as_aux_lemma =>
              by_cases a1 : s[0].toNat = 240
              · have k1 : ((s[0].toNat : Int) == 240) = true := beq_iff_eq.2 (by omega)
                have HN : Hid (144 = if c = 240 then 144 else l1) := by show _ = _; rw [← HC.out, if_pos a1]
                clear a1
                go_wp2_with fail
                go_meet
                case rel => exact ⟨144, rfl, by omega, HN, rfl⟩
              · have k1 : ((s[0].toNat : Int) == 240) = false := beq_eq_false_iff_ne.2 (by omega)
                have HN : Hid (l1 = if c = 240 then 144 else l1) := by show _ = _; rw [← HC.out, if_neg a1]
                clear a1
                go_wp2_with fail
                go_meet
                case rel => exact ⟨l1, rfl, by omega, HN, rfl⟩
            case rest => as_aux_lemma =>
              obtain ⟨l2, rfl, hl2, Hl2, hww⟩ := hcut
              have hww := hww.symm
              subst hww
              go_upto_if 43 with fail
              go_cut [6] (fun ll wx => ∃ zz : Nat, ll = .int .u8 (zz : Nat) ∧ zz < 256 ∧ Hid (zz = if c = 244 then 143 else h1) ∧ wx = w)
              case first => as_aux_lemma =>
                by_cases a1 : s[0].toNat = 244
                · have k1 : ((s[0].toNat : Int) == 244) = true := beq_iff_eq.2 (by omega)
                  have HN : Hid (143 = if c = 244 then 143 else h1) := by show _ = _; rw [← HC.out, if_pos a1]
                  clear a1
                  go_wp2_with fail
                  go_meet
                  case rel => exact ⟨143, rfl, by omega, HN, rfl⟩
                · have k1 : ((s[0].toNat : Int) == 244) = false := beq_eq_false_iff_ne.2 (by omega)
                  have HN : Hid (h1 = if c = 244 then 143 else h1) := by show _ = _; rw [← HC.out, if_neg a1]
                  clear a1
                  go_wp2_with fail
                  go_meet
                  case rel => exact ⟨h1, rfl, by omega, HN, rfl⟩
              case rest => as_aux_lemma =>
                obtain ⟨h2, rfl, hh2, Hh2, hww⟩ := hcut
                have hww := hww.symm
                subst hww
                have HLO : Hid (ulo c = l2) := by show _ = _; unfold ulo; rw [Hl2.out, Hl1.out]
                have HHI : Hid (uhi c = h2) := by show _ = _; unfold uhi; rw [Hh2.out, Hh1.out]
                rw [HLO.out, HHI.out] at HU
                clear Hl1 Hl2 Hh1 Hh2 HLO HHI hl1 hh1
                by_cases b1 : n = 0
                · as_aux_lemma =>
                  rw [if_pos (.inl b1)] at HU
                  have k1 : ((n : Int) == 0) = true := beq_iff_eq.2 (by omega)
                  clear b1
                  go_wp2_with fail
                  go_ret
                  exact ⟨by rw [HU.out]; rfl, rfl⟩
                · have k1 : ((n : Int) == 0) = false := beq_eq_false_iff_ne.2 (by omega)
                  by_cases b2 : s.size < n
                  · as_aux_lemma =>
                    rw [if_pos (.inr (.inl b2))] at HU
                    have k2 : (s.size : Int) < (n : Int) := by omega
                    go_wp2_with fail
                    go_ret
                    exact ⟨by rw [HU.out]; rfl, rfl⟩
                  · have k2 : ¬ (s.size : Int) < (n : Int) := by omega
                    have hn2 : 2 ≤ n := by
                      rcases un_ge c with e | e
                      · rw [HUN.out] at e
                        exact absurd e b1
                      · rw [HUN.out] at e
                        exact e
                    have h1s : 1 < s.size := by omega
                    have gp1 : (1 : Int) < (s.size : Int) := by omega
                    have HS1 : Hid (r.getD 0 0 = s[1].toNat) := by
                      have h := HAT.out 1 h1s
                      rw [HSX.out] at h
                      exact h
                    rw [HS1.out] at HU
                    have hs6 : s[1].toNat < 256 := (s[1]).toNat_lt
                    by_cases b3 : s[1].toNat < l2
                    · as_aux_lemma =>
                      rw [if_pos (.inr (.inr (.inl b3)))] at HU
                      have k3 : (s[1].toNat : Int) < (l2 : Int) := by omega
                      go_wp2_with fail
                      go_ret
                      exact ⟨by rw [HU.out]; rfl, rfl⟩
                    · have k3 : ¬ (s[1].toNat : Int) < (l2 : Int) := by omega
                      by_cases b4 : h2 < s[1].toNat
                      · as_aux_lemma =>
                        rw [if_pos (.inr (.inr (.inr b4)))] at HU
                        have k4 : (h2 : Int) < (s[1].toNat : Int) := by omega
                        go_wp2_with fail
                        go_ret
                        exact ⟨by rw [HU.out]; rfl, rfl⟩
                      · have k4 : ¬ (h2 : Int) < (s[1].toNat : Int) := by omega
                        rw [if_neg (by omega)] at HU
                        have HCL : Hid ((c :: r).length = s.size) := by show _ = _; rw [← HSX.out, HSL.out]
                        have HGT : Hid (∀ i (h : i < s.size), (c :: r).getD i 0 = s[i].toNat) := fun i h => by have e := HAT.out i h; rw [HSX.out] at e; exact e
                        clear b1 HUN HS1 HAT HSX HSL HZ
                        generalize hcr : c :: r = B at HU HCL HGT
                        have HCR : Hid (c :: r = B) := hcr
                        clear hcr
                        go_wp2_with fail
                        go_loopw [7] (fun ii wx => ∃ i : Nat, 2 ≤ i ∧ i ≤ n ∧ ii = .int .i64 (i : Nat) ∧ Hid (((B.take i).drop 2).all (fun x => decide (128 ≤ x) && decide (x ≤ 191)) = true) ∧ wx = w) (fun ii _ => n - (intOf ii).toNat)
                        case atStart => exact ⟨2, by omega, by omega, rfl, by show _ = _; rw [drop_take2]; rfl, rfl⟩
                        case round => as_aux_lemma =>
                          obtain ⟨i, hi2, hin, rfl, HALL, hww⟩ := hrel
                          have hww := hww.symm
                          subst hww
                          by_cases hlt : i < n
                          · have m1 : (i : Int) < (n : Int) := by omega
                            have his : i < s.size := by omega
                            have m2 : (i : Int) < (s.size : Int) := by omega
                            have HGi := hide (HGT.out i his)
                            have HTS := hide (take_drop2 (B := B) (i := i) hi2 (by rw [HCL.out]; exact his))
                            rw [HGi.out] at HTS
                            have HMEM : Hid (s[i].toNat ∈ (B.take n).drop 2) := by
                              have e := mem_take_drop2 (B := B) (i := i) (n := n) hi2 hlt (by rw [HCL.out]; exact his)
                              rw [HGi.out] at e
                              exact e
                            by_cases c1 : s[i].toNat < 128
                            · as_aux_lemma =>
                              have q1 : (s[i].toNat : Int) < 128 := by omega
                              rw [if_neg (fun h => by have e := List.all_eq_true.1 h _ HMEM.out; simp at e; omega)] at HU
                              go_wp2_with fail
                              go_ret
                              exact ⟨by rw [HCR.out, HU.out]; rfl, rfl⟩
                            · have q1 : ¬ (s[i].toNat : Int) < 128 := by omega
                              by_cases c2 : 191 < s[i].toNat
                              · as_aux_lemma =>
                                have q2 : (191 : Int) < (s[i].toNat : Int) := by omega
                                rw [if_neg (fun h => by have e := List.all_eq_true.1 h _ HMEM.out; simp at e; omega)] at HU
                                go_wp2_with fail
                                go_ret
                                exact ⟨by rw [HCR.out, HU.out]; rfl, rfl⟩
                              · as_aux_lemma =>
                                have q2 : ¬ (191 : Int) < (s[i].toNat : Int) := by omega
                                have HA2 : Hid (((B.take (i + 1)).drop 2).all (fun x => decide (128 ≤ x) && decide (x ≤ 191)) = true) := by
                                  show _ = _
                                  rw [HTS.out, List.all_append, HALL.out]
                                  simp
                                  omega
                                go_wp2_with fail
                                go_roundw
                                case rel => exact ⟨i + 1, by omega, by omega, by go_num, HA2, trivial⟩
                                case measure => simp [intOf]; omega
                          · as_aux_lemma =>
                            have m1 : ¬ (i : Int) < (n : Int) := by omega
                            have hien : i = n := by omega
                            rw [hien] at HALL
                            rw [if_pos HALL.out] at HU
                            clear hien
                            go_wp2_with fail
                            go_ret
                            exact ⟨by rw [HCR.out, HU.out]; rfl, rfl⟩
end
section
open Go.RowKit Go
theorem uone_le (b : List Nat) : uone b ≤ b.length := by
  unfold uone
  split
  · omega
  · rename_i c r
    split
    · simp
    · split
      · omega
      · split
        · omega
        · omega
/-- Code points from end to end. -/
def ugood (b : List Nat) : Bool := if b = [] then true else if _h : uone b = 0 then false else ugood (b.drop (uone b))
termination_by b.length
decreasing_by
  have := uone_le b
  rw [List.length_drop]
  omega
theorem ugood_nil : ugood [] = true := by rw [ugood, if_pos rfl]
theorem ugood_bad {b : List Nat} (h : b ≠ []) (h0 : uone b = 0) : ugood b = false := by rw [ugood, if_neg h, dif_pos h0]
theorem ugood_step {b : List Nat} (h : b ≠ []) (h0 : uone b ≠ 0) : ugood b = ugood (b.drop (uone b)) := by rw [ugood, if_neg h, dif_neg h0]
set_option maxRecDepth 1000000 in
set_option maxHeartbeats 1000000 in
theorem good6_any (w : World) (s : ByteArray) (hs : s.size ≤ 9223372036854775807) : Calls Tryd.prog 73 #[.string s] w fun e w' => e = .returned (.bool (ugood (sl s))) ∧ w' = w := by
  have HSL := hide (sl_len s)
  generalize hG : ugood (sl s) = G
  have HG := hide hG
  clear hG
  go_enter Tryd.func73, Tryd.ntmps73
  go_wp2_with fail
  go_loopw [3] (fun ii wx => ∃ i : Nat, i ≤ s.size ∧ ii = .int .i64 (i : Nat) ∧ Hid (ugood ((sl s).drop i) = G) ∧ wx = w) (fun ii _ => s.size - (intOf ii).toNat)
  case atStart => exact ⟨0, by omega, rfl, by show _ = _; rw [List.drop_zero]; exact HG.out, rfl⟩
  case round => as_aux_lemma =>
    obtain ⟨i, hi, rfl, HD, hww⟩ := hrel
    have hww := hww.symm
    subst hww
    clear HG
    by_cases hlt : i < s.size
    · have m1 : (i : Int) < (s.size : Int) := by omega
      have m2 : (i : Int) ≤ (s.size : Int) := by omega
      have HNE : Hid ((sl s).drop i ≠ []) := fun h => by
        have e := congrArg List.length h
        rw [List.length_drop, HSL.out] at e
        simp at e
        omega
      have HX : Hid (sl (s.extract i s.size) = (sl s).drop i) := by
        show _ = _
        rw [sl_extract, ← HSL.out, List.take_length]
      have HLE : Hid (uone ((sl s).drop i) ≤ s.size - i) := by
        have h := uone_le ((sl s).drop i)
        rw [List.length_drop, HSL.out] at h
        exact h
      have HC : Hid (∀ wx, Calls Tryd.prog 89 #[.string (s.extract i s.size)] wx fun e w' => e = .returned (.int .i64 (uone ((sl s).drop i) : Nat)) ∧ w' = wx) := fun wx => by
        have h := one6_any wx (s.extract i s.size) (by rw [← sl_len, HX.out, List.length_drop, HSL.out]; omega)
        rw [HX.out] at h
        exact h
      have HB0 : Hid (uone ((sl s).drop i) = 0 → false = G) := fun h => (ugood_bad HNE.out h).symm.trans HD.out
      have HB1 : Hid (uone ((sl s).drop i) ≠ 0 → ugood ((sl s).drop (i + uone ((sl s).drop i))) = G) := fun h => by
        rw [← HD.out, ugood_step HNE.out h, List.drop_drop]
      clear HX HNE HD
      generalize uone ((sl s).drop i) = n at *
      have hle := HLE.out
      clear HLE
      go_wp2_with fail
      refine (HC.out w).mono ?_
      rintro e w3 ⟨rfl, hw3⟩
      have hw3 := hw3.symm
      subst hw3
      clear HC
      by_cases hn : n = 0
      · as_aux_lemma =>
        have k1 : ((n : Int) == 0) = true := beq_iff_eq.2 (by omega)
        have HGG := hide (HB0.out hn)
        clear hn
        go_wp2_with fail
        go_ret
        exact ⟨by rw [← HGG.out]; rfl, rfl⟩
      · as_aux_lemma =>
        have k1 : ((n : Int) == 0) = false := beq_eq_false_iff_ne.2 (by omega)
        have HGG := hide (HB1.out hn)
        go_wp2_with fail
        go_roundw
        case rel => exact ⟨i + n, by omega, by go_num, HGG, trivial⟩
        case measure => simp [intOf]; omega
    · as_aux_lemma =>
      have m1 : ¬ (i : Int) < (s.size : Int) := by omega
      have HGG : Hid (true = G) := by
        show _ = _
        rw [← HD.out, List.drop_of_length_le (by rw [HSL.out]; omega), ugood_nil]
      go_wp2_with fail
      go_ret
      exact ⟨by rw [← HGG.out]; rfl, rfl⟩
end
section
open Go.RowKit Go
theorem first_un : ∀ c : Fin 256, 128 ≤ c.val → (un c.val = 0 → Lib.firstT c.val % 8 ≠ 2 ∧ Lib.firstT c.val % 8 ≠ 3 ∧ Lib.firstT c.val % 8 ≠ 4) ∧ (un c.val ≠ 0 → Lib.firstT c.val % 8 = un c.val ∧ Lib.accLo (Lib.firstT c.val / 16) = ulo c.val ∧ Lib.accHi (Lib.firstT c.val / 16) = uhi c.val) := by decide +kernel
theorem un_is (c : Nat) : un c = 0 ∨ un c = 2 ∨ un c = 3 ∨ un c = 4 := by
  unfold un
  split
  · omega
  · split
    · omega
    · split <;> omega
theorem uone_lead (c : Nat) (r : List Nat) (h : 128 ≤ c) : uone (c :: r) = if un c = 0 ∨ (c :: r).length < un c ∨ r.getD 0 0 < ulo c ∨ uhi c < r.getD 0 0 then 0 else if (((c :: r).take (un c)).drop 2).all (fun x => decide (128 ≤ x) && decide (x ≤ 191)) then un c else 0 := by
  show (if c < 128 then 1 else _) = _
  rw [if_neg (by omega)]
theorem uone_chk (x : UInt8) (r : List UInt8) (h : 128 ≤ x.toNat) : Lib.checkN (x :: r).length ((x :: r).getD 1 0).toNat ((x :: r).getD 2 0).toNat ((x :: r).getD 3 0).toNat (Lib.firstT x.toNat % 8) (Lib.accLo (Lib.firstT x.toNat / 16)) (Lib.accHi (Lib.firstT x.toNat / 16)) = if uone ((x :: r).map UInt8.toNat) = 0 then none else some (uone ((x :: r).map UInt8.toNat)) := by
  obtain ⟨h0, h1⟩ := first_un ⟨x.toNat, x.toNat_lt⟩ h
  simp only at h0 h1
  rw [List.map_cons, uone_lead _ _ h]
  by_cases hu : un x.toNat = 0
  · have e := h0 hu
    rw [if_pos (Or.inl hu : un x.toNat = 0 ∨ _), if_pos (rfl : (0 : Nat) = 0)]
    unfold Lib.checkN
    rw [if_neg e.1, if_neg e.2.1, if_neg e.2.2]
  · obtain ⟨e1, e2, e3⟩ := h1 hu
    rw [e1, e2, e3]
    clear e1 e2 e3 h0 h1
    unfold Lib.checkN
    generalize ulo x.toNat = lo
    generalize uhi x.toNat = hi
    rcases un_is x.toNat with e | e | e | e
    · exact absurd e hu
    · rw [e]
      clear e hu
      rcases r with _ | ⟨a, _ | ⟨b, _ | ⟨d, r⟩⟩⟩ <;> simp <;> (try split) <;> simp_all <;> omega
    · rw [e]
      clear e hu
      rcases r with _ | ⟨a, _ | ⟨b, _ | ⟨d, r⟩⟩⟩ <;> simp <;> (try split) <;> simp_all <;> omega
    · rw [e]
      clear e hu
      rcases r with _ | ⟨a, _ | ⟨b, _ | ⟨d, r⟩⟩⟩ <;> simp <;> (try split) <;> simp_all <;> omega
theorem uone_ascii (c : Nat) (r : List Nat) (h : c < 128) : uone (c :: r) = 1 := if_pos h
theorem valid_ugood (n : Nat) : ∀ l : List UInt8, l.length ≤ n → Lib.validD l = ugood (l.map UInt8.toNat) := by
  induction n with
  | zero => intro l hl; rw [List.eq_nil_of_length_eq_zero (Nat.le_zero.1 hl)]; exact ugood_nil.symm
  | succ n ih =>
    intro l hl
    rcases l with _ | ⟨x, r⟩
    · exact ugood_nil.symm
    · by_cases h : x.toNat < 128
      · rw [Lib.validD_cons x r h, List.map_cons, ugood_step (by simp) (by rw [uone_ascii _ _ h]; decide), uone_ascii _ _ h, ih r (by simp at hl; omega)]
        rfl
      · have hk := uone_chk x r (by omega)
        rw [Lib.validD_lead (x :: r) (by simp) (by show 128 ≤ x.toNat; omega)]
        show (match Lib.checkN (x :: r).length ((x :: r).getD 1 0).toNat ((x :: r).getD 2 0).toNat ((x :: r).getD 3 0).toNat (Lib.firstT x.toNat % 8) (Lib.accLo (Lib.firstT x.toNat / 16)) (Lib.accHi (Lib.firstT x.toNat / 16)) with | none => false | some k => Lib.validD ((x :: r).drop k)) = _
        rw [hk]
        by_cases h0 : uone ((x :: r).map UInt8.toNat) = 0
        · rw [if_pos h0, ugood_bad (by simp) h0]
        · rw [if_neg h0, ugood_step (by simp) h0]
          show Lib.validD ((x :: r).drop (uone ((x :: r).map UInt8.toNat))) = _
          have hle := uone_le ((x :: r).map UInt8.toNat)
          rw [List.length_map] at hle
          rw [ih _ (by rw [List.length_drop]; simp only [List.length_cons] at hl ⊢; omega), List.map_drop]
theorem bad_good (s : ByteArray) : badb s = !ugood (sl s) := by
  unfold badb sl
  rw [valid_ugood _ _ (Nat.le_refl _)]
end
section
open Go.RowKit Go
/-- The format of 64 bits. -/
def fmtc : Array Value := #[.int .i64 11, .int .i64 52]
set_option maxRecDepth 1000000 in
theorem infoF : (Tryd.prog.info? 96).map (·.size) = some fmtc.size := by kernel_rfl
theorem qstep_fmt {C : World → Prop} {ops : Array Oper} {o : Oper} {a : Act} {K : Act → Prop} {p : Operand} (hgd : Region.wanted o (yielded ops a.tmps) = true) (ho : o.op = .load 96 p) (g : Nat)
    (hp : a.eval p = .pointer (some ⟨g, 0, none⟩)) (hc : ∀ w, C w → w.heap[g]? = some (.cells fmtc 96 (0, 0)))
    (h : K (a.put o.dst (.agg fmtc))) : if Region.wanted o (yielded ops a.tmps) = true then o.quiet Tryd.prog a C K else K (a.put o.dst undef) := by
  rw [if_pos hgd]
  refine ⟨.agg fmtc, fun w hC => ?_, h⟩
  unfold Oper.quietAt execOp
  have hr : (Instr.loadAt 96 (.pointer (some ⟨g, 0, none⟩))).run Tryd.prog w = .ok (.agg fmtc) w := by
    simp only [Instr.loadAt, Instr.sureAddr, Sem.run_bind, Sem.run_pure, Result.andThen]
    exact run_loadVar_row (P := Tryd.prog) w g 96 96 fmtc (0, 0) _ (hc w hC) Tryd.underlying96 rfl infoF
  simp only [ho, Sem.run_bind, hp, hr, Result.andThen_ok]
  exact ⟨rfl, rfl⟩
set_option maxRecDepth 1000000 in
theorem f64_any (w : World) : Calls Tryd.prog 87 #[] w fun e w' => e = .returned (.agg fmtc) ∧ Below w.heap.size w w' := by
  go_enter Tryd.func87, Tryd.ntmps87
  go_wp2_with fail
  refine bodyPost_ret (v := .agg fmtc) ((results_one (p := 0) (ty := 96) rfl _ _ _).trans ?_) rfl ⟨rfl, ?_⟩
  · have h1 := run_loadVar_row (P := Tryd.prog) (w.alloc (.cells fmtc 96)) w.heap.size 96 96 fmtc (0, 0) _ (heap_alloc_new w _) Tryd.underlying96 rfl infoF
    show ((Sem.run Tryd.prog (asAddr (Value.pointer (some ⟨w.heap.size, 0, none⟩))) (w.alloc (.cells fmtc 96))).andThen fun a w₁ => Sem.run Tryd.prog (loadVar 96 a) w₁) = _
    simp [asAddr, h1, Result.andThen]
    rfl
  · exact below_alloc4 w _
set_option maxRecDepth 1000000 in
theorem fall_any (w : World) : Calls Tryd.prog 109 #[.agg fmtc] w fun e w' => e = .returned (.int .i64 2047) ∧ Below w.heap.size w w' := by
  have q0 : (w.alloc (.cells fmtc 96)).cell? ⟨w.heap.size, 0, none⟩ = some (.int .i64 11) := blk_cell (heap_alloc_new w _) rfl
  have q1 : (w.alloc (.cells fmtc 96)).cell? ⟨w.heap.size, 1, none⟩ = some (.int .i64 52) := blk_cell (heap_alloc_new w _) rfl
  go_enter Tryd.func109, Tryd.ntmps109
  go_wp2_with fail
  go_ret
  exact ⟨rfl, below_alloc4 w _⟩
set_option maxRecDepth 1000000 in
theorem fsign_any (w : World) : Calls Tryd.prog 108 #[.agg fmtc] w fun e w' => e = .returned (.int .u64 9223372036854775808) ∧ Below w.heap.size w w' := by
  have q0 : (w.alloc (.cells fmtc 96)).cell? ⟨w.heap.size, 0, none⟩ = some (.int .i64 11) := blk_cell (heap_alloc_new w _) rfl
  have q1 : (w.alloc (.cells fmtc 96)).cell? ⟨w.heap.size, 1, none⟩ = some (.int .i64 52) := blk_cell (heap_alloc_new w _) rfl
  go_enter Tryd.func108, Tryd.ntmps108
  go_wp2_with fail
  go_ret
  exact ⟨rfl, below_alloc4 w _⟩
set_option maxRecDepth 1000000 in
theorem fbias_any (w : World) : Calls Tryd.prog 110 #[.agg fmtc] w fun e w' => e = .returned (.int .i64 1023) ∧ Below w.heap.size w w' := by
  have HBK := hide (heap_alloc_new w (.cells fmtc 96))
  have HB0 := hide (below_alloc4 w (.cells fmtc 96))
  go_enter Tryd.func110, Tryd.ntmps110
  go_wp2_with (refine wpList_loadAll rfl rfl w.heap.size fmtc 96 rfl HBK.out Tryd.underlying96 infoF ?_)
  refine (fall_any _).mono ?_
  rintro e w1 ⟨rfl, hb1⟩
  have HB1 := hide (HB0.out.trans (hb1.mono HB0.out.size))
  clear hb1
  go_wp2_with fail
  go_ret
  exact ⟨rfl, HB1.out⟩
theorem and_2047 (n : Nat) (hn : n < 18446744073709551616) : bits .and .u64 (n : Int) 2047 = ((n % 2048 : Nat) : Int) := by
  have e1 : (BitVec.ofInt 64 (n : Int)).toNat = n := by
    simp
    omega
  have e2 : (BitVec.ofInt 64 2047).toNat = 2047 := by decide
  show IntKind.u64.wrap ((BitVec.ofInt 64 (n : Int) &&& BitVec.ofInt 64 2047).toNat : Nat) = _
  rw [BitVec.toNat_and, e1, e2, IntKind.wrap_u64]
  have e3 := Nat.and_two_pow_sub_one_eq_mod n 11
  rw [show (2 ^ 11 - 1 : Nat) = 2047 from rfl, show (2 ^ 11 : Nat) = 2048 from rfl] at e3
  rw [e3]
  omega
theorem exp_is (b : Nat) (hb : b < 18446744073709551616) : wrap64 (bits .and .u64 ((b : Int) / 2 ^ min 52 64) 2047) = ((b / 4503599627370496 % 2048 : Nat) : Int) := by
  have e : ((b : Int) / 2 ^ min 52 64) = ((b / 4503599627370496 : Nat) : Int) := by
    rw [show min 52 64 = 52 from rfl, show (2 : Int) ^ 52 = 4503599627370496 by decide]
    omega
  rw [e, and_2047 _ (by omega)]
  unfold wrap64
  omega
theorem finb_exp (b : Nat) : finb b = !(((b / 4503599627370496 % 2048 : Nat) : Int) == 2047) := by
  unfold finb
  rw [Bool.eq_iff_iff]
  simp
  omega
set_option maxRecDepth 1000000 in
set_option maxHeartbeats 1000000 in
theorem fparts_any (b : Nat) (hb : b < 18446744073709551616) (w : World) : Calls Tryd.prog 88 #[.agg fmtc, .int .u64 (b : Nat)] w fun e w' => (∃ (c : Int) (n m x : Value), e = .returned (.tuple #[.int .i64 c, n, m, x]) ∧ (c == 0) = finb b) ∧ Below w.heap.size w w' := by
  have HBK := hide (heap_alloc_new w (.cells fmtc 96))
  have HB0 := hide (below_alloc4 w (.cells fmtc 96))
  go_enter Tryd.func88, Tryd.ntmps88
  go_wp2_with (refine wpList_loadAll rfl rfl w.heap.size fmtc 96 rfl HBK.out Tryd.underlying96 infoF ?_)
  refine (fsign_any _).mono ?_
  rintro e w1 ⟨rfl, hb1⟩
  have HB1 := hide (HB0.out.trans (hb1.mono HB0.out.size))
  have HC1 : Hid (w1.heap[w.heap.size]? = some (.cells fmtc 96 (0, 0))) := (hb1.block _ (blk_lt HBK.out)).trans HBK.out
  have q1 : w1.cell? ⟨w.heap.size, 1, none⟩ = some (.int .i64 52) := blk_cell HC1.out rfl
  clear hb1 HBK HB0
  go_wp2_with fail
  have HQ1 : Hid (∀ wx : World, (∃ t : Ext w1, wx = t.w') → wx.heap[w.heap.size]? = some (.cells fmtc 96 (0, 0))) := fun wx ⟨t, e⟩ => by rw [e]; exact (t.h.block _ (blk_lt HC1.out)).trans HC1.out
  have c1 : ∀ t : Ext w1, t.w'.cell? ⟨w.heap.size, 1, none⟩ = some (.int .i64 52) := fun t => blk_cell (HQ1.out _ ⟨t, rfl⟩) rfl
  refine region_ext (by kernel_rfl) (by kernel_rfl) ?_
  repeat (
    refine wpQuiet_step (fun K hK => ?_)
    first
      | (refine qstep_fmt rfl rfl w.heap.size rfl HQ1.out (hK _ ?_); clear hK K)
      | (go_simp
         first
           | (refine hK _ ?_; clear hK K)
           | (apply Exists.intro
              refine ⟨fun _ => ?_, hK _ ?_⟩
              (go_at_call 109; exact Calls.ext_below (fall_any _))
              clear hK K)))
  refine wpQuiet_nil ?_
  rintro _ ⟨tq, rfl⟩
  have HB2 : Hid (Below w.heap.size w tq.w') := HB1.out.trans (tq.h.mono HB1.out.size)
  have HC2 : Hid (tq.w'.heap[w.heap.size]? = some (.cells fmtc 96 (0, 0))) := HQ1.out _ ⟨tq, rfl⟩
  clear HQ1 c1 HB1 HC1 q1
  generalize tq.w' = w2 at *
  clear tq w1
  go_wp2_with (refine wpList_loadAll rfl rfl w.heap.size fmtc 96 rfl HC2.out Tryd.underlying96 infoF ?_)
  refine (fall_any _).mono ?_
  rintro e w3 ⟨rfl, hb3⟩
  have HB3 : Hid (Below w.heap.size w w3) := HB2.out.trans (hb3.mono HB2.out.size)
  have HC3 : Hid (w3.heap[w.heap.size]? = some (.cells fmtc 96 (0, 0))) := (hb3.block _ (blk_lt HC2.out)).trans HC2.out
  have HFX := hide (finb_exp b)
  have hex := exp_is b hb
  rw [← hex] at HFX
  clear hb3 HB2 HC2 hex hb w2
  generalize wrap64 (bits .and .u64 ((b : Int) / 2 ^ min 52 64) 2047) = X at *
  generalize bits .and .u64 (b : Int) 4503599627370495 = F at *
  generalize bits .and .u64 (b : Int) 9223372036854775808 = N at *
  generalize ((b : Int) / 2 ^ min 52 64) = Y at *
  generalize bits .and .u64 Y 2047 = Z at *
  rcases Bool.eq_false_or_eq_true (X == 2047) with g35 | g35
  · have HF : Hid (finb b = false) := by show _ = _; rw [HFX.out, g35]; rfl
    clear HFX
    rcases Bool.eq_false_or_eq_true (F != 0) with g37 | g37
    · as_aux_lemma =>
      go_wp2_with fail
      refine bodyPost_ret (results_four rfl _ _ _) rfl ⟨⟨_, _, _, _, rfl, by rw [HF.out]; rfl⟩, HB3.out⟩
    · as_aux_lemma =>
      go_wp2_with fail
      refine bodyPost_ret (results_four rfl _ _ _) rfl ⟨⟨_, _, _, _, rfl, by rw [HF.out]; rfl⟩, HB3.out⟩
  · have HF : Hid (finb b = true) := by show _ = _; rw [HFX.out, g35]; rfl
    clear HFX
    have HQ3 : Hid (∀ wx : World, (∃ t : Ext w3, wx = t.w') → wx.heap[w.heap.size]? = some (.cells fmtc 96 (0, 0))) := fun wx ⟨t, e⟩ => by rw [e]; exact (t.h.block _ (blk_lt HC3.out)).trans HC3.out
    have c1 : ∀ t : Ext w3, t.w'.cell? ⟨w.heap.size, 1, none⟩ = some (.int .i64 52) := fun t => blk_cell (HQ3.out _ ⟨t, rfl⟩) rfl
    rcases Bool.eq_false_or_eq_true (X == 0) with g41 | g41
    · as_aux_lemma =>
      go_wp2_with fail
      refine region_ext (by kernel_rfl) (by kernel_rfl) ?_
      repeat (
        refine wpQuiet_step (fun K hK => ?_)
        first
          | (refine qstep_fmt rfl rfl w.heap.size rfl HQ3.out (hK _ ?_); clear hK K)
          | (go_simp
             first
               | (refine hK _ ?_; clear hK K)
               | (apply Exists.intro
                  refine ⟨fun _ => ?_, hK _ ?_⟩
                  (go_at_call 110; exact Calls.ext_below (fbias_any _))
                  clear hK K)))
      refine wpQuiet_nil ?_
      rintro _ ⟨tq, rfl⟩
      have HB4 : Hid (Below w.heap.size w tq.w') := HB3.out.trans (tq.h.mono HB3.out.size)
      go_wp2_with fail
      refine bodyPost_ret (results_four rfl _ _ _) rfl ⟨⟨_, _, _, _, rfl, by rw [HF.out]; rfl⟩, HB4.out⟩
    · as_aux_lemma =>
      go_wp2_with fail
      refine region_ext (by kernel_rfl) (by kernel_rfl) ?_
      repeat (
        refine wpQuiet_step (fun K hK => ?_)
        first
          | (refine qstep_fmt rfl rfl w.heap.size rfl HQ3.out (hK _ ?_); clear hK K)
          | (go_simp
             first
               | (refine hK _ ?_; clear hK K)
               | (apply Exists.intro
                  refine ⟨fun _ => ?_, hK _ ?_⟩
                  (go_at_call 110; exact Calls.ext_below (fbias_any _))
                  clear hK K)))
      refine wpQuiet_nil ?_
      rintro _ ⟨tq, rfl⟩
      have HB4 : Hid (Below w.heap.size w tq.w') := HB3.out.trans (tq.h.mono HB3.out.size)
      go_wp2_with fail
      refine bodyPost_ret (results_four rfl _ _ _) rfl ⟨⟨_, _, _, _, rfl, by rw [HF.out]; rfl⟩, HB4.out⟩
set_option maxRecDepth 1000000 in
theorem isFinite_any (b : Nat) (hb : b < 18446744073709551616) (w : World) : Calls Tryd.prog 72 #[.int .u64 (b : Nat)] w fun e w' => e = .returned (.bool (finb b)) ∧ Below w.heap.size w w' := by
  have HBB := hide hb
  clear hb
  go_enter Tryd.func72, Tryd.ntmps72
  go_wp2_with fail
  refine (f64_any _).mono ?_
  rintro e w1 ⟨rfl, hb1⟩
  have HB1 := hide hb1
  clear hb1
  go_wp2_with fail
  refine (fparts_any b HBB.out _).mono ?_
  rintro e w2 ⟨⟨c, n, m, x, rfl, hc⟩, hb2⟩
  have HC := hide hc
  have HB2 := hide (HB1.out.trans (hb2.mono HB1.out.size))
  clear hc hb2
  go_wp2_with fail
  go_ret
  exact ⟨by rw [← HC.out]; rfl, HB2.out⟩
end
section
open Go.RowKit Go
/-- The first line of spare: a field that is not the kind's own. -/
def sp1 (t : Tv) : Bool := (t.f && t.k != 2) || ((t.g || ((t.n : Int) != 0)) && t.k != 3) || (((t.b : Int) != 0) && t.k != 4)
def sp2 (t : Tv) : Bool := (!decide (t.s = ⟨#[]⟩) && t.k != 5) || (decide (0 < (t.y.length : Int)) && t.k != 6) || (!decide (t.l = ⟨0, 0, 0, []⟩) && t.k != 7)
def sp3 (t : Tv) : Bool := (((t.ks.length : Int) == 0) || t.k == 9) && ((((t.is.length : Int) == 0) || t.k == 8) || t.k == 9)
def sparef (t : Tv) : Bool := !sp1 t && (!sp2 t && sp3 t)
set_option maxRecDepth 1000000 in
set_option maxHeartbeats 2000000 in
theorem spare_any (t : Tv) (w : World) (cs : Array Value) (ht : Tin w t cs) : Calls Tryd.prog 71 #[.agg cs] w fun e w' => e = .returned (.bool (sparef t)) ∧ Below w.heap.size w w' := by
  obtain ⟨vy, vk, vi, rfl, hy, hk, hv, hb⟩ := ht.parts
  obtain ⟨⟨ay, cy, rfl, _, _⟩, _, _⟩ := hy
  obtain ⟨⟨ak, ck, rfl, _, _⟩, _, _⟩ := hk
  obtain ⟨⟨ai, ci, rfl, _, _⟩, _⟩ := hv
  have HLZ := hide hb.l.d
  clear ht hb
  have HQ0 := hide (box_mk0 w (vcs t (.slice ay t.y.length cy) (.slice ak t.ks.length ck) (.slice ai t.is.length ci)))
  have q0 : (w.alloc (.cells (vcs t (.slice ay t.y.length cy) (.slice ak t.ks.length ck) (.slice ai t.is.length ci)) 30)).cell? ⟨w.heap.size, 0, none⟩ = some (.int .i64 t.k) := blk_cell HQ0.out.2 rfl
  have q1 : (w.alloc (.cells (vcs t (.slice ay t.y.length cy) (.slice ak t.ks.length ck) (.slice ai t.is.length ci)) 30)).cell? ⟨w.heap.size, 1, none⟩ = some (.bool t.f) := blk_cell HQ0.out.2 rfl
  have q2 : (w.alloc (.cells (vcs t (.slice ay t.y.length cy) (.slice ak t.ks.length ck) (.slice ai t.is.length ci)) 30)).cell? ⟨w.heap.size, 2, none⟩ = some (.bool t.g) := blk_cell HQ0.out.2 rfl
  have q3 : (w.alloc (.cells (vcs t (.slice ay t.y.length cy) (.slice ak t.ks.length ck) (.slice ai t.is.length ci)) 30)).cell? ⟨w.heap.size, 3, none⟩ = some (.int .u64 (t.n : Nat)) := blk_cell HQ0.out.2 rfl
  have q4 : (w.alloc (.cells (vcs t (.slice ay t.y.length cy) (.slice ak t.ks.length ck) (.slice ai t.is.length ci)) 30)).cell? ⟨w.heap.size, 4, none⟩ = some (.int .u64 (t.b : Nat)) := blk_cell HQ0.out.2 rfl
  have q5 : (w.alloc (.cells (vcs t (.slice ay t.y.length cy) (.slice ak t.ks.length ck) (.slice ai t.is.length ci)) 30)).cell? ⟨w.heap.size, 5, none⟩ = some (.string t.s) := blk_cell HQ0.out.2 rfl
  have q6 : (w.alloc (.cells (vcs t (.slice ay t.y.length cy) (.slice ak t.ks.length ck) (.slice ai t.is.length ci)) 30)).cell? ⟨w.heap.size, 6, none⟩ = some (.slice ay t.y.length cy) := blk_cell HQ0.out.2 rfl
  have q11 : (w.alloc (.cells (vcs t (.slice ay t.y.length cy) (.slice ak t.ks.length ck) (.slice ai t.is.length ci)) 30)).cell? ⟨w.heap.size, 11, none⟩ = some (.slice ak t.ks.length ck) := blk_cell HQ0.out.2 rfl
  have q12 : (w.alloc (.cells (vcs t (.slice ay t.y.length cy) (.slice ak t.ks.length ck) (.slice ai t.is.length ci)) 30)).cell? ⟨w.heap.size, 12, none⟩ = some (.slice ai t.is.length ci) := blk_cell HQ0.out.2 rfl
  have HA : Hid (∀ j x, (lcs t.l)[j]? = some x → (w.alloc (.cells (vcs t (.slice ay t.y.length cy) (.slice ak t.ks.length ck) (.slice ai t.is.length ci)) 30)).cell? ⟨w.heap.size, 7 + j, none⟩ = some x) := fun _ _ hx => lk_in HQ0.out.2 hx
  generalize hcs : vcs t (.slice ay t.y.length cy) (.slice ak t.ks.length ck) (.slice ai t.is.length ci) = cs at *
  have HCS := hide hcs
  clear hcs
  go_enter Tryd.func71, Tryd.ntmps71
  go_upto_region 2 with fail
  generalize w.alloc (.cells cs 30) = w1 at *
  go_cut [33] from 6 to 32 (fun xx wx => xx = .bool (sp1 t) ∧ wx = w1)
  case first => as_aux_lemma =>

    rcases Bool.eq_false_or_eq_true (t.f) with hf | hf
    · rcases Bool.eq_false_or_eq_true (t.k != 2) with h2 | h2
      · as_aux_lemma =>
          go_wp2_with fail
          go_meet
          case rel => exact ⟨by unfold sp1; rw [hf, h2]; rfl, rfl⟩
      · rcases Bool.eq_false_or_eq_true (t.g) with hg | hg
        · rcases Bool.eq_false_or_eq_true (t.k != 3) with h3 | h3
          · as_aux_lemma =>
              go_wp2_with fail
              go_meet
              case rel => exact ⟨by unfold sp1; rw [hf, h2, hg, h3]; rfl, rfl⟩
          · rcases Bool.eq_false_or_eq_true (((t.b : Int) != 0)) with hb | hb
            · rcases Bool.eq_false_or_eq_true (t.k != 4) with h4 | h4
              · as_aux_lemma =>
                  go_wp2_with fail
                  go_meet
                  case rel => exact ⟨by unfold sp1; rw [hf, h2, hg, h3, hb, h4]; rfl, rfl⟩
              · as_aux_lemma =>
                  go_wp2_with fail
                  go_meet
                  case rel => exact ⟨by unfold sp1; rw [hf, h2, hg, h3, hb, h4]; rfl, rfl⟩
            · as_aux_lemma =>
                go_wp2_with fail
                go_meet
                case rel => exact ⟨by unfold sp1; rw [hf, h2, hg, h3, hb]; rfl, rfl⟩
        · rcases Bool.eq_false_or_eq_true (((t.n : Int) != 0)) with hn | hn
          · rcases Bool.eq_false_or_eq_true (t.k != 3) with h3 | h3
            · as_aux_lemma =>
                go_wp2_with fail
                go_meet
                case rel => exact ⟨by unfold sp1; rw [hf, h2, hg, hn, h3]; rfl, rfl⟩
            · rcases Bool.eq_false_or_eq_true (((t.b : Int) != 0)) with hb | hb
              · rcases Bool.eq_false_or_eq_true (t.k != 4) with h4 | h4
                · as_aux_lemma =>
                    go_wp2_with fail
                    go_meet
                    case rel => exact ⟨by unfold sp1; rw [hf, h2, hg, hn, h3, hb, h4]; rfl, rfl⟩
                · as_aux_lemma =>
                    go_wp2_with fail
                    go_meet
                    case rel => exact ⟨by unfold sp1; rw [hf, h2, hg, hn, h3, hb, h4]; rfl, rfl⟩
              · as_aux_lemma =>
                  go_wp2_with fail
                  go_meet
                  case rel => exact ⟨by unfold sp1; rw [hf, h2, hg, hn, h3, hb]; rfl, rfl⟩
          · rcases Bool.eq_false_or_eq_true (((t.b : Int) != 0)) with hb | hb
            · rcases Bool.eq_false_or_eq_true (t.k != 4) with h4 | h4
              · as_aux_lemma =>
                  go_wp2_with fail
                  go_meet
                  case rel => exact ⟨by unfold sp1; rw [hf, h2, hg, hn, hb, h4]; rfl, rfl⟩
              · as_aux_lemma =>
                  go_wp2_with fail
                  go_meet
                  case rel => exact ⟨by unfold sp1; rw [hf, h2, hg, hn, hb, h4]; rfl, rfl⟩
            · as_aux_lemma =>
                go_wp2_with fail
                go_meet
                case rel => exact ⟨by unfold sp1; rw [hf, h2, hg, hn, hb]; rfl, rfl⟩
    · rcases Bool.eq_false_or_eq_true (t.g) with hg | hg
      · rcases Bool.eq_false_or_eq_true (t.k != 3) with h3 | h3
        · as_aux_lemma =>
            go_wp2_with fail
            go_meet
            case rel => exact ⟨by unfold sp1; rw [hf, hg, h3]; rfl, rfl⟩
        · rcases Bool.eq_false_or_eq_true (((t.b : Int) != 0)) with hb | hb
          · rcases Bool.eq_false_or_eq_true (t.k != 4) with h4 | h4
            · as_aux_lemma =>
                go_wp2_with fail
                go_meet
                case rel => exact ⟨by unfold sp1; rw [hf, hg, h3, hb, h4]; rfl, rfl⟩
            · as_aux_lemma =>
                go_wp2_with fail
                go_meet
                case rel => exact ⟨by unfold sp1; rw [hf, hg, h3, hb, h4]; rfl, rfl⟩
          · as_aux_lemma =>
              go_wp2_with fail
              go_meet
              case rel => exact ⟨by unfold sp1; rw [hf, hg, h3, hb]; rfl, rfl⟩
      · rcases Bool.eq_false_or_eq_true (((t.n : Int) != 0)) with hn | hn
        · rcases Bool.eq_false_or_eq_true (t.k != 3) with h3 | h3
          · as_aux_lemma =>
              go_wp2_with fail
              go_meet
              case rel => exact ⟨by unfold sp1; rw [hf, hg, hn, h3]; rfl, rfl⟩
          · rcases Bool.eq_false_or_eq_true (((t.b : Int) != 0)) with hb | hb
            · rcases Bool.eq_false_or_eq_true (t.k != 4) with h4 | h4
              · as_aux_lemma =>
                  go_wp2_with fail
                  go_meet
                  case rel => exact ⟨by unfold sp1; rw [hf, hg, hn, h3, hb, h4]; rfl, rfl⟩
              · as_aux_lemma =>
                  go_wp2_with fail
                  go_meet
                  case rel => exact ⟨by unfold sp1; rw [hf, hg, hn, h3, hb, h4]; rfl, rfl⟩
            · as_aux_lemma =>
                go_wp2_with fail
                go_meet
                case rel => exact ⟨by unfold sp1; rw [hf, hg, hn, h3, hb]; rfl, rfl⟩
        · rcases Bool.eq_false_or_eq_true (((t.b : Int) != 0)) with hb | hb
          · rcases Bool.eq_false_or_eq_true (t.k != 4) with h4 | h4
            · as_aux_lemma =>
                go_wp2_with fail
                go_meet
                case rel => exact ⟨by unfold sp1; rw [hf, hg, hn, hb, h4]; rfl, rfl⟩
            · as_aux_lemma =>
                go_wp2_with fail
                go_meet
                case rel => exact ⟨by unfold sp1; rw [hf, hg, hn, hb, h4]; rfl, rfl⟩
          · as_aux_lemma =>
              go_wp2_with fail
              go_meet
              case rel => exact ⟨by unfold sp1; rw [hf, hg, hn, hb]; rfl, rfl⟩
  case rest =>
    obtain ⟨rfl, hww⟩ := hcut
    have hww := hww.symm
    subst hww
    rcases Bool.eq_false_or_eq_true (sp1 t) with h1 | h1
    · as_aux_lemma =>
      have H1 := hide h1
      rw [h1]
      go_wp2_with fail
      go_ret
      exact ⟨by unfold sparef; rw [H1.out]; rfl, HQ0.out.1⟩
    have H1 := hide h1
    rw [h1]
    clear h1
    go_upto_region 4 with fail
    go_cut [60] from 34 to 59 (fun xx wx => xx = .bool (sp2 t) ∧ wx = w1)
    case first => as_aux_lemma =>
      have HEQ : Hid (∀ wx : World, (Op.equalIn 10000 27 (.agg (lcs t.l)) (.agg (lcs ⟨0, 0, 0, []⟩))).run Tryd.prog wx = .ok (decide (t.l = ⟨0, 0, 0, []⟩)) wx) := fun wx => eqlk wx HLZ.out (b := ⟨0, 0, 0, []⟩) (by simp)
      by_cases h0 : t.s = ⟨#[]⟩
      · have hsT : decide (t.s = ⟨#[]⟩) = true := decide_eq_true h0
        have k4 : t.s.toList = [] := by rw [h0]; exact toList_nil
        clear h0
        by_cases h0 : 0 < (t.y.length : Int)
        · have gy := h0
          have hyT : decide (0 < (t.y.length : Int)) = true := decide_eq_true h0
          clear h0
          rcases Bool.eq_false_or_eq_true (t.k != 6) with h6 | h6
          · as_aux_lemma =>
              go_wp2_with fail
              go_meet
              case rel => exact ⟨by unfold sp2; rw [hsT, hyT, h6]; rfl, rfl⟩
          · rcases Bool.eq_false_or_eq_true (decide (t.l = ⟨0, 0, 0, []⟩)) with hlT | hlF
            · rw [hlT] at HEQ
              as_aux_lemma =>
                go_wp2_with (first | (refine wpList_lkAt rfl rfl w.heap.size 7 t.l rfl HA.out ?_) | (refine wpList_nelk rfl rfl (lcs t.l) (lcs ⟨0, 0, 0, []⟩) true rfl rfl (HEQ.out _) ?_))
                go_meet
                case rel => exact ⟨by unfold sp2; rw [hsT, hyT, h6, hlT]; rfl, rfl⟩
            · rw [hlF] at HEQ
              rcases Bool.eq_false_or_eq_true (t.k != 7) with h7 | h7
              · as_aux_lemma =>
                  go_wp2_with (first | (refine wpList_lkAt rfl rfl w.heap.size 7 t.l rfl HA.out ?_) | (refine wpList_nelk rfl rfl (lcs t.l) (lcs ⟨0, 0, 0, []⟩) false rfl rfl (HEQ.out _) ?_))
                  go_meet
                  case rel => exact ⟨by unfold sp2; rw [hsT, hyT, h6, hlF, h7]; rfl, rfl⟩
              · as_aux_lemma =>
                  go_wp2_with (first | (refine wpList_lkAt rfl rfl w.heap.size 7 t.l rfl HA.out ?_) | (refine wpList_nelk rfl rfl (lcs t.l) (lcs ⟨0, 0, 0, []⟩) false rfl rfl (HEQ.out _) ?_))
                  go_meet
                  case rel => exact ⟨by unfold sp2; rw [hsT, hyT, h6, hlF, h7]; rfl, rfl⟩
        · have gy := h0
          have hyF : decide (0 < (t.y.length : Int)) = false := decide_eq_false h0
          clear h0
          rcases Bool.eq_false_or_eq_true (decide (t.l = ⟨0, 0, 0, []⟩)) with hlT | hlF
          · rw [hlT] at HEQ
            as_aux_lemma =>
              go_wp2_with (first | (refine wpList_lkAt rfl rfl w.heap.size 7 t.l rfl HA.out ?_) | (refine wpList_nelk rfl rfl (lcs t.l) (lcs ⟨0, 0, 0, []⟩) true rfl rfl (HEQ.out _) ?_))
              go_meet
              case rel => exact ⟨by unfold sp2; rw [hsT, hyF, hlT]; rfl, rfl⟩
          · rw [hlF] at HEQ
            rcases Bool.eq_false_or_eq_true (t.k != 7) with h7 | h7
            · as_aux_lemma =>
                go_wp2_with (first | (refine wpList_lkAt rfl rfl w.heap.size 7 t.l rfl HA.out ?_) | (refine wpList_nelk rfl rfl (lcs t.l) (lcs ⟨0, 0, 0, []⟩) false rfl rfl (HEQ.out _) ?_))
                go_meet
                case rel => exact ⟨by unfold sp2; rw [hsT, hyF, hlF, h7]; rfl, rfl⟩
            · as_aux_lemma =>
                go_wp2_with (first | (refine wpList_lkAt rfl rfl w.heap.size 7 t.l rfl HA.out ?_) | (refine wpList_nelk rfl rfl (lcs t.l) (lcs ⟨0, 0, 0, []⟩) false rfl rfl (HEQ.out _) ?_))
                go_meet
                case rel => exact ⟨by unfold sp2; rw [hsT, hyF, hlF, h7]; rfl, rfl⟩
      · have hsF : decide (t.s = ⟨#[]⟩) = false := decide_eq_false h0
        have k4 : ¬ t.s.toList = [] := fun e => by have h := str_beq_no h0; rw [e, toList_nil] at h; exact absurd h (by simp)
        clear h0
        rcases Bool.eq_false_or_eq_true (t.k != 5) with h5 | h5
        · as_aux_lemma =>
            go_wp2_with fail
            go_meet
            case rel => exact ⟨by unfold sp2; rw [hsF, h5]; rfl, rfl⟩
        · by_cases h0 : 0 < (t.y.length : Int)
          · have gy := h0
            have hyT : decide (0 < (t.y.length : Int)) = true := decide_eq_true h0
            clear h0
            rcases Bool.eq_false_or_eq_true (t.k != 6) with h6 | h6
            · as_aux_lemma =>
                go_wp2_with fail
                go_meet
                case rel => exact ⟨by unfold sp2; rw [hsF, h5, hyT, h6]; rfl, rfl⟩
            · rcases Bool.eq_false_or_eq_true (decide (t.l = ⟨0, 0, 0, []⟩)) with hlT | hlF
              · rw [hlT] at HEQ
                as_aux_lemma =>
                  go_wp2_with (first | (refine wpList_lkAt rfl rfl w.heap.size 7 t.l rfl HA.out ?_) | (refine wpList_nelk rfl rfl (lcs t.l) (lcs ⟨0, 0, 0, []⟩) true rfl rfl (HEQ.out _) ?_))
                  go_meet
                  case rel => exact ⟨by unfold sp2; rw [hsF, h5, hyT, h6, hlT]; rfl, rfl⟩
              · rw [hlF] at HEQ
                rcases Bool.eq_false_or_eq_true (t.k != 7) with h7 | h7
                · as_aux_lemma =>
                    go_wp2_with (first | (refine wpList_lkAt rfl rfl w.heap.size 7 t.l rfl HA.out ?_) | (refine wpList_nelk rfl rfl (lcs t.l) (lcs ⟨0, 0, 0, []⟩) false rfl rfl (HEQ.out _) ?_))
                    go_meet
                    case rel => exact ⟨by unfold sp2; rw [hsF, h5, hyT, h6, hlF, h7]; rfl, rfl⟩
                · as_aux_lemma =>
                    go_wp2_with (first | (refine wpList_lkAt rfl rfl w.heap.size 7 t.l rfl HA.out ?_) | (refine wpList_nelk rfl rfl (lcs t.l) (lcs ⟨0, 0, 0, []⟩) false rfl rfl (HEQ.out _) ?_))
                    go_meet
                    case rel => exact ⟨by unfold sp2; rw [hsF, h5, hyT, h6, hlF, h7]; rfl, rfl⟩
          · have gy := h0
            have hyF : decide (0 < (t.y.length : Int)) = false := decide_eq_false h0
            clear h0
            rcases Bool.eq_false_or_eq_true (decide (t.l = ⟨0, 0, 0, []⟩)) with hlT | hlF
            · rw [hlT] at HEQ
              as_aux_lemma =>
                go_wp2_with (first | (refine wpList_lkAt rfl rfl w.heap.size 7 t.l rfl HA.out ?_) | (refine wpList_nelk rfl rfl (lcs t.l) (lcs ⟨0, 0, 0, []⟩) true rfl rfl (HEQ.out _) ?_))
                go_meet
                case rel => exact ⟨by unfold sp2; rw [hsF, h5, hyF, hlT]; rfl, rfl⟩
            · rw [hlF] at HEQ
              rcases Bool.eq_false_or_eq_true (t.k != 7) with h7 | h7
              · as_aux_lemma =>
                  go_wp2_with (first | (refine wpList_lkAt rfl rfl w.heap.size 7 t.l rfl HA.out ?_) | (refine wpList_nelk rfl rfl (lcs t.l) (lcs ⟨0, 0, 0, []⟩) false rfl rfl (HEQ.out _) ?_))
                  go_meet
                  case rel => exact ⟨by unfold sp2; rw [hsF, h5, hyF, hlF, h7]; rfl, rfl⟩
              · as_aux_lemma =>
                  go_wp2_with (first | (refine wpList_lkAt rfl rfl w.heap.size 7 t.l rfl HA.out ?_) | (refine wpList_nelk rfl rfl (lcs t.l) (lcs ⟨0, 0, 0, []⟩) false rfl rfl (HEQ.out _) ?_))
                  go_meet
                  case rel => exact ⟨by unfold sp2; rw [hsF, h5, hyF, hlF, h7]; rfl, rfl⟩
    case rest =>
      obtain ⟨rfl, hww⟩ := hcut
      have hww := hww.symm
      subst hww
      rcases Bool.eq_false_or_eq_true (sp2 t) with h1 | h1
      · as_aux_lemma =>
        have H2 := hide h1
        rw [h1]
        go_wp2_with fail
        go_ret
        exact ⟨by unfold sparef; rw [H1.out, H2.out]; rfl, HQ0.out.1⟩
      have H2 := hide h1
      rw [h1]
      clear h1
      rcases Bool.eq_false_or_eq_true (((t.ks.length : Int) == 0)) with hk | hk
      · rcases Bool.eq_false_or_eq_true (((t.is.length : Int) == 0)) with hi | hi
        · as_aux_lemma =>
            go_wp2_with fail
            go_ret
            exact ⟨by unfold sparef sp3; rw [H1.out, H2.out, hk, hi]; rfl, HQ0.out.1⟩
        · rcases Bool.eq_false_or_eq_true (t.k == 8) with h8 | h8
          · as_aux_lemma =>
              go_wp2_with fail
              go_ret
              exact ⟨by unfold sparef sp3; rw [H1.out, H2.out, hk, hi, h8]; rfl, HQ0.out.1⟩
          · rcases Bool.eq_false_or_eq_true (t.k == 9) with h9 | h9
            · as_aux_lemma =>
                go_wp2_with fail
                go_ret
                exact ⟨by unfold sparef sp3; rw [H1.out, H2.out, hk, hi, h8, h9]; rfl, HQ0.out.1⟩
            · as_aux_lemma =>
                go_wp2_with fail
                go_ret
                exact ⟨by unfold sparef sp3; rw [H1.out, H2.out, hk, hi, h8, h9]; rfl, HQ0.out.1⟩
      · rcases Bool.eq_false_or_eq_true (t.k == 9) with h9 | h9
        · rcases Bool.eq_false_or_eq_true (((t.is.length : Int) == 0)) with hi | hi
          · as_aux_lemma =>
              go_wp2_with fail
              go_ret
              exact ⟨by unfold sparef sp3; rw [H1.out, H2.out, hk, h9, hi]; rfl, HQ0.out.1⟩
          · rcases Bool.eq_false_or_eq_true (t.k == 8) with h8 | h8
            · as_aux_lemma =>
                go_wp2_with fail
                go_ret
                exact ⟨by unfold sparef sp3; rw [H1.out, H2.out, hk, h9, hi, h8]; rfl, HQ0.out.1⟩
            · as_aux_lemma =>
                go_wp2_with fail
                go_ret
                exact ⟨by unfold sparef sp3; rw [H1.out, H2.out, hk, h9, hi, h8]; rfl, HQ0.out.1⟩
        · as_aux_lemma =>
            go_wp2_with fail
            go_ret
            exact ⟨by unfold sparef sp3; rw [H1.out, H2.out, hk, h9]; rfl, HQ0.out.1⟩
end
section
open Go.RowKit Go
theorem beq_len {α : Type} (l : List α) : (((l.length : Nat) : Int) == 0) = l.isEmpty := by cases l <;> simp <;> omega
theorem pos_len (l : List Nat) [h : Decidable (0 < ((l.length : Nat) : Int))] : @decide (0 < ((l.length : Nat) : Int)) h = !l.isEmpty := by cases l <;> simp <;> omega
theorem bne_nat (n : Nat) : (((n : Nat) : Int) != 0) = !decide (n = 0) := by rw [Bool.eq_iff_iff]; simp
theorem nil_empty (l : List Nat) [h : Decidable (l = [])] : @decide (l = []) h = l.isEmpty := by cases l <;> simp
theorem nil_emptyS (l : List ByteArray) [h : Decidable (l = [])] : @decide (l = []) h = l.isEmpty := by cases l <;> simp
def dstr (s : ByteArray) : Bool := decide (s = ⟨#[]⟩)
def dlk (l : Lk) : Bool := decide (l = ⟨0, 0, 0, []⟩)
def dnt (n : Nat) : Bool := decide (n = 0)
theorem to_dstr (s : ByteArray) [h : Decidable (s = ⟨#[]⟩)] : @decide (s = ⟨#[]⟩) h = dstr s := by unfold dstr; congr
theorem to_dlk (l : Lk) [h : Decidable (l = ⟨0, 0, 0, []⟩)] : @decide (l = ⟨0, 0, 0, []⟩) h = dlk l := by unfold dlk; congr
theorem to_dnt (n : Nat) [h : Decidable (n = 0)] : @decide (n = 0) h = dnt n := by unfold dnt; congr
theorem dstr0 : dstr ⟨#[]⟩ = true := decide_eq_true rfl
theorem dlk0 : dlk ⟨0, 0, 0, []⟩ = true := decide_eq_true rfl
theorem dnt0 : dnt 0 = true := decide_eq_true rfl
theorem sparef_eq {t : Tv} (hk : 1 ≤ t.k ∧ t.k ≤ 9) : sparef t = t.zr.cl := by
  obtain ⟨k, f, g, n, b, s, y, l, ks, is⟩ := t
  have h9 : k = 1 ∨ k = 2 ∨ k = 3 ∨ k = 4 ∨ k = 5 ∨ k = 6 ∨ k = 7 ∨ k = 8 ∨ k = 9 := by simp only [Tv.k] at hk; omega
  clear hk
  unfold sparef sp1 sp2 sp3 Tv.zr Tv.cl
  simp only [pos_len, to_dstr, to_dlk, to_dnt, bne_nat, nil_empty, nil_emptyS, beq_len]
  simp only [Tv.k, Tv.f, Tv.g, Tv.n, Tv.b, Tv.s, Tv.y, Tv.l, Tv.ks, Tv.is]
  rcases h9 with rfl | rfl | rfl | rfl | rfl | rfl | rfl | rfl | rfl <;> simp only [Int.reduceEq, ite_true, ite_false, bne_self_eq_false, dstr0, dlk0, dnt0, List.isEmpty_nil] <;> generalize dnt n = dn <;> generalize dnt b = db <;> generalize dstr s = ds <;> generalize dlk l = dl <;> generalize y.isEmpty = dy <;> generalize ks.isEmpty = dk <;> generalize is.isEmpty = di <;> revert f g dn db ds dl dy dk di <;> decide +kernel
end
section
open Go.ChangeShapes Go.WideShapes Go.ChangeAt Go.RowKit Go
/-- What the rows lay. -/
def kki : List Int := kk.map fun n => ((n : Nat) : Int)
theorem cellsU32 : Tryd.prog.cellsOf 115 = 1 := by kernel_rfl
end
section
open Go.ChangeShapes Go.WideShapes Go.ChangeAt Go.RowKit Go.Deep Go.Joins Go

end
section
open Go.ChangeShapes Go.WideShapes Go.ChangeAt Go.RowKit Go.Deep Go.Joins Go
/-- A slice of uint64. -/
structure U64In (w : World) (v : Value) (hs : List Nat) : Prop where
  form : ∃ a c, v = .slice a hs.length c ∧ (hs = [] ∨ ∃ b off, a = some ⟨b, off, none⟩ ∧ ∀ j, j < hs.length → w.cell? ⟨b, off + j, none⟩ = some (.int .u64 ((hs.getD j 0 : Nat) : Int)))
  lt : ∀ x ∈ hs, x < 18446744073709551616
  max : hs.length ≤ 9223372036854775807
theorem U64In.move {w w' : World} {v : Value} {hs : List Nat} (h : U64In w v hs) (hm : ∀ p u, w.cell? p = some u → w'.cell? p = some u) : U64In w' v hs := by
  obtain ⟨⟨a, c, hv, hc⟩, h1, h2⟩ := h
  refine ⟨⟨a, c, hv, ?_⟩, h1, h2⟩
  rcases hc with hc | ⟨b, off, ha, hc⟩
  · exact .inl hc
  · exact .inr ⟨b, off, ha, fun j hj => hm _ _ (hc j hj)⟩
/-- The cells of links in a row. -/
def fcl (rs : List Lk) : List Value := rs.flatMap fun l => (lcs l).toList
theorem fcl_app (a b : List Lk) : fcl (a ++ b) = fcl a ++ fcl b := by simp [fcl]
theorem fcl_len : ∀ rs : List Lk, (fcl rs).length = rs.length * 4
  | [] => rfl
  | r :: rs => by
    have h := fcl_len rs
    have e : fcl (r :: rs) = (lcs r).toList ++ fcl rs := by simp [fcl]
    rw [e, List.length_append, h, List.length_cons]
    have : (lcs r).toList.length = 4 := rfl
    omega
theorem fcl_get : ∀ (rs : List Lk) (k : Nat) (l : Lk) (j : Nat) (u : Value), rs[k]? = some l → (lcs l)[j]? = some u → (fcl rs)[k * 4 + j]? = some u
  | [], k, l, j, u, h, _ => by simp at h
  | r :: rs, 0, l, j, u, h, hu => by
    simp at h
    subst h
    have e : fcl (r :: rs) = (lcs r).toList ++ fcl rs := by simp [fcl]
    have hj : j < (lcs r).size := by
      rcases Array.getElem?_eq_some_iff.1 hu with ⟨hj, _⟩
      exact hj
    rw [e, List.getElem?_append_left (by simpa using hj)]
    simpa using hu
  | r :: rs, k + 1, l, j, u, h, hu => by
    simp at h
    have e : fcl (r :: rs) = (lcs r).toList ++ fcl rs := by simp [fcl]
    have h4 : (lcs r).toList.length = 4 := rfl
    rw [e, List.getElem?_append_right (by omega)]
    have e2 : (k + 1) * 4 + j - (lcs r).toList.length = k * 4 + j := by omega
    rw [e2]
    exact fcl_get rs k l j u h hu
theorem fcl_one (rs : List Lk) : ∀ u ∈ fcl rs, u.oneCell' = true := by
  intro u hu
  simp only [fcl, List.mem_flatMap] at hu
  obtain ⟨l, _, hl⟩ := hu
  simp only [lcs, List.mem_cons, List.not_mem_nil, or_false] at hl
  rcases hl with rfl | rfl | rfl | rfl <;> rfl
theorem infoLk_ex : ∃ i, Tryd.prog.info? 27 = some i ∧ i.zero = some (.agg zlk) ∧ i.size = 4 ∧ i.bytes = 40 := by
  have h : (Tryd.prog.info? 27).map (fun i => (i.zero, i.size, i.bytes)) = some (some (.agg zlk), 4, 40) := by kernel_rfl
  cases hi : Tryd.prog.info? 27 with
  | none => rw [hi] at h; cases h
  | some i =>
    rw [hi] at h
    injection h with h
    injection h with h1 h2
    injection h2 with h2 h3
    exact ⟨i, rfl, h1, h2, h3⟩
theorem zip_parts (rs : List Lk) (i0 : Nat) : (rs.map lkv).zipIdx i0 = (rs.zipIdx i0).map fun x => (lkv x.1, x.2) := by
  rw [List.zipIdx_map]
  rfl
theorem fill_lks (rs : List Lk) (cells : Array Value) (hc : cells.size = rs.length * 4) : Instr.fill (fun i => some (i * 4, 4)) cells ((rs.zipIdx 0).map fun x => (x.2, lkv x.1)) = some (fcl rs).toArray := by
  obtain ⟨r, hr, hsz, hk⟩ := Great.fill_dense (s := 4) (by decide) (rs.map lkv) 0 cells (by
    intro v hv
    simp only [List.mem_map] at hv
    obtain ⟨l, _, rfl⟩ := hv
    rfl) (by rw [List.length_map, hc]; omega)
  have e : r = (fcl rs).toArray := by
    apply Array.ext_getElem?
    intro k
    have et : (fcl rs).toArray[k]? = (fcl rs)[k]? := List.getElem?_toArray
    rw [hk k, List.length_map, et]
    by_cases h : k < rs.length * 4
    · rw [if_pos ⟨by omega, by omega⟩, Nat.sub_zero, List.getElem?_map]
      have h4 : k / 4 < rs.length := by omega
      rw [List.getElem?_eq_getElem h4]
      simp only [Option.map_some, Option.bind_some]
      have hx : ∃ u, (lcs rs[k / 4])[k % 4]? = some u := by
        have : k % 4 < (lcs rs[k / 4]).size := by show k % 4 < 4; omega
        exact ⟨_, Array.getElem?_eq_getElem this⟩
      obtain ⟨u, hu⟩ := hx
      have hg := fcl_get rs (k / 4) rs[k / 4] (k % 4) u (List.getElem?_eq_getElem h4) hu
      have ek : k / 4 * 4 + k % 4 = k := by omega
      rw [ek] at hg
      rw [hg]
      exact hu
    · rw [if_neg (by omega), Array.getElem?_eq_none (by omega), List.getElem?_eq_none (by rw [fcl_len]; omega)]
  rw [e] at hr
  rw [zip_parts, List.map_map] at hr
  exact hr
theorem big24 {n : Nat} (h : n ≤ 1000) : ¬ n * 4 > 2 ^ 24 := by
  have : (2 : Nat) ^ 24 = 16777216 := by decide
  omega
theorem wpList_lks {ops : Array Oper} {rest : List Oper} {o : Oper} {a : Act} {w : World} {Q : Exit → Act → World → Prop} (hg : o.guard = none) (n : Nat) (parts : Array (Nat × Operand)) (ho : o.op = .buildSlice 43 n parts) (rs : List Lk) (hn : rs.length = n) (h0 : 0 < n) (h8 : n ≤ 1000)
    (hx : (parts.map fun (i, x) => (i, a.eval x)).toList = (rs.zipIdx 0).map fun x => (x.2, lkv x.1))
    (h : wpList Tryd.prog ops Q rest (a.put o.dst (.slice (some ⟨w.heap.size, 0, none⟩) n n)) (w.alloc (.cells (fcl rs).toArray 27))) : wpList Tryd.prog ops Q (o :: rest) a w := by
  obtain ⟨i, hi, hz, hs, _⟩ := infoLk_ex
  refine wpList_buildSlice hg 43 27 n _ ho (fcl rs).toArray i _ Tryd.underlying43 hi hz (by rw [hs]; exact big24 h8) (by rw [hs]; omega) ?_ h
  rw [hs, hx]
  exact fill_lks rs _ (by simp [hn])
/-- append of one link. -/
theorem append_lk {ops : Array Oper} {rest : List Oper} {o : Oper} {a : Act} {Q : Exit → Act → World → Prop} {w : World} (hgd : o.guard = none) (s x : Operand)
    (ho : o.op = .call { callee := .builtin .append, args := #[s, x], argTypes := #[43, 43] }) (B : Nat) (v : Value) (n : Nat) (rs : List Lk) (hs : a.eval s = v) (hown : w.ownsRow B 27 4 v n (fcl rs))
    (g : Nat) (l : Lk) (hx : a.eval x = .slice (some ⟨g, 0, none⟩) 1 1) (hg : w.heap[g]? = some (.cells (fcl [l]).toArray 27 (0, 0))) (hlen : n < 1099511627776) (hbase : B ≤ w.heap.size)
    (h : ∀ v' w', w'.ownsRow B 27 4 v' (n + 1) (fcl (rs ++ [l])) → w.grownBy w' v.ownBlock → wpList Tryd.prog ops Q rest (a.put o.dst v') w') : wpList Tryd.prog ops Q (o :: rest) a w := by
  obtain ⟨i, hi, hz0, hz1, hz2⟩ := infoLk_ex
  refine wpList_append_own_at w hgd s x 43 ho B 27 i _ 4 40 Tryd.underlying43 hi hz0 hz1 hz2 rfl (by decide) v n (fcl rs) hs hown ⟨g, 0, none⟩ 1 1 (fcl [l]) hx (by rw [fcl_len]; rfl) (fun j u hu => ?_) (fcl_one [l]) (by unfold maxLen; omega) (by omega) hbase fun v' w' h1 h2 _ _ => h v' w' (by rw [fcl_app]; exact h1) h2
  have hadd : (⟨g, 0, none⟩ : Addr).add j = ⟨g, j, none⟩ := by unfold Addr.add; split <;> simp_all
  rw [hadd]
  exact blk_cell hg (by rw [List.getElem?_toArray]; exact hu)
theorem own_form4 {w : World} {B : Nat} {e : TypeId} {v : Value} {n : Nat} {xs : List Value} (h : w.ownsRow B e 4 v n xs) : ∃ a cap, v = .slice a n cap ∧ (0 < n → ∃ g, a = some ⟨g, 0, none⟩) := by
  rcases h.2 with ⟨rfl, h0⟩ | ⟨g, cap, cur, rfl, _⟩
  · exact ⟨none, 0, by rw [h0], fun hp => by omega⟩
  · exact ⟨_, cap, rfl, fun _ => ⟨g, rfl⟩⟩
theorem own_lk {w : World} {B g n cap k : Nat} {rs : List Lk} {l : Lk} (h : w.ownsRow B 27 4 (.slice (some ⟨g, 0, none⟩) n cap) n (fcl rs)) (hk : rs[k]? = some l) : ∀ j u, (lcs l)[j]? = some u → w.cell? ⟨g, k * 4 + j, none⟩ = some u := fun j u hu => by
  have := h.cells (g := g) rfl (k * 4 + j) u (fcl_get rs k l j u hk hu)
  have hadd : (⟨g, 0, none⟩ : Addr).add (k * 4 + j) = ⟨g, k * 4 + j, none⟩ := by unfold Addr.add; split <;> simp_all
  rw [hadd] at this
  exact this
theorem own_lks (w : World) (rs : List Lk) (hn : 0 < rs.length) (hx : rs.length ≤ 1000) : (w.alloc (.cells (fcl rs).toArray 27)).ownsRow w.heap.size 27 4 (.slice (some ⟨w.heap.size, 0, none⟩) rs.length rs.length) rs.length (fcl rs) :=
  ⟨fcl_len rs, .inr ⟨w.heap.size, rs.length, _, rfl, Nat.le_refl _, heap_alloc_new w _, Nat.le_refl _, by unfold maxLen; omega, by simp [fcl_len], by
    show (fcl rs).toArray.toList.take (rs.length * 4) = fcl rs
    rw [List.toList_toArray, ← fcl_len, List.take_length]⟩⟩
end
section
open Go.RowKit Go

end
section
open Go.RowKit Go
theorem cells_of {w : World} {d : Nat} {l : List Value} {t : TypeId} (h : w.heap[d]? = some (.cells l.toArray t (0, 0))) : w.rangeAt d 0 l := fun j v hv => by
  rw [Nat.zero_add]
  exact blk_cell h (by rw [List.getElem?_toArray]; exact hv)
theorem bslD_of {w : World} {d : Nat} {D : List Nat} {t : TypeId} (h : w.heap[d]? = some (.cells (bv D).toArray t (0, 0))) (hb : ∀ x ∈ D, x < 256) (hl : D.length = 32) : BSl w (.slice (some ⟨d, 0, none⟩) 32 32) D := by
  have h2 := bsl_block h hb (by rw [hl]; decide)
  rw [hl] at h2
  exact h2
theorem exec_text {o : Oper} {a : Act} {x : Operand} {xs : List Nat} {w : World} {v : Value} (ho : o.op = .convert 25 9 x) (hx : a.eval x = v) (h : BSl w v xs) : (execOp a.eval o).run Tryd.prog w = .ok (.value (.string (nstr xs))) w := by
  unfold execOp
  simp only [ho, Sem.run_bind, hx, h.text, Result.andThen_ok]
  rfl
theorem exec_loadLk {o : Oper} {a : Act} {p : Operand} {g : Nat} {cs : Array Value} {w : World} (ho : o.op = .load 27 p) (hp : a.eval p = .pointer (some ⟨g, 0, none⟩)) (hn : cs.size = 4) (hg : w.heap[g]? = some (.cells cs 27 (0, 0))) : (execOp a.eval o).run Tryd.prog w = .ok (.value (.agg cs)) w := by
  unfold execOp
  have hr : (Instr.loadAt 27 (.pointer (some ⟨g, 0, none⟩))).run Tryd.prog w = .ok (.agg cs) w := by
    simp only [Instr.loadAt, Instr.sureAddr, Sem.run_bind, Sem.run_pure, Result.andThen]
    exact run_loadVar_row (P := Tryd.prog) w g 27 27 cs (0, 0) _ hg Tryd.underlying27 rfl (by rw [hn]; exact info61)
  simp only [ho, Sem.run_bind, hp, hr, Result.andThen_ok]
  rfl
theorem bv_set2 (l : List Nat) (j x : Nat) : (bv l).set j (.int .u8 ((x : Nat) : Int)) = bv (l.set j x) := by simp [bv, List.map_set]
theorem flip_bit (q j : Nat) (hq : q < 256) (hj : j < 8) : ∃ z : Nat, bits .xor .u8 (q : Int) (2 ^ j % 256) = (z : Int) ∧ z < 256 ∧ z ≠ q := by
  have h2 : 2 ^ j < 256 := by
    have : 2 ^ j ≤ 2 ^ 7 := Nat.pow_le_pow_right (by decide) (by omega)
    have e : 2 ^ 7 = 128 := rfl
    omega
  have e : (2 : Int) ^ j % 256 = ((2 ^ j : Nat) : Int) := by
    rw [Int.emod_eq_of_lt (Int.pow_nonneg (by decide))]
    · rw [Int.natCast_pow]; rfl
    · have : ((2 ^ j : Nat) : Int) < 256 := by omega
      rw [Int.natCast_pow] at this
      exact this
  refine ⟨q ^^^ 2 ^ j, by rw [e, u8_xor_nat _ _ hq h2], Nat.xor_lt_two_pow (n := 8) hq h2, fun h => ?_⟩
  have h3 : q ^^^ 2 ^ j ^^^ q = 0 := by rw [h, Nat.xor_self]
  rw [Nat.xor_comm, ← Nat.xor_assoc, Nat.xor_self, Nat.zero_xor] at h3
  have : 0 < 2 ^ j := Nat.pow_pos (by decide)
  omega
theorem set_ne {D : List Nat} {k z q : Nat} (hk : k < D.length) (hq : D.getD k 0 = q) (hz : z ≠ q) : D.set k z ≠ D := fun e => hz (by
  have h2 := congrArg (fun l => l.getD k 0) e
  have h3 : (D.set k z).getD k 0 = z := by rw [List.getD_eq_getElem?_getD, List.getElem?_set_self hk, Option.getD_some]
  rw [← h3, ← hq]
  exact h2)
theorem mod256 (i : Nat) : (i : Int) % 256 = ((i % 256 : Nat) : Int) := by omega
theorem own_ok {xs : List Nat} : lok ⟨1, 85, 0, xs⟩ ↔ xs.length ≤ 64 := by
  constructor
  · rintro (⟨h, _⟩ | ⟨_, _, h | h⟩)
    · exact absurd (show (1 : Int) = 0 from h) (by decide)
    · exact absurd (show (0 : Nat) = 18 from h.1) (by decide)
    · exact h.2
  · exact fun h => .inr ⟨rfl, (by decide : 85 < 9223372036854775808), .inr ⟨rfl, h⟩⟩
theorem own_holds {xs ys : List Nat} : (decide (lok ⟨1, 85, 0, xs⟩) && dholds 0 xs ys) = (decide (xs.length ≤ 64) && decide (xs = ys)) := by
  unfold dholds
  by_cases h : xs.length ≤ 64
  · have h1 : lok ⟨1, 85, 0, xs⟩ := own_ok.2 h
    simp [h, h1]
  · have h1 : ¬ lok ⟨1, 85, 0, xs⟩ := fun e => h (own_ok.1 e)
    simp [h, h1]
end
section
open Go.RowKit Go
theorem intact_b {w : World} {base g cap : Nat} {xs : List Nat} (h : Lnt w base g cap xs) (vb : Value) (hb : BSl w vb xs) :
    Calls Tryd.prog 35 #[.slice (some ⟨g, 0, none⟩) xs.length cap, vb] w fun e w' => e = .returned (.bool true) ∧ Below w.heap.size w w' :=
  (intact_any h vb hb).mono fun _ _ ⟨he, hk⟩ => ⟨he, hk.below (Nat.le_refl _) (fun _ h => h.elim)⟩
theorem Lnt.below4 {w w' : World} {base g cap : Nat} {xs : List Nat} (h : Lnt w base g cap xs) (hb : Below w.heap.size w w') : Lnt w' base g cap xs := h.kp (Kp.of_below (S := fun _ => False) hb) (fun h => h)
/-- A load of a link in a region that draws and then makes memory. -/
theorem still_loadLk {ops : Array Oper} {o : Oper} {a : Act} {K : Act → Prop} {p : Operand} {w : World} (hgd : Region.wanted o (yielded ops a.tmps) = true) (ho : o.op = .load 27 p) (g : Nat) (cs : Array Value)
    (hp : a.eval p = .pointer (some ⟨g, 0, none⟩)) (hn : cs.size = 4) (hg : w.heap[g]? = some (.cells cs 27 (0, 0)))
    (h : K (a.put o.dst (.agg cs))) : if Region.wanted o (yielded ops a.tmps) = true then o.still Tryd.prog a w K else K (a.put o.dst undef) := by
  rw [if_pos hgd]
  unfold Oper.still
  rw [exec_loadLk ho hp hn hg, Oper.stillUpon_value]
  exact h

theorem wpList_lks4 {ops : Array Oper} {rest : List Oper} {o : Oper} {a : Act} {w : World} {Q : Exit → Act → World → Prop} {x0 x1 x2 x3 : Operand} (hg : o.guard = none) (ho : o.op = .buildSlice 43 4 #[(0, x0), (1, x1), (2, x2), (3, x3)]) (r0 r1 r2 r3 : Lk)
    (h0 : a.eval x0 = lkv r0) (h1 : a.eval x1 = lkv r1) (h2 : a.eval x2 = lkv r2) (h3 : a.eval x3 = lkv r3)
    (h : wpList Tryd.prog ops Q rest (a.put o.dst (.slice (some ⟨w.heap.size, 0, none⟩) 4 4)) (w.alloc (.cells (fcl [r0, r1, r2, r3]).toArray 27))) : wpList Tryd.prog ops Q (o :: rest) a w :=
  wpList_lks hg 4 _ ho [r0, r1, r2, r3] rfl (by decide) (by decide) (by simp [h0, h1, h2, h3]) h
theorem wpList_lks1 {ops : Array Oper} {rest : List Oper} {o : Oper} {a : Act} {w : World} {Q : Exit → Act → World → Prop} {x0 : Operand} (hg : o.guard = none) (ho : o.op = .buildSlice 43 1 #[(0, x0)]) (r0 : Lk)
    (h0 : a.eval x0 = lkv r0)
    (h : wpList Tryd.prog ops Q rest (a.put o.dst (.slice (some ⟨w.heap.size, 0, none⟩) 1 1)) (w.alloc (.cells (fcl [r0]).toArray 27))) : wpList Tryd.prog ops Q (o :: rest) a w :=
  wpList_lks hg 1 _ ho [r0] rfl (by decide) (by decide) (by simp [h0]) h
end
section
open Go.RowKit Go
/-- The places of a value's items, in the form's order. -/
def pls (t : Tv) : List Nat := if t.k = 8 then List.range t.is.length else ordp t.ks (min t.ks.length t.is.length)
/-- A value's links, in the form's order. -/
def lnkf (t : Tv) : List Lk :=
  if t.k = 7 then [t.l]
  else if t.k = 8 ∨ t.k = 9 then (pls t).flatMap fun p => if h : p < t.is.length then lnkf (t.is[p]'h) else []
  else []
termination_by SizeOf.sizeOf t
decreasing_by exact Tv.is_lt (List.getElem_mem _)
def lnx (t : Tv) (p : Nat) : List Lk := if h : p < t.is.length then lnkf (t.is[p]'h) else []
theorem lnx_at {t u : Tv} {p : Nat} (h : t.is[p]? = some u) : lnx t p = lnkf u := by
  have h1 := (List.getElem?_eq_some_iff.1 h).1
  unfold lnx
  rw [dif_pos h1]
  rw [List.getElem?_eq_getElem h1] at h
  injection h with h
  rw [h]
theorem lnkf_7 {t : Tv} (h : t.k = 7) : lnkf t = [t.l] := by rw [lnkf, if_pos h]
theorem lnkf_n {t : Tv} (h7 : t.k ≠ 7) (h : t.k = 8 ∨ t.k = 9) : lnkf t = (pls t).flatMap (lnx t) := by
  rw [lnkf, if_neg h7, if_pos h]
  rfl
theorem lnkf_0 {t : Tv} (h7 : t.k ≠ 7) (h : ¬ (t.k = 8 ∨ t.k = 9)) : lnkf t = [] := by rw [lnkf, if_neg h7, if_neg h]
theorem flat_take {t : Tv} {ps : List Nat} {i p : Nat} (hp : ps[i]? = some p) : (ps.take (i + 1)).flatMap (lnx t) = (ps.take i).flatMap (lnx t) ++ lnx t p := by
  have hi := (List.getElem?_eq_some_iff.1 hp).1
  rw [List.take_succ_eq_append_getElem hi, List.flatMap_append]
  rw [List.getElem?_eq_getElem hi] at hp
  injection hp with hp
  simp [hp]
theorem flat_le {t : Tv} {ps : List Nat} (i : Nat) : ((ps.take i).flatMap (lnx t)).length ≤ (ps.flatMap (lnx t)).length := by
  have h : ps.flatMap (lnx t) = (ps.take i).flatMap (lnx t) ++ (ps.drop i).flatMap (lnx t) := by rw [← List.flatMap_append, List.take_append_drop]
  rw [h, List.length_append]
  omega
/-- What gathered does: links and, behind them, those of a value that lies in an older world. -/
def GatC (t : Tv) : Prop := ∀ (w0 : World) (cs : Array Value), Tin w0 t cs → tmuch t ≤ 100000 → ∀ (w : World) (v : Value) (rs : List Lk), Below w0.heap.size w0 w → w.ownsRow w0.heap.size 27 4 v rs.length (fcl rs) → (rs ++ lnkf t).length ≤ 1000000 →
  Calls Tryd.prog 52 #[v, .agg cs] w fun e w' => ∃ v', e = .returned v' ∧ w'.ownsRow w0.heap.size 27 4 v' (rs ++ lnkf t).length (fcl (rs ++ lnkf t)) ∧ Kp (fun q => v.ownBlock = some q) w w' ∧ (v'.ownBlock = v.ownBlock ∨ ∃ q, v'.ownBlock = some q ∧ w.heap.size ≤ q)
/-- What gathered has in hand within its loop; g: its argument's block. -/
structure Gth (w wx : World) (g : Nat) (cs : Array Value) (B : Nat) (v vx : Value) (rs : List Lk) : Prop where
  o : wx.ownsRow B 27 4 vx rs.length (fcl rs)
  k : Kp (fun q => v.ownBlock = some q) w wx
  r : wx.heap[g]? = some (.cells cs 30 (0, 0))
  q : vx.ownBlock = v.ownBlock ∨ ∃ q, vx.ownBlock = some q ∧ w.heap.size ≤ q
theorem Gth.below {w wx : World} {g : Nat} {cs : Array Value} {B : Nat} {v vx : Value} {rs : List Lk} {w0 : World} (h : Gth w wx g cs B v vx rs) (h0 : Below w0.heap.size w0 w) (hv : ∀ q, v.ownBlock = some q → w0.heap.size ≤ q) : Below w0.heap.size w0 wx := h0.trans (h.k.below h0.size hv)
theorem Gth.step {w wx wy : World} {g : Nat} {cs : Array Value} {B : Nat} {v vx vy : Value} {rs rs' : List Lk} (h : Gth w wx g cs B v vx rs) (hg : g < w.heap.size) (hv : ∀ q, v.ownBlock = some q → q ≠ g) (ho : wy.ownsRow B 27 4 vy rs'.length (fcl rs')) (hk : Kp (fun q => vx.ownBlock = some q) wx wy) (hq : vy.ownBlock = vx.ownBlock ∨ ∃ q, vy.ownBlock = some q ∧ wx.heap.size ≤ q) : Gth w wy g cs B v vy rs' := by
  have hg2 : ¬ vx.ownBlock = some g := fun e => by
    rcases h.q with h1 | ⟨q, h1, h2⟩
    · rw [h1] at e
      exact hv _ e rfl
    · rw [h1] at e
      injection e with e
      omega
  have hz := h.k.size
  refine ⟨ho, h.k.trans hk (fun k hkk e => ?_), (hk.block _ (blk_lt h.r) hg2).trans h.r, ?_⟩
  · rcases h.q with h1 | ⟨q, h1, h2⟩
    · rw [← h1]
      exact e
    · rw [h1] at e
      injection e with e
      omega
  · rcases hq with h1 | ⟨q, h1, h2⟩
    · rw [h1]
      exact h.q
    · exact .inr ⟨q, h1, by omega⟩
end
section
open Go.RowKit Go
theorem append_lkq {ops : Array Oper} {rest : List Oper} {o : Oper} {a : Act} {Q : Exit → Act → World → Prop} {w : World} (hgd : o.guard = none) (s x : Operand)
    (ho : o.op = .call { callee := .builtin .append, args := #[s, x], argTypes := #[43, 43] }) (B : Nat) (v : Value) (n : Nat) (rs : List Lk) (hs : a.eval s = v) (hown : w.ownsRow B 27 4 v n (fcl rs))
    (g : Nat) (l : Lk) (hx : a.eval x = .slice (some ⟨g, 0, none⟩) 1 1) (hg : w.heap[g]? = some (.cells (fcl [l]).toArray 27 (0, 0))) (hlen : n < 1099511627776) (hbase : B ≤ w.heap.size)
    (h : ∀ v' w', w'.ownsRow B 27 4 v' (n + 1) (fcl (rs ++ [l])) → w.grownBy w' v.ownBlock → (v'.ownBlock = v.ownBlock ∨ v'.ownBlock = some w.heap.size) → wpList Tryd.prog ops Q rest (a.put o.dst v') w') : wpList Tryd.prog ops Q (o :: rest) a w := by
  obtain ⟨i, hi, hz0, hz1, hz2⟩ := infoLk_ex
  refine wpList_append_own_at w hgd s x 43 ho B 27 i _ 4 40 Tryd.underlying43 hi hz0 hz1 hz2 rfl (by decide) v n (fcl rs) hs hown ⟨g, 0, none⟩ 1 1 (fcl [l]) hx (by rw [fcl_len]; rfl) (fun j u hu => ?_) (fcl_one [l]) (by unfold maxLen; omega) (by omega) hbase fun v' w' h1 h2 _ h4 => h v' w' (by rw [fcl_app]; exact h1) h2 h4
  have hadd : (⟨g, 0, none⟩ : Addr).add j = ⟨g, j, none⟩ := by unfold Addr.add; split <;> simp_all
  rw [hadd]
  exact blk_cell hg (by rw [List.getElem?_toArray]; exact hu)
set_option maxRecDepth 1000000 in
set_option maxHeartbeats 1000000 in
theorem gathered_step (t : Tv) (ih : ∀ u ∈ t.is, GatC u) : GatC t := by
  intro w0 cs ht hm w v rs hb0 hown hlen
  have HIH := hide ih
  have HT0 := hide ht
  have HSZ := hide ht.size13
  have hme := tmuch_eq t
  have HML : Hid (tmuchL t.is ≤ 100000 ∧ t.ks.length ≤ 100000) := ⟨by omega, by omega⟩
  have HB0 := hide hb0
  have HO0 := hide hown
  have HLN := hide hlen
  have HVB : Hid (∀ q, v.ownBlock = some q → w0.heap.size ≤ q ∧ q < w.heap.size) := fun q hq => hown.lt q hq
  clear ih hm hme hb0 hlen
  obtain ⟨ax, cx, hvx⟩ : ∃ ax cx, v = .slice ax rs.length cx := own_slice hown
  subst hvx
  clear hown
  obtain ⟨vy, vk, vi, rfl, hy, hk, hv, hb⟩ := ht.parts
  have HLB := hide hb.l
  obtain ⟨⟨ai, ci, rfl, _, hform⟩, hmax⟩ := hv
  have HF := hide hform
  have HC0 : Hid ((vcs t vy vk (.slice ai t.is.length ci))[0]? = some (.int .i64 t.k)) := rfl
  have HC12 : Hid ((vcs t vy vk (.slice ai t.is.length ci))[12]? = some (.slice ai t.is.length ci)) := rfl
  have HLK : Hid (∀ (wx : World) (g : Nat), wx.heap[g]? = some (.cells (vcs t vy vk (.slice ai t.is.length ci)) 30 (0, 0)) → ∀ j x, (lcs t.l)[j]? = some x → wx.cell? ⟨g, 7 + j, none⟩ = some x) := fun wx g h j x hx => lk_in h hx
  generalize vcs t vy vk (.slice ai t.is.length ci) = cs at *
  clear ht hy hk hb hform
  have HG0 : Hid (Gth w (w.alloc (.cells cs 30)) w.heap.size cs w0.heap.size (.slice ax rs.length cx) (.slice ax rs.length cx) rs) := ⟨HO0.out.alloc _, Kp.of_below (below_alloc4 w _), heap_alloc_new w _, .inl rfl⟩
  have q0 := blk_cell HG0.out.r HC0.out
  by_cases h7 : t.k = 7
  · as_aux_lemma =>
    have g7 : (t.k == 7) = true := beq_iff_eq.2 h7
    have HE : Hid (lnkf t = [t.l]) := lnkf_7 h7
    have HLA := hide (HLK.out _ _ HG0.out.r)
    have HL1 := hide (heap_alloc_new (w.alloc (.cells cs 30)) (.cells (fcl [t.l]).toArray 27))
    have HLE : Hid (rs.length ≤ 1000000) := by have := HLN.out; rw [List.length_append] at this; show _ ≤ _; omega
    have HBZ : Hid (w0.heap.size ≤ w.heap.size) := HB0.out.size
    clear h7
    go_enter Tryd.func52, Tryd.ntmps52
    go_wp2_with (first
      | (refine wpList_lkAt rfl rfl w.heap.size 7 t.l rfl HLA.out ?_)
      | (refine wpList_lks1 rfl rfl t.l rfl ?_)
      | (at_builtin; refine append_lkq rfl _ _ rfl w0.heap.size _ rs.length rs rfl (HG0.out.o.alloc _) (w.alloc (.cells cs 30)).heap.size t.l rfl HL1.out ?b1 ?b2 ?_))
    case b1 => have := HLE.out; omega
    case b2 => have := HBZ.out; simp; omega
    intro v2 w2 ho2 hg2 hv2
    have hk2 : Kp (fun q => (Value.slice ax rs.length cx).ownBlock = some q) w w2 := ((Kp.of_below (below_alloc4 w _)).trans (Kp.of_below (below_alloc4 (w.alloc (.cells cs 30)) _)) (fun _ _ h => h)).grown hg2 (fun _ _ h => h)
    have HO2 : Hid (w2.ownsRow w0.heap.size 27 4 v2 (rs ++ lnkf t).length (fcl (rs ++ lnkf t))) := by
      show World.ownsRow _ _ _ _ _ _ _
      rw [HE.out, List.length_append]
      exact ho2
    have HK2 := hide hk2
    have HQ2 : Hid (v2.ownBlock = (Value.slice ax rs.length cx).ownBlock ∨ ∃ q, v2.ownBlock = some q ∧ w.heap.size ≤ q) := hv2.imp id (fun h => ⟨_, h, by first | omega | (simp; omega) | simp⟩)
    clear ho2 hg2 hk2 hv2
    go_wp2_with fail
    go_ret
    exact ⟨_, rfl, HO2.out, HK2.out, HQ2.out⟩
  have g7 : (t.k == 7) = false := beq_eq_false_iff_ne.2 h7
  by_cases h8 : t.k = 8
  · have g8 : (t.k == 8) = true := beq_iff_eq.2 h8
    have HE : Hid (lnkf t = (List.range t.is.length).flatMap (lnx t)) := by
      show _ = _
      rw [lnkf_n h7 (.inl h8)]
      unfold pls
      rw [if_pos h8]
    have q12 := blk_cell HG0.out.r HC12.out
    have HB1 : Hid (Below w0.heap.size w0 (w.alloc (.cells cs 30))) := HB0.out.trans ((below_alloc4 w _).mono HB0.out.size)
    have HG1 : Hid (Gth (w.alloc (.cells cs 30)) (w.alloc (.cells cs 30)) w.heap.size cs w0.heap.size (.slice ax rs.length cx) (.slice ax rs.length cx) rs) := ⟨HG0.out.o, Kp.refl _ _, HG0.out.r, .inl rfl⟩
    have HK1 : Hid (Kp (fun q => (Value.slice ax rs.length cx).ownBlock = some q) w (w.alloc (.cells cs 30)) ∧ (w.alloc (.cells cs 30)).heap.size = w.heap.size + 1) := ⟨Kp.of_below (below_alloc4 w _), by simp⟩
    clear h7 h8 HG0
    go_enter Tryd.func52, Tryd.ntmps52
    go_wp2_with fail
    clear q0 q12
    generalize w.alloc (.cells cs 30) = w1 at *
    go_loopw [0, 23] (fun vv ii wx => ∃ i : Nat, i ≤ t.is.length ∧ ii = .int .i64 (i : Nat) ∧ Hid (Gth w1 wx w.heap.size cs w0.heap.size (.slice ax rs.length cx) vv (rs ++ ((List.range t.is.length).take i).flatMap (lnx t)))) (fun _ ii _ => t.is.length - (intOf ii).toNat)
    case atStart => exact ⟨0, by omega, rfl, by simpa using HG1⟩
    case round =>
      obtain ⟨i, hi, rfl, HG⟩ := hrel
      clear HG1
      obtain ⟨bx, dx, hux⟩ := own_slice HG.out.o
      subst hux
      have HBW := hide (HG.out.below HB1.out (fun q hq => (HVB.out q hq).1))
      by_cases hlt : i < t.is.length
      · as_aux_lemma =>
        have g1 : (i : Int) < (t.is.length : Int) := by omega
        obtain ⟨u, hu⟩ : ∃ u, t.is[i]? = some u := ⟨t.is[i], List.getElem?_eq_getElem hlt⟩
        obtain ⟨b, off, rfl, hcells⟩ := HF.out.resolve_left (fun h => by rw [h] at hlt; simp at hlt)
        obtain ⟨cu, hcu, hcc⟩ := hcells i u hu
        have HCC : Hid (∀ j x, cu[j]? = some x → wr.cell? ⟨b, off + i * 13 + j, none⟩ = some x) := fun j x hx => keep_below HBW.out _ _ (hcc j x hx)
        have hmem := List.mem_of_getElem? hu
        have HZ1 := hide hcu.size13
        have HA1 := hide hcu.all1
        have HIT := hide (itm_mk wr cu)
        have HGN := hide (heap_alloc_new wr (.cells zv 30))
        have HIN : Hid ((Tryd.prog.info? 30).map (·.size) = some cu.size) := by show _ = _; rw [HZ1.out]; exact infoV
        have HZV : Hid (zv.size = cu.size) := by show _ = _; rw [HZ1.out]; rfl
        have HCX := hide HIT.out.cells
        have hfl : ((List.range t.is.length).take (i + 1)).flatMap (lnx t) = ((List.range t.is.length).take i).flatMap (lnx t) ++ lnkf u := by rw [flat_take (List.getElem?_range hlt), lnx_at hu]
        have hle := flat_le (t := t) (ps := List.range t.is.length) (i + 1)
        have HGI : Hid (Gth w1 ((wr.alloc (.cells zv 30)).setRow wr.heap.size cu) w.heap.size cs w0.heap.size (.slice ax rs.length cx) (.slice bx (rs ++ ((List.range t.is.length).take i).flatMap (lnx t)).length dx) (rs ++ ((List.range t.is.length).take i).flatMap (lnx t))) := HG.out.step (by have := HK1.out.2; omega) (fun q hq e => by have := HVB.out q hq; omega) ((Kp.of_below (S := fun _ => False) HIT.out.b).owns HG.out.o (fun _ _ h => h)) (Kp.of_below HIT.out.b) (.inl rfl)
        have HCA := hide (HIH.out u hmem w0 cu hcu (Nat.le_trans (tmuchL_mem hmem) HML.out.1) _ _ _ (HBW.out.trans (HIT.out.b.mono HBW.out.size)) HGI.out.o (by
          have h1 := HLN.out
          rw [HE.out, List.length_append] at h1
          rw [List.append_assoc, ← hfl, List.length_append]
          omega))
        rw [List.append_assoc, ← hfl] at HCA
        clear hu hcells hcu hcc hmem hfl hle
        generalize hnn : (rs ++ ((List.range t.is.length).take i).flatMap (lnx t)).length = nn at *
        clear hnn
        go_wp2_with (first
          | (refine wpList_valAt rfl rfl b (off + i * 13) cu rfl HZ1.out HCC.out ?_)
          | (refine wpList_storeRow rfl rfl wr.heap.size zv cu 30 rfl rfl HGN.out HIN.out HZV.out HA1.out ?_)
          | (refine wpList_valAt rfl rfl wr.heap.size 0 cu rfl HZ1.out HCX.out ?_))
        refine HCA.out.mono ?_
        rintro e w5 ⟨v5, rfl, ho5, hk5, hq5⟩
        have HG5 := hide (HGI.out.step (by have := HK1.out.2; omega) (fun q hq e => by have := HVB.out q hq; omega) ho5 hk5 hq5)
        clear ho5 hk5 hq5 HCA HGI HCX HIT HGN HCC
        go_wp2_with fail
        go_roundw
        case rel => exact ⟨i + 1, by omega, by go_num, HG5⟩
        case measure => simp [intOf]; omega
      · as_aux_lemma =>
        have g1 : ¬ (i : Int) < (t.is.length : Int) := by omega
        have hL : i = t.is.length := by omega
        have HGE : Hid (Gth w1 wr w.heap.size cs w0.heap.size (.slice ax rs.length cx) (.slice bx (rs ++ ((List.range t.is.length).take i).flatMap (lnx t)).length dx) (rs ++ lnkf t)) := by
          have h := HG.out
          rw [HE.out]
          have e : (List.range t.is.length).take i = (List.range t.is.length) := List.take_of_length_le (by simp; omega)
          rw [e] at h ⊢
          exact h
        clear HG
        generalize (rs ++ ((List.range t.is.length).take i).flatMap (lnx t)).length = nn at *
        go_wp2_with fail
        go_ret
        exact ⟨_, rfl, by first | exact HGE.out.o | (have h := HGE.out.o; rw [List.length_append] at h; exact h), HK1.out.1.trans HGE.out.k (fun _ _ h => h), HGE.out.q.imp id (fun ⟨q, h1, h2⟩ => ⟨q, h1, by have := HK1.out.2; omega⟩)⟩
  have g8 : (t.k == 8) = false := beq_eq_false_iff_ne.2 h8
  by_cases h9 : t.k = 9
  · have g9 : (t.k == 9) = true := beq_iff_eq.2 h9
    have HE0 : Hid (lnkf t = (ordp t.ks (min t.ks.length t.is.length)).flatMap (lnx t)) := by
      show _ = _
      rw [lnkf_n h7 (.inr h9)]
      unfold pls
      rw [if_neg h8]
    have HV0 : Hid (∀ j u, cs[j]? = some u → (w.alloc (.cells cs 30)).cell? ⟨w.heap.size, 0 + j, none⟩ = some u) := fun j u hu => by rw [Nat.zero_add]; exact blk_cell HG0.out.r hu
    clear h7 h8 h9
    go_enter Tryd.func52, Tryd.ntmps52
    go_wp2_with (refine wpList_valAt rfl rfl w.heap.size 0 cs rfl HSZ.out HV0.out ?_)
    refine (order6_any t _ cs ((HT0.out.move (keep_below HB0.out)).move (keep_below (below_alloc4 w _))) (by have := HML.out; omega)).mono ?_
    rintro e w2 ⟨vp, ps, rfl, hpo, hsp, hop, hb2⟩
    have HE : Hid (lnkf t = ps.flatMap (lnx t)) := by show _ = _; rw [HE0.out, hpo]
    clear hpo HE0
    have HSP := hide hsp
    have hpl : ps.length ≤ 100000 := by have := hsp.len; have := HML.out; omega
    have hi2 := ISl.own hop rfl (by omega)
    have e1 : (w.alloc (.cells cs 30)).heap.size = w.heap.size + 1 := by simp
    have HK1 : Hid (Kp (fun q => (Value.slice ax rs.length cx).ownBlock = some q) w w2 ∧ w.heap.size < w2.heap.size) := ⟨(Kp.of_below (below_alloc4 w _)).trans (Kp.of_below hb2) (fun _ _ h => h), by have := hb2.size; omega⟩
    have HB1 : Hid (Below w0.heap.size w0 w2) := (HB0.out.trans ((below_alloc4 w _).mono HB0.out.size)).trans (hb2.mono (by have := HB0.out.size; omega))
    have hpg : ∀ q, vp.ownBlock = some q → w.heap.size < q := fun q hq => by
      have := hop.lt q hq
      omega
    obtain ⟨⟨pa, pc, rfl, _, hpf⟩, _⟩ := hi2
    have HPG : Hid (∀ q, (Value.slice pa ps.length pc).ownBlock = some q → w.heap.size < q) := hpg
    have HPF := hide hpf
    have HG1 : Hid (Gth w2 w2 w.heap.size cs w0.heap.size (.slice ax rs.length cx) (.slice ax rs.length cx) rs) := ⟨(Kp.of_below (S := fun _ => False) hb2).owns HG0.out.o (fun _ _ h => h), Kp.refl _ _, (hb2.block _ (by omega)).trans HG0.out.r, .inl rfl⟩
    clear hsp hop hb2 hpf hpg e1 HG0 HV0 q0
    go_wp2_with fail
    go_loopw [0, 36] (fun vv ii wx => ∃ i : Nat, i ≤ ps.length ∧ ii = .int .i64 (i : Nat) ∧ Hid (Gth w2 wx w.heap.size cs w0.heap.size (.slice ax rs.length cx) vv (rs ++ (ps.take i).flatMap (lnx t)))) (fun _ ii _ => ps.length - (intOf ii).toNat)
    case atStart => exact ⟨0, by omega, rfl, by simpa using HG1⟩
    case round =>
      obtain ⟨i, hi, rfl, HG⟩ := hrel
      clear HG1
      obtain ⟨bx, dx, hux⟩ := own_slice HG.out.o
      subst hux
      have HBW := hide (HG.out.below HB1.out (fun q hq => (HVB.out q hq).1))
      by_cases hlt : i < ps.length
      · as_aux_lemma =>
        have g1 : (i : Int) < (ps.length : Int) := by omega
        obtain ⟨p, hp⟩ : ∃ p, ps[i]? = some p := ⟨ps[i], List.getElem?_eq_getElem hlt⟩
        have hpl := HSP.out.lt p (List.mem_of_getElem? hp)
        have hp2 : p < t.is.length := by omega
        obtain ⟨u, hu⟩ : ∃ u, t.is[p]? = some u := ⟨t.is[p], List.getElem?_eq_getElem hp2⟩
        obtain ⟨b, off, rfl, hcells⟩ := HF.out.resolve_left (fun h => by rw [h] at hp2; simp at hp2)
        obtain ⟨cu, hcu, hcc⟩ := hcells p u hu
        obtain ⟨b1, off1, rfl, hc1⟩ := HPF.out.resolve_left (fun h => by rw [h] at hlt; simp at hlt)
        have HCC : Hid (∀ j x, cu[j]? = some x → wr.cell? ⟨b, off + p * 13 + j, none⟩ = some x) := fun j x hx => keep_below HBW.out _ _ (hcc j x hx)
        have hmem := List.mem_of_getElem? hu
        have HZ1 := hide hcu.size13
        have c1 : wr.cell? ⟨b1, off1 + i, none⟩ = some (.int .i64 (p : Nat)) := HG.out.k.cell (hc1 i p hp) (fun e => by have h1 := HVB.out b1 e; have h2 := HPG.out b1 rfl; omega)
        have c12 : wr.cell? ⟨w.heap.size, 12, none⟩ = some (.slice (some ⟨b, off, none⟩) t.is.length ci) := blk_cell HG.out.r HC12.out
        have g2 : (p : Int) < (t.is.length : Int) := by omega
        have hfl : (ps.take (i + 1)).flatMap (lnx t) = (ps.take i).flatMap (lnx t) ++ lnkf u := by rw [flat_take hp, lnx_at hu]
        have hle := flat_le (t := t) (ps := ps) (i + 1)
        have HCA := hide (HIH.out u hmem w0 cu hcu (Nat.le_trans (tmuchL_mem hmem) HML.out.1) wr _ _ HBW.out HG.out.o (by
          have h1 := HLN.out
          rw [HE.out, List.length_append] at h1
          rw [List.append_assoc, ← hfl, List.length_append]
          omega))
        rw [List.append_assoc, ← hfl] at HCA
        have HGI := hide HG.out
        clear hu hcells hcu hcc hmem hfl hle hc1 hp HG
        generalize hnn : (rs ++ (ps.take i).flatMap (lnx t)).length = nn at *
        clear hnn
        go_wp2_with (refine wpList_valAt rfl rfl b (off + p * 13) cu rfl HZ1.out HCC.out ?_)
        refine HCA.out.mono ?_
        rintro e w5 ⟨v5, rfl, ho5, hk5, hq5⟩
        have HG5 := hide (HGI.out.step (by have := HK1.out.2; omega) (fun q hq e => by have := HVB.out q hq; omega) ho5 hk5 hq5)
        clear ho5 hk5 hq5 HCA HGI HCC c1 c12
        go_wp2_with fail
        go_roundw
        case rel => exact ⟨i + 1, by omega, by go_num, HG5⟩
        case measure => simp [intOf]; omega
      · as_aux_lemma =>
        have g1 : ¬ (i : Int) < (ps.length : Int) := by omega
        have hL : i = ps.length := by omega
        have HGE : Hid (Gth w2 wr w.heap.size cs w0.heap.size (.slice ax rs.length cx) (.slice bx (rs ++ (ps.take i).flatMap (lnx t)).length dx) (rs ++ lnkf t)) := by
          have h := HG.out
          rw [HE.out]
          have e : ps.take i = ps := List.take_of_length_le (by omega)
          rw [e] at h ⊢
          exact h
        clear HG
        generalize (rs ++ (ps.take i).flatMap (lnx t)).length = nn at *
        go_wp2_with fail
        go_ret
        exact ⟨_, rfl, by first | exact HGE.out.o | (have h := HGE.out.o; rw [List.length_append] at h; exact h), HK1.out.1.trans HGE.out.k (fun _ _ h => h), HGE.out.q.imp id (fun ⟨q, h1, h2⟩ => ⟨q, h1, by have := HK1.out.2; omega⟩)⟩
  · as_aux_lemma =>
    have g9 : (t.k == 9) = false := beq_eq_false_iff_ne.2 h9
    have HE : Hid (lnkf t = []) := lnkf_0 h7 (fun h => h.elim h8 h9)
    clear h7 h8 h9
    go_enter Tryd.func52, Tryd.ntmps52
    go_wp2_with fail
    go_ret
    exact ⟨_, rfl, by rw [HE.out, List.append_nil]; exact HG0.out.o, HG0.out.k, .inl rfl⟩
theorem gathered_any (t : Tv) : GatC t := by
  have h : ∀ N, ∀ t : Tv, SizeOf.sizeOf t = N → GatC t := by
    intro N
    induction N using Nat.strongRecOn with
    | _ N ih => exact fun t hN => gathered_step t (fun u hu => ih _ (by rw [← hN]; exact Tv.is_lt hu) u rfl)
  exact h _ t rfl
end
section
open Go.RowKit Go
theorem sum_range (is : List Tv) (g : Nat → Nat) (hg : ∀ p u, is[p]? = some u → g p ≤ tmuch u) : ∀ n, n ≤ is.length → ((List.range n).map g).sum ≤ tmuchL (is.take n)
  | 0, _ => by simp
  | n + 1, h => by
    have ih := sum_range is g hg n (by omega)
    have hu := List.getElem?_eq_getElem (show n < is.length by omega)
    have h1 := hg n _ hu
    rw [List.range_succ, List.map_append, List.sum_append, takeT _ _ _ hu, tmuchL_app]
    have e : tmuchL [is[n]] = tmuch is[n] := by rw [tmuchL, tmuchL]; omega
    rw [e]
    simp
    omega
theorem tmuchL_take (is : List Tv) (n : Nat) : tmuchL (is.take n) ≤ tmuchL is := by
  have h : tmuchL is = tmuchL (is.take n) + tmuchL (is.drop n) := by rw [← tmuchL_app, List.take_append_drop]
  omega
theorem pls_perm (t : Tv) : ∃ n, n ≤ t.is.length ∧ (pls t).Perm (List.range n) := by
  unfold pls
  by_cases h : t.k = 8
  · rw [if_pos h]
    exact ⟨_, Nat.le_refl _, List.Perm.refl _⟩
  · rw [if_neg h]
    exact ⟨_, by omega, (ordp_srp t.ks (min t.ks.length t.is.length)).p⟩
/-- No more links than parts. -/
theorem lnkf_le (t : Tv) : (lnkf t).length ≤ tmuch t := by
  have h : ∀ N, ∀ t : Tv, SizeOf.sizeOf t = N → (lnkf t).length ≤ tmuch t := by
    intro N
    induction N using Nat.strongRecOn with
    | _ N ih =>
      intro t hN
      have hme := tmuch_eq t
      by_cases h7 : t.k = 7
      · rw [lnkf_7 h7]
        simp
        omega
      · by_cases h8 : t.k = 8 ∨ t.k = 9
        · rw [lnkf_n h7 h8]
          obtain ⟨n, hn, hp⟩ := pls_perm t
          have e : ((pls t).flatMap (lnx t)).length = ((pls t).map (fun p => (lnx t p).length)).sum := by rw [List.length_flatMap]
          have e2 : ((pls t).map (fun p => (lnx t p).length)).sum = ((List.range n).map (fun p => (lnx t p).length)).sum := (hp.map _).sum_nat
          rw [e, e2]
          have h1 := sum_range t.is (fun p => (lnx t p).length) (fun p u hu => by
            rw [lnx_at hu]
            exact ih _ (by rw [← hN]; exact Tv.is_lt (List.mem_of_getElem? hu)) u rfl) n hn
          have h2 := tmuchL_take t.is n
          omega
        · rw [lnkf_0 h7 h8]
          simp
  exact h _ t rfl
set_option maxRecDepth 1000000 in
theorem links6_any (t : Tv) (w : World) (cs : Array Value) (ht : Tin w t cs) (hm : tmuch t ≤ 100000) : Calls Tryd.prog 24 #[.agg cs] w fun e w' => ∃ v', e = .returned v' ∧ w'.ownsRow w.heap.size 27 4 v' (lnkf t).length (fcl (lnkf t)) ∧ Below w.heap.size w w' := by
  have HTN := hide ht
  have HSZ := hide ht.size13
  have HQ0 : Hid (Aln w (w.alloc (.cells cs 30)) cs) := box_mk0 w _
  have HV0 := hide HQ0.out.va
  have HLE := hide (Nat.le_trans (lnkf_le t) hm)
  have HMM := hide hm
  clear ht hm
  have HCA := hide (gathered_any t w cs HTN.out HMM.out (w.alloc (.cells cs 30)) (.slice none 0 0) [] HQ0.out.1 (World.ownsRow_nil _ _ _ _) (by have := HLE.out; rw [List.nil_append]; omega))
  go_enter Tryd.func24, Tryd.ntmps24
  go_wp2_with (refine wpList_valAt rfl rfl w.heap.size 0 cs rfl HSZ.out HV0.out ?_)
  refine HCA.out.mono ?_
  rintro e w1 ⟨v1, rfl, ho, hk, _⟩
  rw [List.nil_append] at ho
  have HO := hide ho
  have HB1 : Hid (Below w.heap.size w w1) := HQ0.out.1.trans ((hk.below (Nat.le_refl _) (fun q h => by cases h)).mono HQ0.out.1.size)
  clear ho hk HCA HQ0 HV0
  go_wp2_with fail
  go_ret
  exact ⟨_, rfl, HO.out, HB1.out⟩
end
section
open Go.RowKit Go
/-! Sorted values once more: one sorted value, its depth, its links; values with maps' entries in another order. -/
theorem tv_ext {a b : Tv} (h : Top a b) (hk : a.ks = b.ks) (hi : a.is = b.is) : a = b := by
  obtain ⟨k, f, g, n, c, s, y, l, ks, is⟩ := a
  obtain ⟨k', f', g', n', c', s', y', l', ks', is'⟩ := b
  obtain ⟨h1, h2, h3, h4, h5, h6, h7, h8⟩ := h
  simp only [Tv.k, Tv.f, Tv.g, Tv.n, Tv.b, Tv.s, Tv.y, Tv.l, Tv.ks, Tv.is] at *
  subst h1 h2 h3 h4 h5 h6 h7 h8 hk hi
  rfl
theorem Top.both {t a b : Tv} (h : Top t a) (h' : Top t b) : Top a b := ⟨h'.k.trans h.k.symm, h'.f.trans h.f.symm, h'.g.trans h.g.symm, h'.n.trans h.n.symm, h'.b.trans h.b.symm, h'.s.trans h.s.symm, h'.y.trans h.y.symm, h'.l.trans h.l.symm⟩
theorem srt_len {t s : Tv} (h : SrtR t s) (ht : Trk t) : s.is.length = t.is.length := by
  cases h with
  | rest _ _ h9 _ _ hn _ => exact hn
  | map _ _ ps h9 _ hp _ hn _ =>
    have h1 := (ht.m h9).1
    rw [hn, hp.len]
    omega
/-- There is one sorted value. -/
theorem srt_one {t s : Tv} (h : SrtR t s) : ∀ {s' : Tv}, Trk t → SrtR t s' → s = s' := by
  induction h with
  | rest t s h9 hT hk hn hi ih =>
    intro s' ht h'
    cases h' with
    | map _ _ _ h9' => exact absurd h9' h9
    | rest _ _ _ hT' hk' hn' hi' =>
      refine tv_ext (hT.both hT') (hk.trans hk'.symm) (List.ext_getElem? fun i => ?_)
      by_cases hl : i < t.is.length
      · have e1 := List.getElem?_eq_getElem hl
        have e2 := List.getElem?_eq_getElem (show i < s.is.length by omega)
        have e3 := List.getElem?_eq_getElem (show i < s'.is.length by omega)
        rw [e2, e3, ih i _ _ e1 e2 (ht.i _ (List.getElem_mem hl)) (hi' i _ _ e1 e3)]
      · rw [List.getElem?_eq_none (by omega), List.getElem?_eq_none (by omega)]
  | map t s ps h9 hT hp hk hn hi ih =>
    intro s' ht h'
    cases h' with
    | rest _ _ h9' => exact absurd h9 h9'
    | map _ _ ps' _ hT' hp' hk' hn' hi' =>
      obtain ⟨hlen, hnd, _⟩ := ht.m h9
      have e := srp_one hnd (by omega) hp hp'
      subst e
      refine tv_ext (hT.both hT') (hk.trans hk'.symm) (List.ext_getElem? fun i => ?_)
      by_cases hl : i < ps.length
      · have e0 := List.getElem?_eq_getElem hl
        have hpl := hp.lt ps[i] (List.getElem_mem hl)
        have e1 := List.getElem?_eq_getElem (show ps[i] < t.is.length by omega)
        have e2 := List.getElem?_eq_getElem (show i < s.is.length by omega)
        have e3 := List.getElem?_eq_getElem (show i < s'.is.length by omega)
        rw [e2, e3, ih i _ _ _ e0 e1 e2 (ht.i _ (List.getElem_mem _)) (hi' i _ _ _ e0 e1 e3)]
      · rw [List.getElem?_eq_none (by omega), List.getElem?_eq_none (by omega)]
theorem depthL_le {l : List Tv} {N : Nat} : tdepthL l ≤ N ↔ ∀ (i : Nat) (u : Tv), l[i]? = some u → tdepth u ≤ N := by
  induction l with
  | nil => simp [tdepthL]
  | cons a r ih =>
    rw [tdepthL, Nat.max_le, ih]
    constructor
    · rintro ⟨h1, h2⟩ i u hu
      rcases i with _ | i
      · simp at hu
        rw [← hu]
        exact h1
      · exact h2 i u (by simpa using hu)
    · intro h
      exact ⟨h 0 a rfl, fun i u hu => h (i + 1) u (by simpa using hu)⟩
theorem depth_eq (t : Tv) : tdepth t = if t.k = 8 ∨ t.k = 9 then tdepthL t.is + 1 else 0 := by
  obtain ⟨k, f, g, n, b, s, y, l, ks, is⟩ := t
  rw [tdepth]
  rfl
theorem eq_of_le {a b : Nat} (h : ∀ N, a ≤ N ↔ b ≤ N) : a = b := Nat.le_antisymm ((h b).2 (Nat.le_refl _)) ((h a).1 (Nat.le_refl _))
theorem perm_at {n : Nat} {ps : List Nat} (h : ps.Perm (List.range n)) {p : Nat} (hp : p < n) : ∃ i : Nat, ps[i]? = some p := by
  have h1 : p ∈ ps := h.mem_iff.2 (by simpa using hp)
  exact List.getElem?_of_mem h1
theorem perm_len {n : Nat} {ps : List Nat} (h : ps.Perm (List.range n)) : ps.length = n := by rw [h.length_eq, List.length_range]
theorem perm_lt {n : Nat} {ps : List Nat} (h : ps.Perm (List.range n)) {i p : Nat} (hp : ps[i]? = some p) : p < n := by simpa using h.mem_iff.1 (List.mem_of_getElem? hp)
theorem srt_depth {t s : Tv} (h : SrtR t s) : Trk t → tdepth s = tdepth t := by
  induction h with
  | rest t s h9 hT hk hn hi ih =>
    intro ht
    rw [depth_eq, depth_eq, hT.k]
    have e : tdepthL s.is = tdepthL t.is := by
      refine eq_of_le fun N => ?_
      rw [depthL_le, depthL_le]
      constructor
      · intro h i u hu
        have hl := (List.getElem?_eq_some_iff.1 hu).1
        have e2 := List.getElem?_eq_getElem (show i < s.is.length by omega)
        rw [← ih i _ _ hu e2 (ht.i _ (List.mem_of_getElem? hu))]
        exact h i _ e2
      · intro h i v hv
        have hl := (List.getElem?_eq_some_iff.1 hv).1
        have e2 := List.getElem?_eq_getElem (show i < t.is.length by omega)
        rw [ih i _ _ e2 hv (ht.i _ (List.mem_of_getElem? e2))]
        exact h i _ e2
    rw [e]
  | map t s ps h9 hT hp hk hn hi ih =>
    intro ht
    obtain ⟨hlen, _⟩ := ht.m h9
    have hpl := hp.len
    rw [depth_eq, depth_eq, hT.k]
    have e : tdepthL s.is = tdepthL t.is := by
      refine eq_of_le fun N => ?_
      rw [depthL_le, depthL_le]
      constructor
      · intro h p u hu
        have hl := (List.getElem?_eq_some_iff.1 hu).1
        obtain ⟨i, hi2⟩ := perm_at hp.p (show p < min t.ks.length t.is.length by omega)
        have hil := (List.getElem?_eq_some_iff.1 hi2).1
        have e2 := List.getElem?_eq_getElem (show i < s.is.length by omega)
        rw [← ih i p _ _ hi2 hu e2 (ht.i _ (List.mem_of_getElem? hu))]
        exact h i _ e2
      · intro h i v hv
        have hl := (List.getElem?_eq_some_iff.1 hv).1
        have hil := List.getElem?_eq_getElem (show i < ps.length by omega)
        have hlt := perm_lt hp.p hil
        have e2 := List.getElem?_eq_getElem (show ps[i] < t.is.length by omega)
        rw [ih i _ _ _ hil e2 hv (ht.i _ (List.mem_of_getElem? e2))]
        exact h _ _ e2
    rw [e]
theorem flat_eq {a b : Tv} {ps qs : List Nat} (hn : ps.length = qs.length) (h : ∀ (i p q : Nat), ps[i]? = some p → qs[i]? = some q → lnx a p = lnx b q) : ps.flatMap (lnx a) = qs.flatMap (lnx b) := by
  rw [List.flatMap, List.flatMap]
  congr 1
  refine List.ext_getElem? fun i => ?_
  rw [List.getElem?_map, List.getElem?_map]
  by_cases hl : i < ps.length
  · have e1 := List.getElem?_eq_getElem hl
    have e2 := List.getElem?_eq_getElem (show i < qs.length by omega)
    rw [e1, e2, Option.map_some, Option.map_some, h i _ _ e1 e2]
  · rw [List.getElem?_eq_none (by omega), List.getElem?_eq_none (by omega)]
    rfl
theorem srp_sorted {ks : List ByteArray} {n : Nat} (h : ∀ (i j : Nat), i < j → j < n → bfr (sl (ks.getD j ⟨#[]⟩)) (sl (ks.getD i ⟨#[]⟩)) = false) : Srp ks n (List.range n) := by
  refine ⟨List.Perm.refl _, ?_⟩
  intro i j p q hij hp hq
  have h1 := (List.getElem?_eq_some_iff.1 hq).1
  rw [List.length_range] at h1
  rw [List.getElem?_range (by omega)] at hp hq
  injection hp with hp
  injection hq with hq
  subst hp hq
  exact h _ _ hij h1
theorem range_at {n i p : Nat} (h : (List.range n)[i]? = some p) : p = i := by
  have h1 := (List.getElem?_eq_some_iff.1 h).1
  rw [List.length_range] at h1
  rw [List.getElem?_range h1] at h
  injection h with h
  exact h.symm
theorem pls_srp {t : Tv} (h8 : t.k ≠ 8) : Srp t.ks (min t.ks.length t.is.length) (pls t) := by
  unfold pls
  rw [if_neg h8]
  exact ordp_srp _ _
theorem srt_links {t s : Tv} (h : SrtR t s) : Trk t → lnkf s = lnkf t := by
  induction h with
  | rest t s h9 hT hk hn hi ih =>
    intro ht
    by_cases h7 : t.k = 7
    · rw [lnkf_7 h7, lnkf_7 (hT.k.trans h7), hT.l]
    · by_cases h8 : t.k = 8
      · rw [lnkf_n h7 (.inl h8), lnkf_n (by rw [hT.k]; exact h7) (.inl (hT.k.trans h8))]
        unfold pls
        rw [if_pos h8, if_pos (hT.k.trans h8)]
        refine flat_eq (by simp [hn]) fun i p q hp hq => ?_
        rw [range_at hp, range_at hq]
        have h1 := (List.getElem?_eq_some_iff.1 hp).1
        rw [List.length_range] at h1
        have e1 := List.getElem?_eq_getElem h1
        have e2 := List.getElem?_eq_getElem (show i < t.is.length by omega)
        rw [lnx_at e1, lnx_at e2]
        exact ih i _ _ e2 e1 (ht.i _ (List.mem_of_getElem? e2))
      · rw [lnkf_0 h7 (by omega), lnkf_0 (by rw [hT.k]; exact h7) (by rw [hT.k]; omega)]
  | map t s ps h9 hT hp hk hn hi ih =>
    intro ht
    obtain ⟨hlen, hnd, _⟩ := ht.m h9
    have hpl := hp.len
    have hs := trk_srt (SrtR.map t s ps h9 hT hp hk hn hi) ht
    obtain ⟨slen, snd, _⟩ := hs.m (hT.k.trans h9)
    rw [lnkf_n (by omega) (.inr h9), lnkf_n (by rw [hT.k]; omega) (.inr (hT.k.trans h9))]
    have e1 : pls t = ps := srp_one hnd (by omega) (pls_srp (by omega)) hp
    have e2 : pls s = List.range s.is.length := by
      refine srp_one snd (by rw [slen]; omega) (pls_srp (by rw [hT.k]; omega)) ?_
      rw [show min s.ks.length s.is.length = s.is.length by omega]
      refine srp_sorted fun i j hij hj => ?_
      have a1 := List.getElem?_eq_getElem (show i < ps.length by omega)
      have a2 := List.getElem?_eq_getElem (show j < ps.length by omega)
      have b1 : s.ks.getD i ⟨#[]⟩ = t.ks.getD ps[i] ⟨#[]⟩ := by rw [hk, List.getD_eq_getElem?_getD, pickS_at a1]; rfl
      have b2 : s.ks.getD j ⟨#[]⟩ = t.ks.getD ps[j] ⟨#[]⟩ := by rw [hk, List.getD_eq_getElem?_getD, pickS_at a2]; rfl
      rw [b1, b2]
      exact hp.s i j _ _ hij a1 a2
    rw [e1, e2]
    refine flat_eq (by simp [hn]) fun i p q h1 h2 => ?_
    rw [range_at h1]
    have hil := (List.getElem?_eq_some_iff.1 h2).1
    have hlt := perm_lt hp.p h2
    have c1 := List.getElem?_eq_getElem (show i < s.is.length by omega)
    have c2 := List.getElem?_eq_getElem (show q < t.is.length by omega)
    rw [lnx_at c1, lnx_at c2]
    exact ih i q _ _ h2 c2 c1 (ht.i _ (List.mem_of_getElem? c2))
end
section
open Go.RowKit Go
/-- A value that passes is a tree. -/
theorem onef_0 {t : Tv} {a : Nat} (h : onef t a = 0) : ¬ ((t.k = 8 ∨ t.k = 9) ∧ 1024 ≤ a) ∧ tidyf t = true ∧ finb t.b = true ∧ (badb t.s || t.ks.any badb) = false ∧ ¬ (t.k = 7 ∧ ¬ lok t.l) ∧ ¬ (t.k = 9 ∧ ¬ (t.ks.length = t.is.length ∧ t.ks.Nodup)) := by
  unfold onef at h
  split at h
  · cases h
  · rename_i h1
    split at h
    · cases h
    · rename_i h2
      split at h
      · cases h
      · rename_i h3
        split at h
        · cases h
        · rename_i h4
          split at h
          · cases h
          · rename_i h5
            split at h
            · cases h
            · rename_i h6
              exact ⟨h1, by simpa using h2, by simpa using h3, by simpa using h4, h5, h6⟩
theorem chkL_all {l : List Tv} {a : Nat} (h : chkL l a = 0) : ∀ u ∈ l, chkf u a = 0 := by
  intro u hu
  obtain ⟨i, hi⟩ := List.getElem?_of_mem hu
  have key : ∀ N i : Nat, i < N → ∀ v, l[i]? = some v → chkf v a = 0 := by
    intro N
    induction N with
    | zero => intro i hi; omega
    | succ N ih =>
      intro i hi v hv
      rcases Nat.lt_or_ge i N with h1 | h1
      · exact ih i h1 v hv
      · rcases Nat.eq_zero_or_pos (chkf v a) with e | e
        · exact e
        · have := chkL_at (i := i) (fun j w hj hw => ih j (by omega) w hw) hv (by omega)
          omega
  exact key (i + 1) i (by omega) u hi
theorem chkf_0 {t : Tv} {a : Nat} (h : chkf t a = 0) : onef t a = 0 ∧ ∀ u ∈ t.is, chkf u (a + 1) = 0 := by
  rw [chkf_eq] at h
  split at h
  · rename_i h1
    exact ⟨h1, chkL_all h⟩
  · rename_i h1
    exact absurd h h1
theorem tidy_k {t : Tv} (h : tidyf t = true) : 1 ≤ t.k ∧ t.k ≤ 9 ∧ t.zr.cl = true := by
  unfold tidyf at h
  rw [Bool.and_eq_true, decide_eq_true_eq] at h
  exact ⟨h.1.1, h.1.2, h.2⟩
theorem cl_all {t : Tv} (h : t.cl = true) : t.f = false ∧ t.g = false ∧ t.n = 0 ∧ t.b = 0 ∧ t.s = ⟨#[]⟩ ∧ t.l = ⟨0, 0, 0, []⟩ ∧ t.y = [] ∧ t.ks = [] ∧ t.is = [] := by
  unfold Tv.cl at h
  simp only [Bool.and_eq_true, Bool.not_eq_true', decide_eq_true_eq, List.isEmpty_iff] at h
  exact h
theorem tidy_9 {t : Tv} (h : tidyf t = true) (h9 : t.k = 9) : t.f = false ∧ t.g = false ∧ t.n = 0 ∧ t.b = 0 ∧ t.s = ⟨#[]⟩ ∧ t.y = [] ∧ t.l = ⟨0, 0, 0, []⟩ := by
  have h1 := (tidy_k h).2.2
  have e : t.zr = .mk t.k t.f t.g t.n t.b t.s t.y t.l [] [] := by unfold Tv.zr; simp [h9]
  rw [e] at h1
  obtain ⟨a1, a2, a3, a4, a5, a6, a7, _⟩ := cl_all h1
  exact ⟨a1, a2, a3, a4, a5, a7, a6⟩
theorem tidy_ks {t : Tv} (h : tidyf t = true) (h9 : t.k ≠ 9) : t.ks = [] := by
  have h1 := (cl_all (tidy_k h).2.2).2.2.2.2.2.2.2.1
  have e : t.zr.ks = t.ks := by
    unfold Tv.zr
    rw [if_neg h9]
    repeat' split
    all_goals rfl
  rw [e] at h1
  exact h1
theorem tidy_is {t : Tv} (h : tidyf t = true) (h8 : t.k ≠ 8) (h9 : t.k ≠ 9) : t.is = [] := by
  have h1 := (cl_all (tidy_k h).2.2).2.2.2.2.2.2.2.2
  have e : t.zr.is = t.is := by
    unfold Tv.zr
    rw [if_neg h9, if_neg h8]
    repeat' split
    all_goals rfl
  rw [e] at h1
  exact h1
theorem chk_trk {t : Tv} {a : Nat} (h : chkf t a = 0) : Trk t := by
  have key : ∀ N, ∀ t : Tv, SizeOf.sizeOf t = N → ∀ a, chkf t a = 0 → Trk t := by
    intro N
    induction N using Nat.strongRecOn with
    | _ N ih =>
      intro t hN a h
      obtain ⟨h1, h2⟩ := chkf_0 h
      obtain ⟨_, htd, _, _, _, hks⟩ := onef_0 h1
      refine Trk.mk t (fun h9 => ?_) (fun h9 => tidy_ks htd h9) fun u hu => ih _ (by have := Tv.is_lt hu; omega) u rfl _ (h2 u hu)
      have h3 : t.ks.length = t.is.length ∧ t.ks.Nodup := by
        apply Classical.byContradiction
        intro hh
        exact hks ⟨h9, hh⟩
      exact ⟨h3.1, h3.2, tidy_9 htd h9⟩
  exact key _ t rfl a h

theorem cl_is {k : Int} {f g : Bool} {n b : Nat} {s : ByteArray} {y : List Nat} {l : Lk} {ks : List ByteArray} {is is' : List Tv} (he : is'.isEmpty = is.isEmpty) : (Tv.mk k f g n b s y l ks is').cl = (Tv.mk k f g n b s y l ks is).cl := by
  show (!f && (!g && (decide (n = 0) && (decide (b = 0) && (decide (s = ⟨#[]⟩) && (decide (l = ⟨0, 0, 0, []⟩) && (decide (y = []) && (decide (ks = []) && is'.isEmpty)))))))) = (!f && (!g && (decide (n = 0) && (decide (b = 0) && (decide (s = ⟨#[]⟩) && (decide (l = ⟨0, 0, 0, []⟩) && (decide (y = []) && (decide (ks = []) && is.isEmpty))))))))
  rw [he]
theorem tidy_top {t w : Tv} (hT : Top t w) (hk : w.ks = t.ks) (he : w.is.isEmpty = t.is.isEmpty) : tidyf w = tidyf t := by
  obtain ⟨k, f, g, n, b, s, y, l, ks, is⟩ := t
  obtain ⟨k', f', g', n', b', s', y', l', ks', is'⟩ := w
  obtain ⟨h1, h2, h3, h4, h5, h6, h7, h8⟩ := hT
  simp only [Tv.k, Tv.f, Tv.g, Tv.n, Tv.b, Tv.s, Tv.y, Tv.l, Tv.ks, Tv.is] at *
  subst h1 h2 h3 h4 h5 h6 h7 h8 hk
  have hz : (Tv.mk k' f' g' n' b' s' y' l' ks' is').zr.cl = (Tv.mk k' f' g' n' b' s' y' l' ks' is).zr.cl := by
    by_cases e2 : k' = 2
    · have z1 : (Tv.mk k' f' g' n' b' s' y' l' ks' is').zr = .mk k' false g' n' b' s' y' l' ks' is' := by unfold Tv.zr; simp [Tv.k, Tv.g, Tv.n, Tv.b, Tv.s, Tv.y, Tv.l, Tv.ks, Tv.is, e2]
      have z2 : (Tv.mk k' f' g' n' b' s' y' l' ks' is).zr = .mk k' false g' n' b' s' y' l' ks' is := by unfold Tv.zr; simp [Tv.k, Tv.g, Tv.n, Tv.b, Tv.s, Tv.y, Tv.l, Tv.ks, Tv.is, e2]
      rw [z1, z2, cl_is he]
    by_cases e3 : k' = 3
    · have z1 : (Tv.mk k' f' g' n' b' s' y' l' ks' is').zr = .mk k' f' false 0 b' s' y' l' ks' is' := by unfold Tv.zr; simp [Tv.k, Tv.f, Tv.b, Tv.s, Tv.y, Tv.l, Tv.ks, Tv.is, e3]
      have z2 : (Tv.mk k' f' g' n' b' s' y' l' ks' is).zr = .mk k' f' false 0 b' s' y' l' ks' is := by unfold Tv.zr; simp [Tv.k, Tv.f, Tv.b, Tv.s, Tv.y, Tv.l, Tv.ks, Tv.is, e3]
      rw [z1, z2, cl_is he]
    by_cases e4 : k' = 4
    · have z1 : (Tv.mk k' f' g' n' b' s' y' l' ks' is').zr = .mk k' f' g' n' 0 s' y' l' ks' is' := by unfold Tv.zr; simp [Tv.k, Tv.f, Tv.g, Tv.n, Tv.s, Tv.y, Tv.l, Tv.ks, Tv.is, e4]
      have z2 : (Tv.mk k' f' g' n' b' s' y' l' ks' is).zr = .mk k' f' g' n' 0 s' y' l' ks' is := by unfold Tv.zr; simp [Tv.k, Tv.f, Tv.g, Tv.n, Tv.s, Tv.y, Tv.l, Tv.ks, Tv.is, e4]
      rw [z1, z2, cl_is he]
    by_cases e5 : k' = 5
    · have z1 : (Tv.mk k' f' g' n' b' s' y' l' ks' is').zr = .mk k' f' g' n' b' ⟨#[]⟩ y' l' ks' is' := by unfold Tv.zr; simp [Tv.k, Tv.f, Tv.g, Tv.n, Tv.b, Tv.y, Tv.l, Tv.ks, Tv.is, e5]
      have z2 : (Tv.mk k' f' g' n' b' s' y' l' ks' is).zr = .mk k' f' g' n' b' ⟨#[]⟩ y' l' ks' is := by unfold Tv.zr; simp [Tv.k, Tv.f, Tv.g, Tv.n, Tv.b, Tv.y, Tv.l, Tv.ks, Tv.is, e5]
      rw [z1, z2, cl_is he]
    by_cases e6 : k' = 6
    · have z1 : (Tv.mk k' f' g' n' b' s' y' l' ks' is').zr = .mk k' f' g' n' b' s' [] l' ks' is' := by unfold Tv.zr; simp [Tv.k, Tv.f, Tv.g, Tv.n, Tv.b, Tv.s, Tv.l, Tv.ks, Tv.is, e6]
      have z2 : (Tv.mk k' f' g' n' b' s' y' l' ks' is).zr = .mk k' f' g' n' b' s' [] l' ks' is := by unfold Tv.zr; simp [Tv.k, Tv.f, Tv.g, Tv.n, Tv.b, Tv.s, Tv.l, Tv.ks, Tv.is, e6]
      rw [z1, z2, cl_is he]
    by_cases e7 : k' = 7
    · have z1 : (Tv.mk k' f' g' n' b' s' y' l' ks' is').zr = .mk k' f' g' n' b' s' y' ⟨0, 0, 0, []⟩ ks' is' := by unfold Tv.zr; simp [Tv.k, Tv.f, Tv.g, Tv.n, Tv.b, Tv.s, Tv.y, Tv.ks, Tv.is, e7]
      have z2 : (Tv.mk k' f' g' n' b' s' y' l' ks' is).zr = .mk k' f' g' n' b' s' y' ⟨0, 0, 0, []⟩ ks' is := by unfold Tv.zr; simp [Tv.k, Tv.f, Tv.g, Tv.n, Tv.b, Tv.s, Tv.y, Tv.ks, Tv.is, e7]
      rw [z1, z2, cl_is he]
    by_cases e8 : k' = 8
    · have z1 : (Tv.mk k' f' g' n' b' s' y' l' ks' is').zr = .mk k' f' g' n' b' s' y' l' ks' [] := by unfold Tv.zr; simp [Tv.k, Tv.f, Tv.g, Tv.n, Tv.b, Tv.s, Tv.y, Tv.l, Tv.ks, e8]
      have z2 : (Tv.mk k' f' g' n' b' s' y' l' ks' is).zr = .mk k' f' g' n' b' s' y' l' ks' [] := by unfold Tv.zr; simp [Tv.k, Tv.f, Tv.g, Tv.n, Tv.b, Tv.s, Tv.y, Tv.l, Tv.ks, e8]
      rw [z1, z2]
    by_cases e9 : k' = 9
    · have z1 : (Tv.mk k' f' g' n' b' s' y' l' ks' is').zr = .mk k' f' g' n' b' s' y' l' [] [] := by unfold Tv.zr; simp [Tv.k, Tv.f, Tv.g, Tv.n, Tv.b, Tv.s, Tv.y, Tv.l, e9]
      have z2 : (Tv.mk k' f' g' n' b' s' y' l' ks' is).zr = .mk k' f' g' n' b' s' y' l' [] [] := by unfold Tv.zr; simp [Tv.k, Tv.f, Tv.g, Tv.n, Tv.b, Tv.s, Tv.y, Tv.l, e9]
      rw [z1, z2]
    have z1 : (Tv.mk k' f' g' n' b' s' y' l' ks' is').zr = .mk k' f' g' n' b' s' y' l' ks' is' := by unfold Tv.zr; simp [Tv.k, e2, e3, e4, e5, e6, e7, e8, e9]
    have z2 : (Tv.mk k' f' g' n' b' s' y' l' ks' is).zr = .mk k' f' g' n' b' s' y' l' ks' is := by unfold Tv.zr; simp [Tv.k, e2, e3, e4, e5, e6, e7, e8, e9]
    rw [z1, z2, cl_is he]
  unfold tidyf
  rw [hz]
  rfl
/-! Maps' entries in another order. -/
inductive Trn : Tv → Tv → Prop
  | rest (t w : Tv) (h9 : t.k ≠ 9) (ht : Top t w) (hk : w.ks = t.ks) (hn : w.is.length = t.is.length) (hi : ∀ (i : Nat) (u v : Tv), t.is[i]? = some u → w.is[i]? = some v → Trn u v) : Trn t w
  | map (t w : Tv) (ps : List Nat) (h9 : t.k = 9) (ht : Top t w) (hp : ps.Perm (List.range t.is.length)) (hk : w.ks = pickS t.ks ps) (hn : w.is.length = t.is.length) (hi : ∀ (i p : Nat) (u v : Tv), ps[i]? = some p → t.is[p]? = some u → w.is[i]? = some v → Trn u v) : Trn t w
theorem pickS_perm {ks : List ByteArray} {ps : List Nat} {n : Nat} (hn : ks.length = n) (hp : ps.Perm (List.range n)) : (pickS ks ps).Perm ks := by
  have h1 : (pickS ks ps).Perm (pickS ks (List.range ks.length)) := by
    unfold pickS
    rw [hn]
    exact hp.map _
  rw [pickS_range] at h1
  exact h1
theorem trn_trk {t w : Tv} (h : Trn t w) : Trk t → Trk w := by
  induction h with
  | rest t w h9 hT hk hn hi ih =>
    intro ht
    refine Trk.mk w (fun h => absurd (hT.k.symm.trans h) h9) (fun _ => hk.trans (ht.e h9)) fun v hv => ?_
    obtain ⟨i, hv⟩ := List.getElem?_of_mem hv
    have hl := (List.getElem?_eq_some_iff.1 hv).1
    have e := List.getElem?_eq_getElem (show i < t.is.length by omega)
    exact ih i _ _ e hv (ht.i _ (List.mem_of_getElem? e))
  | map t w ps h9 hT hp hk hn hi ih =>
    intro ht
    obtain ⟨hlen, hnd, h1, h2, h3, h4, h5, h6, h7⟩ := ht.m h9
    refine Trk.mk w (fun _ => ⟨?_, ?_, hT.f.trans h1, hT.g.trans h2, hT.n.trans h3, hT.b.trans h4, hT.s.trans h5, hT.y.trans h6, hT.l.trans h7⟩) (fun h => absurd (hT.k.trans h9) h) fun v hv => ?_
    · rw [hk, pickS_len, perm_len hp, hn]
    · rw [hk]
      exact (pickS_perm hlen hp).nodup_iff.2 hnd
    · obtain ⟨i, hv⟩ := List.getElem?_of_mem hv
      have hl := (List.getElem?_eq_some_iff.1 hv).1
      have hpl := perm_len hp
      have e0 := List.getElem?_eq_getElem (show i < ps.length by omega)
      have hlt := perm_lt hp e0
      have e := List.getElem?_eq_getElem hlt
      exact ih i _ _ _ e0 e hv (ht.i _ (List.mem_of_getElem? e))
theorem trn_chk {t w : Tv} (h : Trn t w) : ∀ {a : Nat}, chkf t a = 0 → chkf w a = 0 := by
  induction h with
  | rest t w h9 hT hk hn hi ih =>
    intro a h
    obtain ⟨h1, h2⟩ := chkf_0 h
    obtain ⟨c1, c2, c3, c4, c5, c6⟩ := onef_0 h1
    rw [chkf_eq]
    have e : onef w a = 0 := by
      have hz : tidyf w = true := by
        have he : w.is = [] ↔ t.is = [] := by
          rw [← List.length_eq_zero_iff, ← List.length_eq_zero_iff, hn]
        have hie : w.is.isEmpty = t.is.isEmpty := by rw [Bool.eq_iff_iff, List.isEmpty_iff, List.isEmpty_iff, he]
        exact (tidy_top hT hk hie).trans c2
      unfold onef
      rw [hT.k, hz, hT.b, c3, hT.s, hk, c4, hT.l, if_neg c1, if_neg (by simp), if_neg (by simp), if_neg (by simp), if_neg c5, if_neg (fun h => h9 h.1)]
    rw [if_pos e]
    refine chkL_none fun v hv => ?_
    obtain ⟨i, hv⟩ := List.getElem?_of_mem hv
    have hl := (List.getElem?_eq_some_iff.1 hv).1
    have e2 := List.getElem?_eq_getElem (show i < t.is.length by omega)
    exact ih i _ _ e2 hv (h2 _ (List.mem_of_getElem? e2))
  | map t w ps h9 hT hp hk hn hi ih =>
    intro a h
    obtain ⟨h1, h2⟩ := chkf_0 h
    obtain ⟨c1, c2, c3, c4, c5, c6⟩ := onef_0 h1
    have htk := chk_trk h
    obtain ⟨hlen, hnd, _⟩ := htk.m h9
    have hpm := pickS_perm hlen hp
    rw [chkf_eq]
    have e : onef w a = 0 := by
      have hz : tidyf w = true := by
        obtain ⟨b1, b2, b3, b4, b5, b6, b7⟩ := tidy_9 c2 h9
        have ez : w.zr = .mk w.k w.f w.g w.n w.b w.s w.y w.l [] [] := by unfold Tv.zr; simp [hT.k, h9]
        unfold tidyf
        rw [ez, hT.k, hT.f, hT.g, hT.n, hT.b, hT.s, hT.y, hT.l, b1, b2, b3, b4, b5, b6, b7, h9]
        decide
      have hb : w.ks.any badb = t.ks.any badb := by rw [hk]; exact hpm.any_eq
      unfold onef
      rw [hT.k, hz, hT.b, c3, hT.s, hb, c4, hT.l, if_neg c1, if_neg (by simp), if_neg (by simp), if_neg (by simp), if_neg c5, if_neg (fun h => h.2 ⟨by rw [hk, pickS_len, perm_len hp, hn], by rw [hk]; exact hpm.nodup_iff.2 hnd⟩)]
    rw [if_pos e]
    refine chkL_none fun v hv => ?_
    obtain ⟨i, hv⟩ := List.getElem?_of_mem hv
    have hl := (List.getElem?_eq_some_iff.1 hv).1
    have hpl := perm_len hp
    have e0 := List.getElem?_eq_getElem (show i < ps.length by omega)
    have hlt := perm_lt hp e0
    have e2 := List.getElem?_eq_getElem hlt
    exact ih i _ _ _ e0 e2 hv (h2 _ (List.mem_of_getElem? e2))
/-- Turned values are sorted alike. -/
theorem trn_srt {t s : Tv} (h : SrtR t s) : ∀ {w : Tv}, Trk t → Trn t w → SrtR w s := by
  induction h with
  | rest t s h9 hT hk hn hi ih =>
    intro w ht h'
    cases h' with
    | map _ _ _ h9' => exact absurd h9' h9
    | rest _ _ _ hT' hk' hn' hi' =>
      refine SrtR.rest w s (by rw [hT'.k]; exact h9) (hT'.both hT) (hk.trans hk'.symm) (hn.trans hn'.symm) fun i u v hu hv => ?_
      have hl := (List.getElem?_eq_some_iff.1 hu).1
      have e := List.getElem?_eq_getElem (show i < t.is.length by omega)
      exact ih i _ _ e hv (ht.i _ (List.mem_of_getElem? e)) (hi' i _ _ e hu)
  | map t s ps h9 hT hp hk hn hi ih =>
    intro w ht h'
    cases h' with
    | rest _ _ h9' => exact absurd h9 h9'
    | map _ _ pt _ hT' hp' hk' hn' hi' =>
      obtain ⟨hlen, hnd, _⟩ := ht.m h9
      have hmin : min t.ks.length t.is.length = t.is.length := by omega
      rw [hmin] at hp
      have hpl := hp.len
      have hptl := perm_len hp'
      have hwk : w.ks.length = w.is.length := by rw [hk', pickS_len, hptl, hn']
      have hat : ∀ {p}, p < t.is.length → pt[pt.idxOf p]? = some p := fun {p} hpp => by
        have hm : p ∈ pt := hp'.mem_iff.2 (by simpa using hpp)
        rw [List.getElem?_eq_getElem (List.idxOf_lt_length_of_mem hm)]
        simp
      have hkey : ∀ {p}, p < t.is.length → w.ks.getD (pt.idxOf p) ⟨#[]⟩ = t.ks.getD p ⟨#[]⟩ := fun {p} hpp => by
        rw [hk', List.getD_eq_getElem?_getD, pickS_at (hat hpp)]
        rfl
      have hlt : ∀ {p}, p < t.is.length → pt.idxOf p < t.is.length := fun {p} hpp => by
        have := (List.getElem?_eq_some_iff.1 (hat hpp)).1
        omega
      have hnp : ps.Nodup := hp.p.nodup_iff.2 List.nodup_range
      have hqs : (ps.map fun p => pt.idxOf p).Perm (List.range t.is.length) := by
        have hnq : (ps.map fun p => pt.idxOf p).Nodup := by
          rw [List.nodup_iff_pairwise_ne, List.pairwise_map]
          refine hnp.imp_of_mem ?_
          intro a b ha hb hab e
          have e1 := hat (hp.lt a ha)
          have e2 := hat (hp.lt b hb)
          rw [e, e2] at e1
          injection e1 with e1
          exact hab e1.symm
        refine (List.perm_ext_iff_of_nodup hnq List.nodup_range).2 fun q => ?_
        rw [List.mem_range, List.mem_map]
        constructor
        · rintro ⟨p, hpm, rfl⟩
          exact hlt (hp.lt p hpm)
        · intro hq
          have hq2 : q < pt.length := by omega
          have hpp := perm_lt hp' (List.getElem?_eq_getElem hq2)
          refine ⟨pt[q], hp.p.mem_iff.2 (by simpa using hpp), ?_⟩
          exact (hp'.nodup_iff.2 List.nodup_range).idxOf_getElem q hq2
      refine SrtR.map w s (ps.map fun p => pt.idxOf p) (hT'.k.trans h9) (hT'.both hT) ?_ ?_ ?_ ?_
      · rw [show min w.ks.length w.is.length = t.is.length by omega]
        refine ⟨hqs, ?_⟩
        intro i j p q hij hpi hqj
        rw [List.getElem?_map] at hpi hqj
        obtain ⟨a, ha, rfl⟩ := Option.map_eq_some_iff.1 hpi
        obtain ⟨b, hb, rfl⟩ := Option.map_eq_some_iff.1 hqj
        rw [hkey (hp.lt a (List.mem_of_getElem? ha)), hkey (hp.lt b (List.mem_of_getElem? hb))]
        exact hp.s i j a b hij ha hb
      · rw [hk]
        unfold pickS
        rw [List.map_map]
        refine List.map_congr_left fun p hpm => ?_
        exact (hkey (hp.lt p hpm)).symm
      · rw [hn, List.length_map]
      · intro i q u v hq hu hv
        rw [List.getElem?_map] at hq
        obtain ⟨p, hpi, rfl⟩ := Option.map_eq_some_iff.1 hq
        have hpp := hp.lt p (List.mem_of_getElem? hpi)
        have e := List.getElem?_eq_getElem hpp
        exact ih i p _ v hpi e hv (ht.i _ (List.mem_of_getElem? e)) (hi' _ p _ u (hat hpp) e hu)
end
section
open Go.RowKit Go
theorem tidy_4 {t : Tv} (h : tidyf t = true) (h4 : t.k ≠ 4) : finb t.b = true := by
  have h1 := (cl_all (tidy_k h).2.2).2.2.2.1
  have e : t.zr.b = t.b := by
    unfold Tv.zr
    repeat' split
    all_goals first | rfl | (exfalso; omega)
  rw [e] at h1
  rw [h1]
  decide
theorem tidy_spare (t : Tv) : tidyf t = (decide (1 ≤ t.k ∧ t.k ≤ 9) && sparef t) := by
  unfold tidyf
  by_cases h : 1 ≤ t.k ∧ t.k ≤ 9
  · rw [sparef_eq h]
  · rw [decide_eq_false h]
    rfl
theorem nest_b (k : Int) (a : Nat) : (((k == 8) || (k == 9)) && decide (1024 ≤ (a : Int))) = decide ((k = 8 ∨ k = 9) ∧ 1024 ≤ a) := by
  rw [Bool.eq_iff_iff]
  simp
  omega
set_option maxRecDepth 1000000 in
set_option maxHeartbeats 4000000 in
theorem one_any (t : Tv) (a : Nat) (w : World) (cs : Array Value) (ht : Tin w t cs) (hm : tmuch t ≤ 100000) : Calls Tryd.prog 62 #[.agg cs, .int .i64 (a : Nat)] w fun e w' => e = .returned (.int .i64 (onef t a : Nat)) ∧ Below w.heap.size w w' := by
  have HTN := hide ht
  have HSZ := hide ht.size13
  have hme := tmuch_eq t
  have HKL : Hid (t.ks.length ≤ 100000) := by show _ ≤ _; omega
  have HOE : Hid (onef t a = if (t.k = 8 ∨ t.k = 9) ∧ 1024 ≤ a then 60 else if tidyf t = false then 61 else if finb t.b = false then 62 else if (badb t.s || t.ks.any badb) = true then 63 else if t.k = 7 ∧ ¬ lok t.l then 64 else if t.k = 9 ∧ ¬ (t.ks.length = t.is.length ∧ t.ks.Nodup) then 65 else 0) := rfl
  generalize onef t a = E at *
  obtain ⟨vy, vk, vi, rfl, hy, hk, hv, hb⟩ := ht.parts
  have HKS := hide hk
  have HBD := hide hb
  obtain ⟨⟨ay, cy, rfl, _, _⟩, _⟩ := hy
  obtain ⟨⟨ak, ck, rfl, _, hkf⟩, hkm, hks⟩ := hk
  obtain ⟨⟨ai, ci, rfl, _, _⟩, _⟩ := hv
  have HKF := hide hkf
  have HKZ := hide hks
  clear ht hb hm hme hkf hks
  have HQ0 : Hid (Aln w (w.alloc (.cells (vcs t (.slice ay t.y.length cy) (.slice ak t.ks.length ck) (.slice ai t.is.length ci)) 30)) (vcs t (.slice ay t.y.length cy) (.slice ak t.ks.length ck) (.slice ai t.is.length ci))) := box_mk0 w _
  have HLK : Hid (∀ wx, Aln w wx (vcs t (.slice ay t.y.length cy) (.slice ak t.ks.length ck) (.slice ai t.is.length ci)) → ∀ j x, (lcs t.l)[j]? = some x → wx.cell? ⟨w.heap.size, 7 + j, none⟩ = some x) := fun wx h => h.lk
  have HC0 : Hid ((vcs t (.slice ay t.y.length cy) (.slice ak t.ks.length ck) (.slice ai t.is.length ci))[0]? = some (.int .i64 t.k)) := rfl
  have HC4 : Hid ((vcs t (.slice ay t.y.length cy) (.slice ak t.ks.length ck) (.slice ai t.is.length ci))[4]? = some (.int .u64 (t.b : Nat))) := rfl
  have HC5 : Hid ((vcs t (.slice ay t.y.length cy) (.slice ak t.ks.length ck) (.slice ai t.is.length ci))[5]? = some (.string t.s)) := rfl
  have HC11 : Hid ((vcs t (.slice ay t.y.length cy) (.slice ak t.ks.length ck) (.slice ai t.is.length ci))[11]? = some (.slice ak t.ks.length ck)) := rfl
  generalize vcs t (.slice ay t.y.length cy) (.slice ak t.ks.length ck) (.slice ai t.is.length ci) = cs at *
  have q0 : (w.alloc (.cells cs 30)).cell? ⟨w.heap.size, 0, none⟩ = some (.int .i64 t.k) := blk_cell HQ0.out.2 HC0.out
  have HB8 : Hid (t.k = 8 ↔ (t.k == 8) = true) := beq_iff_eq.symm
  have HB9 : Hid (t.k = 9 ↔ (t.k == 9) = true) := beq_iff_eq.symm
  go_enter Tryd.func62, Tryd.ntmps62
  go_upto_region 1 with fail
  generalize w.alloc (.cells cs 30) = w1 at *
  go_cut [17] from 6 to 16 (fun xx wx => xx = .bool (((t.k == 8) || (t.k == 9)) && decide (1024 ≤ (a : Int))) ∧ wx = w1)
  case first => as_aux_lemma =>
    rcases Bool.eq_false_or_eq_true (t.k == 8) with g8 | g8
    · as_aux_lemma =>
      go_wp2_with fail
      go_meet
      case rel => exact ⟨by rw [g8]; rfl, rfl⟩
    · rcases Bool.eq_false_or_eq_true (t.k == 9) with g9 | g9
      · as_aux_lemma =>
        go_wp2_with fail
        go_meet
        case rel => exact ⟨by rw [g8, g9]; rfl, rfl⟩
      · as_aux_lemma =>
        go_wp2_with fail
        go_meet
        case rel => exact ⟨by rw [g8, g9]; rfl, rfl⟩
  case rest =>
    obtain ⟨rfl, hww⟩ := hcut
    have hww := hww.symm
    subst hww
    rw [nest_b]
    by_cases h1 : (t.k = 8 ∨ t.k = 9) ∧ 1024 ≤ a
    · as_aux_lemma =>
      have HE : Hid (E = 60) := by show _ = _; rw [HOE.out, if_pos h1]
      rw [decide_eq_true h1]
      clear h1
      go_wp2_with fail
      go_ret
      exact ⟨by rw [HE.out]; rfl, HQ0.out.1⟩
    rw [if_neg h1] at HOE
    rw [decide_eq_false h1]
    clear h1 HB8 HB9
    go_upto_region 3 with fail
    go_cut [30] from 18 to 29 (fun xx wx => xx = .bool (!tidyf t) ∧ Hid (Aln w wx cs))
    case first => as_aux_lemma =>
      have HTS := hide (tidy_spare t)
      by_cases gk1 : t.k < 1
      · as_aux_lemma =>
        rw [decide_eq_false (show ¬ (1 ≤ t.k ∧ t.k ≤ 9) by omega)] at HTS
        go_wp2_with fail
        go_meet
        case rel => exact ⟨by rw [HTS.out]; rfl, HQ0⟩
      · by_cases gk9 : 9 < t.k
        · as_aux_lemma =>
          rw [decide_eq_false (show ¬ (1 ≤ t.k ∧ t.k ≤ 9) by omega)] at HTS
          go_wp2_with fail
          go_meet
          case rel => exact ⟨by rw [HTS.out]; rfl, HQ0⟩
        · as_aux_lemma =>
          rw [decide_eq_true (show (1 ≤ t.k ∧ t.k ≤ 9) by omega)] at HTS
          have HV0 := hide HQ0.out.va
          go_wp2_with (refine wpList_valAt rfl rfl w.heap.size 0 cs rfl HSZ.out HV0.out ?_)
          refine (spare_any t _ cs (HTN.out.move (keep_below HQ0.out.1))).mono ?_
          rintro e w2 ⟨rfl, hb2⟩
          have HQ2 := hide (HQ0.out.next hb2)
          clear hb2
          go_wp2_with fail
          go_meet
          case rel => exact ⟨by rw [HTS.out]; rfl, HQ2⟩
    case rest =>
      obtain ⟨rfl, hcw⟩ := hcut
      obtain ⟨w2, hw2⟩ : ∃ x, x = wc := ⟨_, rfl⟩
      subst hw2
      have HQ2 := hcw
      clear hcw
      clear HQ0 q0
      rcases Bool.eq_false_or_eq_true (tidyf t) with h2 | h2
      case inr => as_aux_lemma =>
        have HE : Hid (E = 61) := by show _ = _; rw [HOE.out, if_pos h2]
        rw [h2]
        clear h2
        go_wp2_with fail
        go_ret
        exact ⟨by rw [HE.out]; rfl, HQ2.out.1⟩
      rw [if_neg (by rw [h2]; simp)] at HOE
      have HTD := hide h2
      rw [h2]
      clear h2
      have p0 : w2.cell? ⟨w.heap.size, 0, none⟩ = some (.int .i64 t.k) := blk_cell HQ2.out.2 HC0.out
      have p4 : w2.cell? ⟨w.heap.size, 4, none⟩ = some (.int .u64 (t.b : Nat)) := blk_cell HQ2.out.2 HC4.out
      go_upto_region 5 with fail
      go_cut [39] from 31 to 38 (fun xx wx => xx = .bool (!finb t.b) ∧ Hid (Aln w wx cs))
      case first => as_aux_lemma =>
        rcases Bool.eq_false_or_eq_true (t.k == 4) with g4 | g4
        · as_aux_lemma =>
          go_wp2_with fail
          refine (isFinite_any t.b HBD.out.b _).mono ?_
          rintro e w3 ⟨rfl, hb3⟩
          have HQ3 := hide (HQ2.out.next hb3)
          clear hb3
          go_wp2_with fail
          go_meet
          case rel => exact ⟨rfl, HQ3⟩
        · as_aux_lemma =>
          have HF : Hid (finb t.b = true) := tidy_4 HTD.out (beq_eq_false_iff_ne.1 g4)
          go_wp2_with fail
          go_meet
          case rel => exact ⟨by rw [HF.out]; rfl, HQ2⟩
      case rest =>
        obtain ⟨rfl, hcw⟩ := hcut
        obtain ⟨w3, hw2⟩ : ∃ x, x = wc := ⟨_, rfl⟩
        subst hw2
        have HQ3 := hcw
        clear hcw
        clear HQ2 p0 p4
        rcases Bool.eq_false_or_eq_true (finb t.b) with h3 | h3
        case inr => as_aux_lemma =>
          have HE : Hid (E = 62) := by show _ = _; rw [HOE.out, if_pos h3]
          rw [h3]
          clear h3
          go_wp2_with fail
          go_ret
          exact ⟨by rw [HE.out]; rfl, HQ3.out.1⟩
        rw [if_neg (by rw [h3]; simp)] at HOE
        rw [h3]
        clear h3
        have p5 : w3.cell? ⟨w.heap.size, 5, none⟩ = some (.string t.s) := blk_cell HQ3.out.2 HC5.out
        go_wp2_with fail
        refine (good6_any w3 t.s (by have := HBD.out.s; omega)).mono ?_
        rintro e w4 ⟨rfl, hw4⟩
        have hw4 := hw4.symm
        subst hw4
        rw [bad_good] at HOE
        rcases Bool.eq_false_or_eq_true (ugood (sl t.s)) with h4 | h4
        case inr => as_aux_lemma =>
          have HE : Hid (E = 63) := by show _ = _; rw [HOE.out, h4]; exact if_pos (by simp)
          rw [h4]
          clear h4
          go_wp2_with fail
          go_ret
          exact ⟨by rw [HE.out]; rfl, HQ3.out.1⟩
        rw [h4, Bool.not_true, Bool.false_or] at HOE
        rw [h4]
        clear h4
        go_wp2_with fail
        go_loopw [5] (fun ii wx => ∃ i : Nat, i ≤ t.ks.length ∧ ii = .int .i64 (i : Nat) ∧ Hid (∀ (j : Nat) (x : ByteArray), j < i → t.ks[j]? = some x → badb x = false) ∧ wx = w3) (fun ii _ => t.ks.length - (intOf ii).toNat)
        case atStart => exact ⟨0, by omega, rfl, fun j x hj => absurd hj (by omega), rfl⟩
        case round =>
          obtain ⟨i, hi, rfl, HI, hwr⟩ := hrel
          have hwr := hwr.symm
          subst hwr
          have p11 : w3.cell? ⟨w.heap.size, 11, none⟩ = some (.slice ak t.ks.length ck) := blk_cell HQ3.out.2 HC11.out
          by_cases hlt : i < t.ks.length
          · have g1 : (i : Int) < (t.ks.length : Int) := by omega
            obtain ⟨x, hx⟩ : ∃ x, t.ks[i]? = some x := ⟨t.ks[i], List.getElem?_eq_getElem hlt⟩
            obtain ⟨b, off, rfl, hcc⟩ := HKF.out.resolve_left (fun h => by rw [h] at hlt; simp at hlt)
            have c1 : w3.cell? ⟨b, off + i, none⟩ = some (.string x) := keep_below HQ3.out.1 _ _ (hcc i x hx)
            have HSX := hide (HKZ.out x (List.mem_of_getElem? hx))
            have HBX := hide (bad_good x)
            clear hcc
            rcases Bool.eq_false_or_eq_true (ugood (sl x)) with h5 | h5
            · as_aux_lemma =>
              have HI2 : Hid (∀ (j : Nat) (x : ByteArray), j < i + 1 → t.ks[j]? = some x → badb x = false) := fun j y hj hy => by
                by_cases hji : j = i
                · subst hji
                  rw [hx] at hy
                  injection hy with hy
                  rw [← hy, HBX.out, h5]
                  rfl
                · exact HI.out j y (by omega) hy
              clear hx HI
              go_wp2_with fail
              refine (good6_any w3 x (by have := HSX.out; omega)).mono ?_
              rintro e w4 ⟨rfl, hw4⟩
              have hw4 := hw4.symm
              subst hw4
              rw [h5]
              clear h5
              go_wp2_with fail
              go_roundw
              case rel => exact ⟨i + 1, by omega, by go_num, HI2, by first | rfl | trivial⟩
              case measure => simp [intOf]; omega
            · as_aux_lemma =>
              have HE : Hid (E = 63) := by
                show _ = _
                rw [HOE.out, if_pos (List.any_eq_true.2 ⟨x, List.mem_of_getElem? hx, by rw [HBX.out, h5]; rfl⟩)]
              clear hx HI
              go_wp2_with fail
              refine (good6_any w3 x (by have := HSX.out; omega)).mono ?_
              rintro e w4 ⟨rfl, hw4⟩
              have hw4 := hw4.symm
              subst hw4
              rw [h5]
              clear h5
              go_wp2_with fail
              go_ret
              exact ⟨by rw [HE.out]; rfl, HQ3.out.1⟩
          · have g1 : ¬ (i : Int) < (t.ks.length : Int) := by omega
            have hany : ¬ t.ks.any badb = true := fun h => by
              obtain ⟨x, hx, hbx⟩ := List.any_eq_true.1 h
              obtain ⟨j, hj⟩ := List.getElem?_of_mem hx
              have := HI.out j x (by have := (List.getElem?_eq_some_iff.1 hj).1; omega) hj
              rw [this] at hbx
              cases hbx
            rw [if_neg hany] at HOE
            clear hany HI
            have p0 : w3.cell? ⟨w.heap.size, 0, none⟩ = some (.int .i64 t.k) := blk_cell HQ3.out.2 HC0.out
            have HL3 := hide (HLK.out w3 HQ3.out)
            by_cases hk7 : t.k = 7
            · have g7 : (t.k == 7) = true := beq_iff_eq.2 hk7
              have g9 : (t.k == 9) = false := beq_eq_false_iff_ne.2 (by omega)
              have hk9 : ¬ t.k = 9 := by omega
              have HCK : Hid (Calls Tryd.prog 74 #[.agg (lcs t.l)] w3 fun e w' => e = .returned (.int .i64 (if lok t.l then 0 else 40)) ∧ Below w3.heap.size w3 w') := by
                have h := refCheck_any w3 t.l.v t.l.c t.l.h (nstr t.l.d) HBD.out.l.h (by rw [HBD.out.l.size]; exact HBD.out.l.n)
                rw [sl_nstr HBD.out.l.d] at h
                exact h
              by_cases hlo : lok t.l
              · as_aux_lemma =>
                have HE : Hid (E = 0) := by show _ = _; rw [HOE.out, if_neg (fun h => h.2 hlo), if_neg (fun h => hk9 h.1)]
                rw [if_pos hlo] at HCK
                clear hk7 hk9 hlo
                go_wp2_with (refine wpList_lkAt rfl rfl w.heap.size 7 t.l rfl HL3.out ?_)
                refine (Hid.out HCK).mono ?_
                rintro e w5 ⟨rfl, hb5⟩
                have HQ5 := hide (HQ3.out.next hb5)
                have r0 : w5.cell? ⟨w.heap.size, 0, none⟩ = some (.int .i64 t.k) := blk_cell HQ5.out.2 HC0.out
                clear hb5
                go_wp2_with fail
                go_ret
                exact ⟨by rw [HE.out]; rfl, HQ5.out.1⟩
              · as_aux_lemma =>
                have HE : Hid (E = 64) := by show _ = _; rw [HOE.out, if_pos ⟨hk7, hlo⟩]
                rw [if_neg hlo] at HCK
                clear hk7 hk9 hlo
                go_wp2_with (refine wpList_lkAt rfl rfl w.heap.size 7 t.l rfl HL3.out ?_)
                refine (Hid.out HCK).mono ?_
                rintro e w5 ⟨rfl, hb5⟩
                have HQ5 := hide (HQ3.out.next hb5)
                clear hb5
                go_wp2_with fail
                go_ret
                exact ⟨by rw [HE.out]; rfl, HQ5.out.1⟩
            · have g7 : (t.k == 7) = false := beq_eq_false_iff_ne.2 hk7
              rw [if_neg (fun h => hk7 h.1)] at HOE
              by_cases hk9 : t.k = 9
              · have g9 : (t.k == 9) = true := beq_iff_eq.2 hk9
                have HV3 := hide HQ3.out.va
                by_cases hP : t.ks.length = t.is.length ∧ t.ks.Nodup
                · as_aux_lemma =>
                  have HE : Hid (E = 0) := by show _ = _; rw [HOE.out, if_neg (fun h => h.2 hP)]
                  have HKC := hide (keys_any t true (by simp [hP]) w3 cs (HTN.out.move (keep_below HQ3.out.1)) HKL.out)
                  clear hk7 hk9 hP
                  go_wp2_with (refine wpList_valAt rfl rfl w.heap.size 0 cs rfl HSZ.out HV3.out ?_)
                  refine (Hid.out HKC).mono ?_
                  rintro e w5 ⟨rfl, hb5⟩
                  have HQ5 := hide (HQ3.out.next hb5)
                  clear hb5
                  go_wp2_with fail
                  go_ret
                  exact ⟨by rw [HE.out]; rfl, HQ5.out.1⟩
                · as_aux_lemma =>
                  have HE : Hid (E = 65) := by show _ = _; rw [HOE.out, if_pos ⟨hk9, hP⟩]
                  have HKC := hide (keys_any t false (by simp only [Bool.false_eq_true, false_iff]; exact hP) w3 cs (HTN.out.move (keep_below HQ3.out.1)) HKL.out)
                  clear hk7 hk9 hP
                  go_wp2_with (refine wpList_valAt rfl rfl w.heap.size 0 cs rfl HSZ.out HV3.out ?_)
                  refine (Hid.out HKC).mono ?_
                  rintro e w5 ⟨rfl, hb5⟩
                  have HQ5 := hide (HQ3.out.next hb5)
                  clear hb5
                  go_wp2_with fail
                  go_ret
                  exact ⟨by rw [HE.out]; rfl, HQ5.out.1⟩
              · as_aux_lemma =>
                have g9 : (t.k == 9) = false := beq_eq_false_iff_ne.2 hk9
                have HE : Hid (E = 0) := by show _ = _; rw [HOE.out, if_neg (fun h => hk9 h.1)]
                clear hk7 hk9
                go_wp2_with fail
                go_ret
                exact ⟨by rw [HE.out]; rfl, HQ3.out.1⟩
end
section
open Go.RowKit Go
/-- What the reference's check does. -/
def ChkR (t : Tv) : Prop := ∀ (a : Nat) (w : World) (cs : Array Value), Tin w t cs → a + tmuch t ≤ 200000 → tmuch t ≤ 100000 → Calls Tryd.prog 33 #[.agg cs, .int .i64 (a : Nat)] w fun e w' => e = .returned (.int .i64 (chkf t a : Nat)) ∧ Below w.heap.size w w'
set_option maxRecDepth 1000000 in
set_option maxHeartbeats 2000000 in
theorem checkR_step (t : Tv) (ih : ∀ u ∈ t.is, ChkR u) : ChkR t := by
  intro a w cs ht hat hm
  have HIH := hide ih
  have HTN := hide ht
  have HSZ := hide ht.size13
  have hme := tmuch_eq t
  have HML : Hid (a + 1 + tmuchL t.is ≤ 200000 ∧ tmuchL t.is ≤ 100000) := ⟨by omega, by omega⟩
  have HMM := hide hm
  have haa : a ≤ 200000 := by omega
  have HCE := hide (chkf_eq t a)
  clear ih hat hm hme
  obtain ⟨vy, vk, vi, rfl, hy, hk, hv, hb⟩ := ht.parts
  obtain ⟨⟨ai, ci, rfl, _, hform⟩, hmax⟩ := hv
  have HF := hide hform
  have HCI : Hid ((vcs t vy vk (.slice ai t.is.length ci))[12]? = some (.slice ai t.is.length ci)) := rfl
  generalize vcs t vy vk (.slice ai t.is.length ci) = cs at *
  clear ht hy hk hb hform
  generalize chkf t a = E at *
  have HQ0 : Hid (Aln w (w.alloc (.cells cs 30)) cs) := box_mk0 w _
  have HV0 := hide HQ0.out.va
  go_enter Tryd.func33, Tryd.ntmps33
  go_wp2_with (refine wpList_valAt rfl rfl w.heap.size 0 cs rfl HSZ.out HV0.out ?_)
  refine (one_any t a _ cs (HTN.out.move (keep_below HQ0.out.1)) HMM.out).mono ?_
  rintro e w1 ⟨rfl, hb1⟩
  have HQ1 := hide (HQ0.out.next hb1)
  have HO : Hid ((onef t a = 0 ∧ onef t a = 0 ∧ ∀ (j : Nat) (v : Tv), j < 0 → t.is[j]? = some v → chkf v (a + 1) = 0) ∨ (onef t a ≠ 0 ∧ E = onef t a)) := by
    by_cases h : onef t a = 0
    · exact .inl ⟨h, h, fun j v hj => absurd hj (by omega)⟩
    · exact .inr ⟨h, by rw [HCE.out, if_neg h]⟩
  have HO1 := HO
  clear hb1 HQ0 HV0 HO
  go_wp2_with fail
  go_loopw [5, 6] (fun ee ii wx => ∃ (i e : Nat), i ≤ t.is.length ∧ ii = .int .i64 (i : Nat) ∧ ee = .int .i64 (e : Nat) ∧ Hid ((e = 0 ∧ onef t a = 0 ∧ ∀ (j : Nat) (v : Tv), j < i → t.is[j]? = some v → chkf v (a + 1) = 0) ∨ (e ≠ 0 ∧ E = e)) ∧ Hid (Aln w wx cs)) (fun _ ii _ => t.is.length - (intOf ii).toNat)
  case atStart => exact ⟨0, _, by omega, rfl, rfl, HO1, HQ1⟩
  case round =>
    clear HQ1 HO1
    obtain ⟨i, e, hi, rfl, rfl, HI, HQ⟩ := hrel
    have q12 := blk_cell HQ.out.2 HCI.out
    by_cases hlt : i < t.is.length
    · have g1 : (i : Int) < (t.is.length : Int) := by omega
      by_cases he : e = 0
      · as_aux_lemma =>
        subst he
        obtain ⟨u, hu⟩ : ∃ u, t.is[i]? = some u := ⟨t.is[i], List.getElem?_eq_getElem hlt⟩
        obtain ⟨b, off, rfl, hcells⟩ := HF.out.resolve_left (fun h => by rw [h] at hlt; simp at hlt)
        obtain ⟨cu, hcu, hcc⟩ := hcells i u hu
        have HCC : Hid (∀ j v, cu[j]? = some v → wr.cell? ⟨b, off + i * 13 + j, none⟩ = some v) := fun j v hv => keep_below HQ.out.1 _ _ (hcc j v hv)
        have hmem := List.mem_of_getElem? hu
        have HZ1 := hide hcu.size13
        have hmu := tmuchL_mem hmem
        have HCA := hide (HIH.out u hmem (a + 1) _ cu (hcu.move (keep_below HQ.out.1)) (by have := HML.out; omega) (by have := HML.out; omega))
        have ec : ((a + 1 : Nat) : Int) = (a : Int) + 1 := by omega
        rw [ec] at HCA
        have HI2 : Hid ((chkf u (a + 1) = 0 ∧ onef t a = 0 ∧ ∀ (j : Nat) (v : Tv), j < i + 1 → t.is[j]? = some v → chkf v (a + 1) = 0) ∨ (chkf u (a + 1) ≠ 0 ∧ E = chkf u (a + 1))) := by
          rcases HI.out with ⟨_, h1, h2⟩ | ⟨h1, _⟩
          · by_cases h3 : chkf u (a + 1) = 0
            · refine .inl ⟨h3, h1, fun j v hj hv => ?_⟩
              by_cases hji : j = i
              · subst hji
                rw [hu] at hv
                injection hv with hv
                rw [← hv]
                exact h3
              · exact h2 j v (by omega) hv
            · exact .inr ⟨h3, by rw [HCE.out, if_pos h1, chkL_at h2 hu h3]⟩
          · exact absurd rfl h1
        clear hu hcells hcu hcc hmem hmu ec HI
        go_wp2_with (refine wpList_valAt rfl rfl b (off + i * 13) cu rfl HZ1.out HCC.out ?_)
        refine HCA.out.mono ?_
        rintro e w5 ⟨rfl, hb5⟩
        have HQ5 := hide (HQ.out.next hb5)
        clear hb5 HQ HCC HCA q12
        go_wp2_with fail
        go_roundw
        case rel => exact ⟨i + 1, _, by omega, by go_num, rfl, HI2, HQ5⟩
        case measure => simp [intOf]; omega
      · as_aux_lemma =>
        have HE : Hid (E = e) := by
          rcases HI.out with ⟨h, _⟩ | ⟨_, h⟩
          · exact absurd h he
          · exact h
        have g2 : ((e : Int) == 0) = false := beq_eq_false_iff_ne.2 (by omega)
        clear he HI
        go_wp2_with fail
        go_ret
        exact ⟨by rw [HE.out]; rfl, HQ.out.1⟩
    · as_aux_lemma =>
      have g1 : ¬ (i : Int) < (t.is.length : Int) := by omega
      have HE : Hid (E = e) := by
        rcases HI.out with ⟨h0, h1, h2⟩ | ⟨_, h⟩
        · show _ = _
          rw [HCE.out, if_pos h1, h0]
          refine chkL_none (fun u hu => ?_)
          obtain ⟨j, hj, e⟩ := List.getElem_of_mem hu
          exact h2 j u (by omega) (by rw [List.getElem?_eq_getElem hj, e])
        · exact h
      clear HI
      go_wp2_with fail
      go_ret
      exact ⟨by rw [HE.out]; rfl, HQ.out.1⟩
theorem checkR_any (t : Tv) : ChkR t := by
  have h : ∀ N, ∀ t : Tv, SizeOf.sizeOf t = N → ChkR t := by
    intro N
    induction N using Nat.strongRecOn with
    | _ N ih => exact fun t hN => checkR_step t (fun u hu => ih _ (by rw [← hN]; exact Tv.is_lt hu) u rfl)
  exact h _ t rfl
set_option maxRecDepth 1000000 in
theorem rcheck_any (t : Tv) (w : World) (cs : Array Value) (ht : Tin w t cs) (hm : tmuch t ≤ 100000) : Calls Tryd.prog 10 #[.agg cs] w fun e w' => e = .returned (.int .i64 (chkf t 0 : Nat)) ∧ Below w.heap.size w w' := by
  have HTN := hide ht
  have HSZ := hide ht.size13
  have HQ0 : Hid (Aln w (w.alloc (.cells cs 30)) cs) := box_mk0 w _
  have HV0 := hide HQ0.out.va
  have HMM := hide hm
  clear ht hm
  have HCA := hide (checkR_any t 0 _ cs (HTN.out.move (keep_below HQ0.out.1)) (by have := HMM.out; omega) HMM.out)
  generalize chkf t 0 = E at *
  go_enter Tryd.func10, Tryd.ntmps10
  go_wp2_with (refine wpList_valAt rfl rfl w.heap.size 0 cs rfl HSZ.out HV0.out ?_)
  refine HCA.out.mono ?_
  rintro e w1 ⟨rfl, hb1⟩
  have HQ1 := hide (HQ0.out.next hb1)
  clear hb1
  go_wp2_with fail
  go_ret
  exact ⟨rfl, HQ1.out.1⟩
end
end Go.Proofs.YtibcepokeaaoiaaDoor
