import Derived.Test.YtadilnmkjcmnnaaGreatDoorJh
import Derived.Test.YtadilnmkjcmnnaaGreatDoorJb
import Derived.Laws.MakeOwn
import Derived.Test.YtadilnmkjcmnnaaGreatDoorJm
import Derived.Test.YtadilnmkjcmnnaaGreatDoorSlay
import Derived.Test.YtadilnmkjcmnnaaGreatDoorJk
namespace Go.Proofs.YtadilnmkjcmnnaaGreatDoor
section
open Go.RowKit Go
/-- Digits that the table tells. -/
def tells (t : List Nat) : Prop := ∀ c, c < 256 → (plt t t.length).getD c 0 = (match look t c with | some i => i + 1 | none => 0)
end
section
open Go.RowKit Go
theorem Rg.len {tt : Nat} {B out R : List Nat} (h : Rg tt B out R) : out.length * tt + R.length = B.length := by
  have := congrArg List.length h.e
  rw [List.length_append, flat_len] at this
  omega
end
section
open Go.RowKit Go
/-- Numbers as the cells of a []int. -/
def ivs (l : List Nat) : List Value := l.map fun n : Nat => .int .i64 (n : Int)
theorem ivs_get {l : List Nat} {j : Nat} (h : j < l.length) : (ivs l)[j]? = some (.int .i64 ((l.getD j 0 : Nat) : Int)) := by simp [ivs, List.getD, h]
end
section
open Go.RowKit Go
/-- A slice of numbers, plainly. -/
structure ISl (w : World) (v : Value) (ps : List Nat) : Prop where
  form : ∃ a cap, v = .slice a ps.length cap ∧ (ps.length ≤ cap ∧ (a = none → cap = 0)) ∧ (ps = [] ∨ ∃ b off, a = some ⟨b, off, none⟩ ∧ ∀ j p, ps[j]? = some p → w.cell? ⟨b, off + j, none⟩ = some (.int .i64 (p : Nat)))
  max : ps.length ≤ 140737488351232
theorem ISl.move {w w' : World} {v : Value} {ps : List Nat} (h : ISl w v ps) (hm : ∀ p u, w.cell? p = some u → w'.cell? p = some u) : ISl w' v ps := by
  obtain ⟨⟨a, c, hv, hn, hc⟩, h1⟩ := h
  refine ⟨⟨a, c, hv, hn, ?_⟩, h1⟩
  rcases hc with hc | ⟨b, off, ha, hc⟩
  · exact .inl hc
  · exact .inr ⟨b, off, ha, fun j s hj => hm _ _ (hc j s hj)⟩
theorem ISl.own {w : World} {base n : Nat} {v : Value} {ps : List Nat} (h : w.ownsRow base 3 1 v n (ivs ps)) (hn : n = ps.length) (hm : ps.length ≤ 140737488351232) : ISl w v ps := by
  subst hn
  rcases id h.2 with ⟨hv, he⟩ | ⟨g, cap, cur, hv, _, _, h1, _⟩
  · subst hv
    have e : ps = [] := List.length_eq_zero_iff.1 he
    subst e
    exact ⟨⟨none, 0, rfl, ⟨by simp, fun _ => rfl⟩, .inl rfl⟩, hm⟩
  · subst hv
    refine ⟨⟨_, cap, rfl, ⟨by omega, fun h => by cases h⟩, .inr ⟨g, 0, rfl, fun j s hj => ?_⟩⟩, hm⟩
    rw [Nat.zero_add]
    have hjl := (List.getElem?_eq_some_iff.1 hj).1
    have hg := (own_cell h (ivs_get hjl)).1
    rw [hg]
    simp [List.getD, hj]
/-- The items at these places. -/
def pickS (ks : List ByteArray) (ps : List Nat) : List ByteArray := ps.map fun p => ks.getD p ⟨#[]⟩
theorem pickS_len (ks : List ByteArray) (ps : List Nat) : (pickS ks ps).length = ps.length := by simp [pickS]
theorem pickS_snoc {ks : List ByteArray} {ps : List Nat} {i p : Nat} {s : ByteArray} (hp : ps[i]? = some p) (hs : ks[p]? = some s) : pickS ks (ps.take (i + 1)) = pickS ks (ps.take i) ++ [s] := by
  have hi := (List.getElem?_eq_some_iff.1 hp).1
  rw [List.take_succ_eq_append_getElem hi]
  rw [List.getElem?_eq_getElem hi] at hp
  injection hp with hp
  simp [pickS, hp, List.getD, hs]
def pickL (L : List (Array Value)) (ps : List Nat) : List (Array Value) := ps.map fun p => L.getD p #[]
theorem pickL_len (L : List (Array Value)) (ps : List Nat) : (pickL L ps).length = ps.length := by simp [pickL]
theorem pickL_snoc {L : List (Array Value)} {ps : List Nat} {i p : Nat} {c : Array Value} (hp : ps[i]? = some p) (hs : L[p]? = some c) : pickL L (ps.take (i + 1)) = pickL L (ps.take i) ++ [c] := by
  have hi := (List.getElem?_eq_some_iff.1 hp).1
  rw [List.take_succ_eq_append_getElem hi]
  rw [List.getElem?_eq_getElem hi] at hp
  injection hp with hp
  simp [pickL, hp, List.getD, hs]
set_option maxRecDepth 1000000 in
set_option maxHeartbeats 1000000 in
theorem pickedS_any (w : World) (v vp : Value) (ks : List ByteArray) (ps : List Nat) (hv : SSl w v ks) (hp : ISl w vp ps) (hps : ∀ p ∈ ps, p < ks.length) (hlen : ps.length ≤ 3000000) :
    Calls Tryz.prog 38 #[v, vp] w fun e w' => ∃ v', e = .returned v' ∧ w'.ownsRow w.heap.size 9 1 v' ps.length (sv (pickS ks ps)) ∧ Below w.heap.size w w' := by
  have HSZ := hide hv.size
  have HPS := hide hps
  obtain ⟨⟨a, cap, rfl, _, hc⟩, _, _⟩ := hv
  obtain ⟨⟨ap, capp, rfl, _, hcp⟩, _⟩ := hp
  have HC := hide hc
  have HCP := hide hcp
  clear hc hcp hps
  generalize hB : w.heap.size = B at *
  have HBe := hide hB
  clear hB
  go_enter Tryz.func38, Tryz.ntmps38
  go_wp2_with fail
  go_loopw [5, 10] (fun vv ii wx => ∃ i : Nat, i ≤ ps.length ∧ ii = .int .i64 (i : Nat) ∧ Hid (wx.ownsRow B 9 1 vv i (sv (pickS ks (ps.take i)))) ∧ Hid (Below B w wx)) (fun _ ii _ => ps.length - (intOf ii).toNat)
  case atStart => exact ⟨0, by omega, rfl, World.ownsRow_nil _ _ _ _, Below.refl _ _⟩
  case round =>
    obtain ⟨i, hi, rfl, HO, HBw⟩ := hrel
    by_cases hlt : i < ps.length
    · as_aux_lemma =>
      have g1 : (i : Int) < (ps.length : Int) := by omega
      obtain ⟨p, hpi⟩ : ∃ p, ps[i]? = some p := ⟨ps[i], List.getElem?_eq_getElem hlt⟩
      have hpl := HPS.out p (List.mem_of_getElem? hpi)
      have g2 : (p : Int) < (ks.length : Int) := by omega
      obtain ⟨s, hs⟩ : ∃ s, ks[p]? = some s := ⟨ks[p], List.getElem?_eq_getElem hpl⟩
      obtain ⟨b, off, rfl, hcc⟩ := HCP.out.resolve_left (fun h => by rw [h] at hlt; simp at hlt)
      obtain ⟨b2, off2, rfl, hcd⟩ := HC.out.resolve_left (fun h => by rw [h] at hpl; simp at hpl)
      have hkb : ∀ p x, w.cell? p = some x → wr.cell? p = some x := keep_below (by have e := HBw.out; rw [← HBe.out] at e; exact e)
      have c1 := hkb _ _ (hcc i p hpi)
      have c2 := hkb _ _ (hcd p s hs)
      have HS1 := hide (HSZ.out s (List.mem_of_getElem? hs))
      have HPK := hide (pickS_snoc hpi hs)
      obtain ⟨ax, cx, hvx⟩ : ∃ ax cx, u5 = .slice ax i cx := by
        rcases HO.out.2 with ⟨e, h0⟩ | ⟨g, c, cur, e, _⟩
        · exact ⟨none, 0, by rw [e, h0]⟩
        · exact ⟨_, c, e⟩
      subst hvx
      clear hpi hs hcc hcd hkb HC HCP
      go_wp2_with (at_builtin; refine append_ssl rfl _ _ rfl B _ i (pickS ks (ps.take i)) rfl (HO.out.alloc _) _ [s] rfl (one_ssl _ s HS1.out) ?b1 ?b2 ?_)
      case b1 => simp; omega
      case b2 => have := HBw.out.size; have := HBe.out; simp; omega
      intro v2 w2 ho2 hg2
      have hb2 : Below B w w2 := (HBw.out.alloc (by have := HBw.out.size; have := HBe.out; omega) _).grown hg2 (by have := HBw.out.size; have := HBe.out; simp; omega) (fun q hq => (HO.out.lt q hq).1)
      have HO2 : Hid (w2.ownsRow B 9 1 v2 (i + 1) (sv (pickS ks (ps.take (i + 1))))) := by show World.ownsRow _ _ _ _ _ _ _; rw [HPK.out]; exact ho2
      have HB2 := hide hb2
      clear hg2 ho2 hb2 c1 c2
      go_wp2_with fail
      go_roundw
      case rel => exact ⟨i + 1, by omega, by go_num, HO2, HB2⟩
      case measure => simp [intOf]; omega
    · as_aux_lemma =>
      have g1 : ¬ (i : Int) < (ps.length : Int) := by omega
      have e1 : i = ps.length := by omega
      subst e1
      have HO2 := hide HO.out
      rw [List.take_length] at HO2
      go_wp2_with fail
      go_ret
      exact ⟨_, rfl, HO2.out, HBw.out⟩
set_option maxRecDepth 1000000 in
set_option maxHeartbeats 1000000 in
theorem pickedV_any (w : World) (v vp : Value) (L : List (Array Value)) (ps : List Nat) (B0 : Nat) (hv : w.ownsRow B0 62 13 v L.length (vfl L)) (h1 : ∀ c ∈ L, one13 c) (hp : ISl w vp ps) (hps : ∀ p ∈ ps, p < L.length) (hlen : ps.length ≤ 3000000) :
    Calls Tryz.prog 39 #[v, vp] w fun e w' => ∃ v', e = .returned v' ∧ w'.ownsRow w.heap.size 62 13 v' ps.length (vfl (pickL L ps)) ∧ Below w.heap.size w w' := by
  have HPS := hide hps
  have H13 : Hid (∀ c ∈ L, c.size = 13) := fun c hc => (h1 c hc).1
  have HV := hide hv
  have H1 := hide h1
  obtain ⟨a, cap, rfl⟩ : ∃ a c, v = .slice a L.length c := by
    rcases hv.2 with ⟨e, h0⟩ | ⟨g, c, cur, e, _⟩
    · exact ⟨none, 0, by rw [e, h0]⟩
    · exact ⟨_, c, e⟩
  obtain ⟨⟨ap, capp, rfl, _, hcp⟩, _⟩ := hp
  have HCP := hide hcp
  have hmax : L.length ≤ 9223372036854775807 := by
    rcases hv.2 with ⟨e, h0⟩ | ⟨g, c, cur, e, _, _, h2, h3, _⟩
    · omega
    · unfold maxLen at h3; omega
  clear hcp hps h1 hv
  generalize hB : w.heap.size = B at *
  have HBe := hide hB
  clear hB
  go_enter Tryz.func39, Tryz.ntmps39
  go_wp2_with fail
  go_loopw [5, 10] (fun vv ii wx => ∃ i : Nat, i ≤ ps.length ∧ ii = .int .i64 (i : Nat) ∧ Hid (wx.ownsRow B 62 13 vv i (vfl (pickL L (ps.take i)))) ∧ Hid (Below B w wx)) (fun _ ii _ => ps.length - (intOf ii).toNat)
  case atStart => exact ⟨0, by omega, rfl, World.ownsRow_nil _ _ _ _, Below.refl _ _⟩
  case round =>
    obtain ⟨i, hi, rfl, HO, HBw⟩ := hrel
    by_cases hlt : i < ps.length
    · as_aux_lemma =>
      have g1 : (i : Int) < (ps.length : Int) := by omega
      obtain ⟨p, hpi⟩ : ∃ p, ps[i]? = some p := ⟨ps[i], List.getElem?_eq_getElem hlt⟩
      have hpl := HPS.out p (List.mem_of_getElem? hpi)
      have g2 : (p : Int) < (L.length : Int) := by omega
      obtain ⟨c, hc⟩ : ∃ c, L[p]? = some c := ⟨L[p], List.getElem?_eq_getElem hpl⟩
      obtain ⟨b, off, rfl, hcc⟩ := HCP.out.resolve_left (fun h => by rw [h] at hlt; simp at hlt)
      obtain ⟨g, rfl, hgc⟩ : ∃ g, a = some ⟨g, 0, none⟩ ∧ ∀ j x, c[j]? = some x → w.cell? ⟨g, p * 13 + j, none⟩ = some x := by
        have hV := HV.out
        rcases id hV.2 with ⟨e, h0⟩ | ⟨g, c', cur, e, _⟩
        · omega
        · injection e with e1 e2 e3
          subst e1
          exact ⟨g, rfl, fun j x hx => own_val hV H13.out hc j x hx⟩
      have hkb : ∀ p x, w.cell? p = some x → wr.cell? p = some x := keep_below (by have e := HBw.out; rw [← HBe.out] at e; exact e)
      have c1 := hkb _ _ (hcc i p hpi)
      have HCC : Hid (∀ j x, c[j]? = some x → wr.cell? ⟨g, p * 13 + j, none⟩ = some x) := fun j x hx => hkb _ _ (hgc j x hx)
      have HC1 := hide (H1.out c (List.mem_of_getElem? hc))
      have HPK := hide (pickL_snoc hpi hc)
      obtain ⟨ax, cx, hvx⟩ : ∃ ax cx, u5 = .slice ax i cx := by
        rcases HO.out.2 with ⟨e, h0⟩ | ⟨g, c, cur, e, _⟩
        · exact ⟨none, 0, by rw [e, h0]⟩
        · exact ⟨_, c, e⟩
      subst hvx
      have HG6 : Hid ((wr.alloc (.cells c 62)).heap[wr.heap.size]? = some (.cells c 62 (0, 0))) := heap_alloc_new wr _
      clear hpi hc hcc hgc hkb HCP HV
      go_wp2_with (first
        | (refine wpList_valAt rfl rfl g (p * 13) c rfl HC1.out.1 HCC.out ?_)
        | (refine wpList_val1 rfl rfl c HC1.out.1 rfl ?_)
        | (at_builtin; refine append_val rfl _ _ rfl B _ i (vfl (pickL L (ps.take i))) rfl (HO.out.alloc _) wr.heap.size c HC1.out rfl HG6.out ?b1 ?b2 ?_))
      case b1 => omega
      case b2 => have := HBw.out.size; have := HBe.out; simp; omega
      intro v2 w2 ho2 hg2 _
      have hb2 : Below B w w2 := (HBw.out.alloc (by have := HBw.out.size; have := HBe.out; omega) _).grown hg2 (by have := HBw.out.size; have := HBe.out; simp; omega) (fun q hq => (HO.out.lt q hq).1)
      have HO2 : Hid (w2.ownsRow B 62 13 v2 (i + 1) (vfl (pickL L (ps.take (i + 1))))) := by
        show World.ownsRow _ _ _ _ _ _ _
        rw [HPK.out, vfl_app]
        have e : vfl [c] = c.toList := by simp [vfl]
        rw [e]
        exact ho2
      have HB2 := hide hb2
      clear hg2 ho2 hb2 c1 HCC
      go_wp2_with fail
      go_roundw
      case rel => exact ⟨i + 1, by omega, by go_num, HO2, HB2⟩
      case measure => simp [intOf]; omega
    · as_aux_lemma =>
      have g1 : ¬ (i : Int) < (ps.length : Int) := by omega
      have e1 : i = ps.length := by omega
      subst e1
      have HO2 := hide HO.out
      rw [List.take_length] at HO2
      go_wp2_with fail
      go_ret
      exact ⟨_, rfl, HO2.out, HBw.out⟩
end
section
open Go.RowKit Go
set_option maxRecDepth 1000000 in
set_option maxHeartbeats 1000000 in
/-- The closure by which order compares two places. -/
theorem clo_any (w : World) (B b off n cap i j : Nat) (s t : ByteArray) (c8 : w.cell? ⟨B, 11, none⟩ = some (.slice (some ⟨b, off, none⟩) n cap)) (hi : i < n) (hj : j < n) (ci : w.cell? ⟨b, off + i, none⟩ = some (.string s)) (cj : w.cell? ⟨b, off + j, none⟩ = some (.string t)) :
    Calls Tryz.prog 76 #[.int .i64 (i : Nat), .int .i64 (j : Nat), .pointer (some ⟨B, 0, none⟩)] w fun e w' => e = .returned (.int .i64 (agn s t)) ∧ ∃ q, w' = w.drewN q := by
  have hi2 : (i : Int) < (n : Int) := by omega
  have hj2 : (j : Int) < (n : Int) := by omega
  have HA := fun W => against_any s t W
  generalize agn s t = R at *
  go_enter Tryz.func76, Tryz.ntmps76
  go_wp2_with fail
  go_quiet (first | (go_at_call 77; exact Calls.quiet_of_same (HA _)))
  go_wp2_with fail
  go_ret
  exact ⟨rfl, _, rfl⟩
/-! Keys' order is a strict order. -/
/-- How the keys at two places stand. -/
def kcf (ks : List ByteArray) (n : Nat) (x y : Fin n) : Int := agn (ks.getD x.val ⟨#[]⟩) (ks.getD y.val ⟨#[]⟩)
theorem kcf_lt (ks : List ByteArray) (n : Nat) (x y : Fin n) : Go.Proofs.ltOf (kcf ks n) x y = bfr (sl (ks.getD x.val ⟨#[]⟩)) (sl (ks.getD y.val ⟨#[]⟩)) := by
  unfold Go.Proofs.ltOf kcf
  rw [Bool.eq_iff_iff, decide_eq_true_iff]
  exact agn_bfr _ _
theorem kcf_swo (ks : List ByteArray) (n : Nat) : Go.Sort.SWO (Go.Proofs.ltOf (kcf ks n)) where
  irrefl x := by rw [kcf_lt]; exact bfr_self _
  trans x y z h1 h2 := by rw [kcf_lt] at *; exact bfr_tr _ _ _ h1 h2
  ntrans x y z h1 h2 := by rw [kcf_lt] at *; exact bfr_nt _ _ _ h1 h2
end
section
open Go.RowKit Go
/-- Places in keys' order. -/
structure Srp (ks : List ByteArray) (n : Nat) (ps : List Nat) : Prop where
  p : ps.Perm (List.range n)
  s : ∀ (i j p q : Nat), i < j → ps[i]? = some p → ps[j]? = some q → bfr (sl (ks.getD q ⟨#[]⟩)) (sl (ks.getD p ⟨#[]⟩)) = false
theorem Srp.len {ks : List ByteArray} {n : Nat} {ps : List Nat} (h : Srp ks n ps) : ps.length = n := by rw [h.p.length_eq, List.length_range]
theorem Srp.lt {ks : List ByteArray} {n : Nat} {ps : List Nat} (h : Srp ks n ps) : ∀ p ∈ ps, p < n := fun p hp => by simpa using h.p.mem_iff.1 hp
def finV (n : Nat) (i : Fin n) : Value := .int .i64 ((i.val : Nat) : Int)
theorem sortW_block {α : Type} [Inhabited α] (enc : α → Value) (w : World) (g m : Nat) (d : Array α) (os : Array Obj) (cur : Array Value) (e : TypeId) (hg : w.heap[g]? = some (.cells cur e (0, 0))) : (Go.Proofs.sortWorld enc w g 0 m d os).heap[g]? = some (.cells (Go.Sort.putCells enc 0 d cur) e (0, 0)) := by
  unfold Go.Proofs.sortWorld
  rw [Go.Sort.heap_grow_old _ _ (by rw [Go.Sort.size_putRow]; exact blk_lt hg)]
  simp [Go.Sort.putRow, Go.Sort.mapBlock, Array.getElem?_modify, hg, Go.Sort.onCells, Go.Sort.ahead]
theorem sortW_kp {α : Type} [Inhabited α] (enc : α → Value) (w : World) (g m : Nat) (d : Array α) (os : Array Obj) : Kp (fun q => q = g) w (Go.Proofs.sortWorld enc w g 0 m d os) := by
  refine ⟨rfl, rfl, rfl, ?_, fun k hk hs => ?_⟩
  · unfold Go.Proofs.sortWorld
    rw [Go.Sort.size_grow, Go.Sort.size_putRow]
    show w.heap.size ≤ w.heap.size + os.size
    omega
  · unfold Go.Proofs.sortWorld
    rw [Go.Sort.heap_grow_old _ _ (by rw [Go.Sort.size_putRow]; exact hk)]
    have hs' : ¬ g = k := fun e => hs e.symm
    simp [Go.Sort.putRow, Go.Sort.mapBlock, Array.getElem?_modify, Go.Sort.ahead, hs']
theorem put_ivs (n : Nat) (d : Array (Fin n)) (cur : Array Value) [Inhabited (Fin n)] (hd : d.size = n) (hc : cur.size = n) : Go.Sort.putCells (finV n) 0 d cur = (ivs (d.toList.map Fin.val)).toArray := by
  apply Array.ext_getElem?
  intro k
  simp only [Go.Sort.putCells, Array.getElem?_mapIdx]
  by_cases hk : k < n
  · rw [Array.getElem?_eq_getElem (by omega), Option.map_some, if_pos ⟨by omega, by omega⟩]
    have h1 : d[k - 0]! = d[k]'(by omega) := by rw [Nat.sub_zero, getElem!_pos d k (by omega)]
    rw [h1]
    simp [ivs, finV, show k < d.size by omega]
  · rw [Array.getElem?_eq_none (by omega), Array.getElem?_eq_none (by simp [ivs]; omega)]
    rfl
/-- The order that Go's own sort gives. -/
def ordF (ks : List ByteArray) (n : Nat) [Inhabited (Fin n)] : Array (Fin n) := Go.Sort.pdq (Go.Proofs.ltOf (kcf ks n)) (List.finRange n).toArray 0 (List.finRange n).toArray.size (Lib.bitLen (List.finRange n).toArray.size) true true
def ordp (ks : List ByteArray) (n : Nat) : List Nat := if h : 0 < n then (@ordF ks n ⟨⟨0, h⟩⟩).toList.map Fin.val else []
set_option maxRecDepth 1000000 in
theorem sort_any (w : World) (B b off cap n g : Nat) (ks : List ByteArray) (hn0 : 0 < n) (hnk : n ≤ ks.length) (hn : n ≤ 10000000) (c11 : w.cell? ⟨B, 11, none⟩ = some (.slice (some ⟨b, off, none⟩) ks.length cap)) (hk : ∀ j s, ks[j]? = some s → w.cell? ⟨b, off + j, none⟩ = some (.string s))
    (hg : w.heap[g]? = some (.cells (ivs (List.range n)).toArray 3 (0, 0))) (hgB : B ≠ g) (hgb : b ≠ g) :
    Calls Tryz.prog 75 #[.slice (some ⟨g, 0, none⟩) n n, .func (.func 76) #[] #[.pointer (some ⟨B, 0, none⟩)]] w fun e w' => e = .returned (.tuple #[]) ∧ ∃ ps, ps = ordp ks n ∧ Srp ks n ps ∧ w'.heap[g]? = some (.cells (ivs ps).toArray 3 (0, 0)) ∧ Kp (fun q => q = g) w w' := by
  let inst : Inhabited (Fin n) := ⟨⟨0, hn0⟩⟩
  have eg : ∀ args w, (callFunc 76 args).run Tryz.prog w = .ok (.enter 76 args) w := enters_of Tryz.func76 (by kernel_rfl) rfl
  have hds : (List.finRange n).toArray.size = n := by simp
  have hdj : ∀ j (hj : j < n), (List.finRange n).toArray[j]! = ⟨j, hj⟩ := fun j hj => by
    rw [getElem!_pos _ j (by simpa using hj)]
    simp
  have hH : Go.Sort.Holds (finV n) w g 0 (List.finRange n).toArray := fun j hj => by
    rw [hds] at hj
    rw [hdj j hj, Nat.zero_add]
    refine ⟨blk_cell hg ?_, blk_frozen j hg⟩
    simp [ivs, finV, hj]
  have hcmp : Go.Proofs.CmpLays1 Tryz.prog 76 #[.pointer (some ⟨B, 0, none⟩)] (finV n) (kcf ks n) g 0 (List.finRange n).toArray.size w := by
    intro m os dk _ x y
    have hx : ks[x.val]? = some (ks.getD x.val ⟨#[]⟩) := by
      have := x.isLt
      simp [List.getD, List.getElem?_eq_getElem (show x.val < ks.length by omega)]
    have hy : ks[y.val]? = some (ks.getD y.val ⟨#[]⟩) := by
      have := y.isLt
      simp [List.getD, List.getElem?_eq_getElem (show y.val < ks.length by omega)]
    have hkp := sortW_kp (finV n) w g m dk os
    exact (clo_any (Go.Proofs.sortWorld (finV n) w g 0 m dk os) B b off ks.length cap x.val y.val _ _ (hkp.cell c11 hgB) (by have := x.isLt; omega) (by have := y.isLt; omega) (hkp.cell (hk _ _ hx) hgb) (hkp.cell (hk _ _ hy) hgb)).mono fun _ _ ⟨he, q, hq⟩ => ⟨he, q, #[], by rw [hq, Go.Sort.grow_empty]⟩
  have hS := Go.Proofs.Any.slices_SortFunc_eq Tryz.sortL (finV n) (fun _ => rfl) (kcf ks n) (kcf_swo ks n) 76 #[.pointer (some ⟨B, 0, none⟩)] g 0 n (List.finRange n).toArray w eg hcmp hH (blk_lt hg) (by rw [hds]; omega)
  have hpd := Go.Sort.pdq_sorts (Go.Proofs.ltOf (kcf ks n)) (kcf_swo ks n) (List.finRange n).toArray 0 (List.finRange n).toArray.size (Lib.bitLen (List.finRange n).toArray.size) true true (Nat.zero_le _) (Nat.le_refl _) (Or.inl rfl)
  have hod : ordp ks n = (ordF ks n).toList.map Fin.val := by
    unfold ordp
    rw [dif_pos hn0]
  have hS2 : Calls Tryz.prog 75 #[.slice (some ⟨g, 0, none⟩) n n, .func (.func 76) #[] #[.pointer (some ⟨B, 0, none⟩)]] w fun e w' => e = .returned (.tuple #[]) ∧ ∃ m os, w' = Go.Proofs.sortWorld (finV n) w g 0 m (ordF ks n) os := by
    have h := hS
    rw [show (Value.slice (some ⟨g, 0, none⟩) (List.finRange n).toArray.size n) = .slice (some ⟨g, 0, none⟩) n n by rw [hds]] at h
    exact h
  have hpd2 : Go.Sort.PermIn 0 (List.finRange n).toArray.size (List.finRange n).toArray (ordF ks n) ∧ Go.Sort.SortedIn (Go.Proofs.ltOf (kcf ks n)) 0 (List.finRange n).toArray.size (ordF ks n) := hpd
  clear hS hpd
  generalize ordF ks n = d' at *
  obtain ⟨hp, hs⟩ := hpd2
  rw [hds] at hp hs
  refine Calls.mono hS2 ?_
  rintro e w' ⟨he, m, os, rfl⟩
  have hd' : d'.size = n := by rw [hp.1, hds]
  have hperm : d'.toList.Perm (List.finRange n) := by
    have h := hp.2.2
    have e1 : d'.extract 0 n = d' := by
      have h2 : d'.extract 0 d'.size = d' := by simp
      rw [hd'] at h2
      exact h2
    have e2 : (List.finRange n).toArray.extract 0 n = (List.finRange n).toArray := by
      have h2 : (List.finRange n).take n = List.finRange n := List.take_of_length_le (by simp)
      simp [h2]
    rw [e1, e2] at h
    exact h
  refine ⟨he, d'.toList.map Fin.val, hod.symm, ⟨?_, ?_⟩, ?_, sortW_kp _ _ _ _ _ _⟩
  · have h := hperm.map Fin.val
    have e : (List.finRange n).map Fin.val = List.range n := by
      apply List.ext_getElem?
      intro j
      by_cases hj : j < n
      · simp [hj]
      · rw [List.getElem?_eq_none (by simpa using hj), List.getElem?_eq_none (by simpa using hj)]
    rw [e] at h
    exact h
  · intro i j p q hij h1 h2
    have hjl : j < d'.size := by
      have := (List.getElem?_eq_some_iff.1 h2).1
      simpa using this
    have hil : i < d'.size := by omega
    simp [hil] at h1
    simp [hjl] at h2
    have hl := hs i j (Nat.zero_le _) hij (by omega)
    rw [kcf_lt, getElem!_pos d' i hil, getElem!_pos d' j hjl, h1, h2] at hl
    exact hl
  · rw [sortW_block _ _ _ _ _ _ _ _ hg, put_ivs n d' _ hd' (by simp [ivs])]
end
end Go.Proofs.YtadilnmkjcmnnaaGreatDoor
