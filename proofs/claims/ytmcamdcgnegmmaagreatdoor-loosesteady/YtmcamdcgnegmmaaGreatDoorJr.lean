import Derived.Test.YtmcamdcgnegmmaaGreatDoorJp
import Derived.Test.YtmcamdcgnegmmaaGreatDoorJq
import Derived.Test.YtmcamdcgnegmmaaGreatDoorJb
import Derived.Test.YtmcamdcgnegmmaaGreatDoorJa
import Derived.Test.YtmcamdcgnegmmaaGreatDoorJj
import Derived.Test.YtmcamdcgnegmmaaGreatDoorJe
import Derived.ScopeJumps
import Derived.Test.YtmcamdcgnegmmaaGreatDoorJg
import Derived.Maps.AppendAt
import Derived.Lib.AppendStr
import Derived.BigQuiet
set_option maxRecDepth 1000000
set_option maxHeartbeats 16000000
namespace Go.Proofs.YtmcamdcgnegmmaaGreatDoor
section
open Go.RowKit Go
def Tv.wi (t : Tv) (is : List Tv) : Tv := .mk t.k t.f t.g t.n t.b t.s t.y t.l t.ks is
structure Rm (w wx : World) (c : Array Value) : Prop where
  p : wx.heap[w.heap.size]? = some (.cells c 41 (0, 0))
  r : wx.heap[w.heap.size + 1]? = some (.cells zv 41 (0, 0))
  b : Below w.heap.size w wx
  z : w.heap.size + 2 ≤ wx.heap.size
theorem Rm.start (w : World) (c : Array Value) : Rm w ((w.alloc (.cells c 41)).alloc (.cells zv 41)) c := by
  have h1 := heap_alloc_new w (.cells c 41)
  have e1 : (w.alloc (.cells c 41)).heap.size = w.heap.size + 1 := by simp
  have h2 := heap_alloc_new (w.alloc (.cells c 41)) (.cells zv 41)
  rw [e1] at h2
  have b1 := below_alloc4 w (.cells c 41)
  have b2 := below_alloc4 (w.alloc (.cells c 41)) (.cells zv 41)
  exact ⟨blk_alloc _ h1, h2, b1.trans (b2.mono b1.size), by simp⟩
theorem Rm.next {w wx wy : World} {c : Array Value} (h : Rm w wx c) (hb : Below wx.heap.size wx wy) : Rm w wy c :=
  ⟨(hb.block _ (blk_lt h.p)).trans h.p, (hb.block _ (blk_lt h.r)).trans h.r, h.b.trans (hb.mono h.b.size), Nat.le_trans h.z hb.size⟩
theorem Rm.set {w wx : World} {c : Array Value} (h : Rm w wx c) (j : Nat) (v : Value) : Rm w (wx.setCell ⟨w.heap.size, j, none⟩ v) (c.setIfInBounds j v) ∧ Kp (fun q => q = w.heap.size) wx (wx.setCell ⟨w.heap.size, j, none⟩ v) := by
  have hk : Kp (fun q => q = w.heap.size) wx (wx.setCell ⟨w.heap.size, j, none⟩ v) := (Kp.refl _ _).setCell _ _ (fun _ => rfl)
  exact ⟨⟨blk_set j v h.p, blk_other j v h.r (by omega), h.b.trans (hk.below h.b.size (fun q e => by omega)), Nat.le_trans h.z hk.size⟩, hk⟩
theorem Nvi.ext {w : World} {B : Nat} {wx : World} {v : Value} {L : List (Array Value)} {is is2 : List Tv} (h : Nvi w B wx v L is) (he : ∀ j, j < L.length → is2[j]? = is[j]?) : Nvi w B wx v L is2 :=
  ⟨h.o, h.s, h.b, h.z, fun j u c h1 h2 => h.i j u c (by rw [← he j (List.getElem?_eq_some_iff.1 h2).1]; exact h1) h2⟩
def AgainC (F : Nat) (R : Tv → Tv → Prop) (u : Tv) : Prop := ∀ (w : World) (c : Array Value), Tin w u c → tmuch u ≤ 6000000 → Calls Tryz.prog F #[.agg c] w fun e w' => ∃ c' s, e = .returned (.agg c') ∧ R u s ∧ Ntv w' w.heap.size w'.heap.size s c' ∧ Below w.heap.size w w'
structure Mad (R : Tv → Tv → Prop) (is js : List Tv) : Prop where
  n : js.length = is.length
  r : ∀ (i : Nat) (u s : Tv), is[i]? = some u → js[i]? = some s → R u s
theorem end_rm {wx : World} {R : Nat} {c : Array Value} {tmps : Array Value} (hn : c.size = 13) (hr : wx.heap[R]? = some (.cells c 41 (0, 0))) (hp : tmps.getD 4 undef = .pointer (some ⟨R, 0, none⟩)) : (results Tryz.f79 tmps).run Tryz.prog wx = .ok (.agg c) wx := by
  refine (results_one (p := 4) (ty := 41) rfl _ _ _).trans ?_
  rw [hp]
  have h1 := run_loadVar_row (P := Tryz.prog) wx R 41 41 c (0, 0) _ hr Tryz.underlying41 rfl (by rw [hn]; exact infoV)
  simp [asAddr, h1, Result.andThen]
theorem remade_any (F : Nat) (eF : ∀ args w, (callFunc F args).run Tryz.prog w = .ok (.enter F args) w) (R : Tv → Tv → Prop) (t : Tv) (ih : ∀ u ∈ t.is, AgainC F R u) (w : World) (cs : Array Value) (ht : Tin w t cs) (hm : tmuch t ≤ 6000000) :
    Calls Tryz.prog 79 #[.agg cs, .func (.func F) #[] #[]] w fun e w' => ∃ c' js, e = .returned (.agg c') ∧ Mad R t.is js ∧ Ntv w' w.heap.size w'.heap.size (t.wi js) c' ∧ Below w.heap.size w w' := by
  have hme := tmuch_eq t
  have HIH := hide ih
  have HKL : Hid (t.ks.length ≤ 6000000) := by show _ ≤ _; omega
  have hlen : t.is.length ≤ 6000000 := by have := tmuchL_len t.is; omega
  have HML : Hid (tmuchL t.is ≤ 6000000) := by show _ ≤ _; omega
  clear ih hme hm
  obtain ⟨vy, vk, vi, rfl, hy, hk, hv, hb⟩ := ht.parts
  have HY := hide hy
  have HK := hide hk
  have HBD := hide hb
  obtain ⟨⟨ay, cy, rfl, _, _⟩, _, _⟩ := hy
  obtain ⟨⟨ak, ck, rfl, _, _⟩, _, _⟩ := hk
  obtain ⟨⟨a, cap, rfl, _, hform⟩, hmax⟩ := hv
  have HF := hide hform
  clear ht hb hform
  have HW0 := hide (Rm.start w (vcs t (.slice ay t.y.length cy) (.slice ak t.ks.length ck) (.slice a t.is.length cap)))
  have HZ0 : Hid (((w.alloc (.cells (vcs t (.slice ay t.y.length cy) (.slice ak t.ks.length ck) (.slice a t.is.length cap)) 41)).alloc (.cells zv 41)).heap.size = w.heap.size + 2) := by show _ = _; simp
  generalize hcs : vcs t (.slice ay t.y.length cy) (.slice ak t.ks.length ck) (.slice a t.is.length cap) = cs at *
  have HCS := hide hcs
  have HCI : Hid (cs[12]? = some (.slice a t.is.length cap)) := by show _ = _; rw [← hcs]; rfl
  clear hcs
  have q12 := blk_cell (j := 12) HW0.out.p HCI.out
  unfold zv at q12 HW0 HZ0
  go_enter Tryz.func79, Tryz.ntmps79
  go_wp2_with fail
  generalize (w.alloc (.cells cs 41)).alloc (.cells #[.int .i64 0, .bool false, .bool false, .int .u64 0, .int .u64 0, .string ⟨#[]⟩, .slice none 0 0, .int .i64 0, .int .u64 0, .int .u64 0, .string ⟨#[]⟩, .slice none 0 0, .slice none 0 0] 41) = w2 at *
  clear q12
  have HL0 : Hid (Nvi w2 w2.heap.size w2 (.slice none 0 0) [] []) := ⟨World.ownsRow_nil _ _ _ _, by simp, Below.refl _ _, Nat.le_refl _, fun j u c _ h => by simp at h⟩
  generalize hB : w2.heap.size = B at *
  have HBe := hide hB
  clear hB
  go_loopw [5, 11] (fun vv ii wx => ∃ (i : Nat) (L : List (Array Value)) (js : List Tv), i ≤ t.is.length ∧ ii = .int .i64 (i : Nat) ∧ Hid (L.length = i) ∧ Hid (js.length = i ∧ ∀ (j : Nat) (u s : Tv), t.is[j]? = some u → js[j]? = some s → R u s) ∧ Hid (Nvi w2 B wx vv L js)) (fun _ ii _ => t.is.length - (intOf ii).toNat)
  case atStart => exact ⟨0, [], [], by omega, rfl, rfl, ⟨rfl, fun j u s _ h => by simp at h⟩, HL0⟩
  case round =>
    obtain ⟨i, L, js, hi, rfl, HLn, HJ, HL⟩ := hrel
    clear HL0
    by_cases hlt : i < t.is.length
    · as_aux_lemma =>
      have g1 : (i : Int) < (t.is.length : Int) := by omega
      obtain ⟨u, hu⟩ : ∃ u, t.is[i]? = some u := ⟨t.is[i], List.getElem?_eq_getElem hlt⟩
      obtain ⟨b, off, rfl, hcells⟩ := HF.out.resolve_left (fun h => by rw [h] at hlt; simp at hlt)
      obtain ⟨cu, hcu, hcc⟩ := hcells i u hu
      have hb2 : Below w2.heap.size w2 wr := by have e := HL.out.b; rw [← HBe.out] at e; exact e
      have hkb : ∀ p x, w.cell? p = some x → wr.cell? p = some x := fun p x h => keep_below hb2 _ _ (keep_below HW0.out.b _ _ h)
      have HCC : Hid (∀ j x, cu[j]? = some x → wr.cell? ⟨b, off + i * 13 + j, none⟩ = some x) := fun j x hx => hkb _ _ (hcc j x hx)
      have hmem := List.mem_of_getElem? hu
      have HSZ := hide hcu.size13
      have HA1 := hide hcu.all1
      have HIT := hide (itm_mk wr cu)
      have HG0 := hide (heap_alloc_new wr (.cells zv 41))
      have HIN : Hid ((Tryz.prog.info? 41).map (·.size) = some cu.size) := by show _ = _; rw [HSZ.out]; exact infoV
      have HZV : Hid (zv.size = cu.size) := by show _ = _; rw [HSZ.out]; rfl
      have HCA := hide (HIH.out u hmem _ cu ((hcu.move hkb).move (keep_below HIT.out.b)) (Nat.le_trans (tmuchL_mem hmem) HML.out))
      have HCX := hide HIT.out.cells
      have HU := hide hu
      clear hu hcells hcu hcc hmem hkb hb2
      obtain ⟨ax, cx, hvx⟩ : ∃ ax cx, u5 = .slice ax L.length cx := by
        rcases HL.out.o.2 with ⟨e, h0⟩ | ⟨g, c, cur, e, _⟩
        · exact ⟨none, 0, by rw [e, h0]⟩
        · exact ⟨_, c, e⟩
      subst hvx
      go_wp2_with (first
        | (refine wpList_valAt rfl rfl b (off + i * 13) cu rfl HSZ.out HCC.out ?_)
        | (refine wpList_storeRow rfl rfl wr.heap.size zv cu 41 rfl rfl HG0.out HIN.out HZV.out HA1.out ?_)
        | (refine wpList_valAt rfl rfl wr.heap.size 0 cu rfl HSZ.out HCX.out ?_))
      refine HCA.out.mono ?_
      rintro e w5 ⟨c, s, rfl, hrs, hlt5, hb5⟩
      have hi1 := HIT.out.b.size
      have hsz5 := hb5.size
      have HL5 := hide ((HL.out.next HIT.out.b).next hb5)
      have HC5 := hide hlt5
      have HO := hide hlt5.one
      have HQ : Hid (∀ q, (Value.slice ax L.length cx).ownBlock = some q → q < wr.heap.size) := fun q hq => (HL.out.o.lt q hq).2
      have HZ5 : Hid (B ≤ wr.heap.size) := HL.out.z
      have HZ6 : Hid (wr.heap.size ≤ ((wr.alloc (.cells zv 41)).setRow wr.heap.size cu).heap.size) := hi1
      have HJ2 : Hid ((js ++ [s]).length = i + 1 ∧ ∀ (j : Nat) (u s' : Tv), t.is[j]? = some u → (js ++ [s])[j]? = some s' → R u s') := by
        refine ⟨by rw [List.length_append, HJ.out.1]; rfl, fun j u' s' h1 h2 => ?_⟩
        rcases Nat.lt_or_ge j js.length with hj | hj
        · rw [List.getElem?_append_left hj] at h2
          exact HJ.out.2 j u' s' h1 h2
        · rw [List.getElem?_append_right hj] at h2
          have hj0 : j - js.length = 0 := by
            rcases Nat.eq_zero_or_pos (j - js.length) with e | e
            · exact e
            · rw [List.getElem?_eq_none (by simp; omega)] at h2
              cases h2
          rw [hj0] at h2
          simp at h2
          subst h2
          have hji : j = i := by have := HJ.out.1; omega
          rw [hji, HU.out] at h1
          injection h1 with h1
          subst h1
          exact hrs
      clear hlt5 hb5 HL HCC HCA HCX HIT HG0 hrs hi1 hsz5
      have HL6 := hide (HL5.out.next (below_alloc4 w5 (.cells c 41)))
      have HC6 : Hid (Ntv (w5.alloc (.cells c 41)) ((wr.alloc (.cells zv 41)).setRow wr.heap.size cu).heap.size w5.heap.size s c) := HC5.out.kept (below_alloc4 w5 _)
      have HG6 : Hid ((w5.alloc (.cells c 41)).heap[w5.heap.size]? = some (.cells c 41 (0, 0))) := heap_alloc_new w5 _
      have HS6 : Hid (w5.heap.size ≤ (w5.alloc (.cells c 41)).heap.size) := (below_alloc4 w5 (.cells c 41)).size
      have HLL : Hid (L.length < 1099511627) := by have := HLn.out; show _ < _; omega
      clear HL5 HC5
      go_wp2_with (first
        | (refine wpList_val1 rfl rfl c HO.out.1 rfl ?_)
        | (at_builtin; refine append_val rfl _ _ rfl B _ L.length (vfl L) rfl HL6.out.o w5.heap.size c HO.out rfl HG6.out HLL.out HL6.out.z ?_))
      intro v7 w7 ho7 hg7 hv7
      have HL7 : Hid (Nvi w2 B w7 v7 (L ++ [c]) (js ++ [s])) := by
        refine (HL6.out.ext (fun j hj => ?_)).app HO.out.1 ho7 hg7 (by simpa using hv7) (fun u' hu' => ?_)
        · rw [List.getElem?_append_left (by rw [HJ.out.1, ← HLn.out]; exact hj)]
        · have e : L.length = js.length := by rw [HLn.out, HJ.out.1]
          rw [e] at hu'
          simp at hu'
          subst hu'
          have h1 := HZ5.out
          have h2 := HZ6.out
          exact ⟨_, w5.heap.size, Nat.le_trans h1 h2, HS6.out, fun q hq => .inl (by have := HQ.out q hq; omega), HC6.out⟩
      have HLn7 : Hid ((L ++ [c]).length = i + 1) := by show _ = _; rw [List.length_append, HLn.out]; rfl
      clear ho7 hg7 hv7 HL6 HC6 HG6
      go_wp2_with fail
      go_roundw
      case rel => exact ⟨i + 1, L ++ [c], js ++ [s], by omega, by go_num, HLn7, HJ2, HL7⟩
      case measure => simp [intOf]; omega
    · as_aux_lemma =>
      have hiL : i = t.is.length := by omega
      obtain ⟨ax, cx, hvx⟩ : ∃ ax cx, u5 = .slice ax t.is.length cx := by
        rcases HL.out.o.2 with ⟨e, h0⟩ | ⟨g, c, cur, e, _⟩
        · exact ⟨none, 0, by rw [e, ← hiL, ← HLn.out, h0]⟩
        · exact ⟨_, c, by rw [e, HLn.out, hiL]⟩
      subst hvx
      have hb3 : Below w2.heap.size w2 wr := by have e := HL.out.b; rw [← HBe.out] at e; exact e
      have HW3 := hide (HW0.out.next hb3)
      have HMD : Hid (Mad R t.is js) := ⟨by rw [HJ.out.1, hiL], HJ.out.2⟩
      have HLI : Hid (L.length = t.is.length) := by show _ = _; rw [HLn.out, hiL]
      have HCY : Hid (cs[6]? = some (.slice ay t.y.length cy)) := by show _ = _; rw [← HCS.out]; rfl
      have HOI : Hid (wr.ownsRow (w.heap.size + 2) 41 13 (.slice ax t.is.length cx) t.is.length (vfl L)) := by
        have e := HL.out.o
        rw [HZ0.out, HLI.out] at e
        exact e
      have HGI : Hid (∀ q, (Value.slice ax t.is.length cx).ownBlock = some q → w.heap.size + 2 ≤ q ∧ q < wr.heap.size) := fun q hq => HOI.out.lt q hq
      have HNI : Hid (∀ (j : Nat) (u : Tv) (c : Array Value), js[j]? = some u → L[j]? = some c → Ntv wr (w.heap.size + 2) wr.heap.size u c) := fun j u c h1 h2 => by
        obtain ⟨lo, hi, e1, e2, _, e4⟩ := HL.out.i j u c h1 h2
        rw [HZ0.out] at e1
        exact e4.mono e1 e2
      have H13 := hide HL.out.s
      clear HL HJ HLn hb3 hlt hi
      subst hiL
      have c6 := blk_cell (j := 6) HW3.out.p HCY.out
      have g1 : ¬ (t.is.length : Int) < (t.is.length : Int) := by omega
      go_wp2_with (at_builtin; refine append_bsl rfl _ _ rfl wr.heap.size _ 0 [] rfl (World.ownsRow_nil _ _ _ _) _ t.y rfl (HY.out.move (keep_below HW3.out.b)) ?b1 ?b2 ?_)
      case b1 => have := HBD.out.y; omega
      intro v4 w4 ho4 hg4
      have hb4 : Below wr.heap.size wr w4 := (Below.refl _ _).grown hg4 (Nat.le_refl _) (fun q hq => by cases hq)
      have hz3 := HW3.out.z
      have ho4' : w4.ownsRow wr.heap.size 5 1 v4 t.y.length (bv t.y) := by simpa using ho4
      clear ho4 hg4
      obtain ⟨ya, yc, hv4⟩ := own_slice ho4'
      subst hv4
      have hs4 := hb4.size
      have HGY : Hid (∀ q, (Value.slice ya t.y.length yc).ownBlock = some q → w.heap.size + 2 ≤ q ∧ q < w4.heap.size) := fun q hq => by have := ho4'.lt q hq; exact ⟨by omega, this.2⟩
      have HY4 := hide (own_mono ho4' (show w.heap.size + 2 ≤ wr.heap.size by omega))
      have HI4 := hide ((Kp.of_below (S := fun _ => False) hb4).owns HOI.out (fun _ _ h => h))
      have HN4 : Hid (∀ (j : Nat) (u : Tv) (c : Array Value), js[j]? = some u → L[j]? = some c → Ntv w4 (w.heap.size + 2) wr.heap.size u c) := fun j u c h1 h2 => (HNI.out j u c h1 h2).kept hb4
      have HS4 : Hid (wr.heap.size ≤ w4.heap.size) := hs4
      have HZ3 : Hid (w.heap.size + 2 ≤ wr.heap.size) := hz3
      have HW4 := hide (HW3.out.next hb4)
      clear ho4' hb4 HW3 hs4 hz3 HOI HNI c6
      have c6 := blk_cell (j := 6) HW4.out.p HCY.out
      have f6 := blk_frozen 6 HW4.out.p
      have hset := HW4.out.set 6 (.slice ya t.y.length yc)
      rw [← HCS.out, (setv t _ _ _ _).1] at hset
      have HW5 := hide hset.1
      have HY5 := hide (hset.2.owns HY4.out (fun q hq e => by have := HGY.out q hq; omega))
      have HI5 := hide (hset.2.owns HI4.out (fun q hq e => by have := HGI.out q hq; omega))
      have HN5 : Hid (∀ (j : Nat) (u : Tv) (c : Array Value), js[j]? = some u → L[j]? = some c → Ntv (w4.setCell ⟨w.heap.size, 6, none⟩ (.slice ya t.y.length yc)) (w.heap.size + 2) wr.heap.size u c) := fun j u c h1 h2 => (HN4.out j u c h1 h2).kp hset.2 (fun q h3 _ e => by omega)
      have HS5 : Hid (wr.heap.size ≤ (w4.setCell ⟨w.heap.size, 6, none⟩ (.slice ya t.y.length yc)).heap.size ∧ w4.heap.size ≤ (w4.setCell ⟨w.heap.size, 6, none⟩ (.slice ya t.y.length yc)).heap.size) := ⟨Nat.le_trans HS4.out hset.2.size, hset.2.size⟩
      have c11 := blk_cell (j := 11) HW5.out.p rfl
      have HK5 := hide (HK.out.move (keep_below HW5.out.b))
      clear hset HW4 HY4 HI4 HN4 HCS
      go_wp2_with (at_builtin; refine append_ssl rfl _ _ rfl (w4.setCell ⟨w.heap.size, 6, none⟩ (.slice ya t.y.length yc)).heap.size _ 0 [] rfl (World.ownsRow_nil _ _ _ _) _ t.ks rfl HK5.out ?b3 ?b4 ?_)
      case b3 => have := HKL.out; omega
      case b4 => exact Nat.le_refl _
      intro v6 w6 ho6 hg6
      generalize w4.setCell ⟨w.heap.size, 6, none⟩ (.slice ya t.y.length yc) = w5 at *
      have hb6 : Below w5.heap.size w5 w6 := (Below.refl _ _).grown hg6 (Nat.le_refl _) (fun q hq => by cases hq)
      have hz5 := HW5.out.z
      have ho6' : w6.ownsRow w4.heap.size 9 1 v6 t.ks.length (sv t.ks) := by simpa using ho6
      clear ho6 hg6 c6 f6 c11
      obtain ⟨ka, kc, hv6⟩ := own_slice ho6'
      subst hv6
      have hs6 := hb6.size
      have HGK : Hid (∀ q, (Value.slice ka t.ks.length kc).ownBlock = some q → w.heap.size + 2 ≤ q ∧ q < w6.heap.size) := fun q hq => by have := ho6'.lt q hq; have := HS4.out; have := HZ3.out; exact ⟨by omega, by omega⟩
      have HK6 := hide (own_mono ho6' (show w.heap.size + 2 ≤ w4.heap.size by have := HS4.out; have := HZ3.out; omega))
      have HY6 := hide ((Kp.of_below (S := fun _ => False) hb6).owns HY5.out (fun _ _ h => h))
      have HI6 := hide ((Kp.of_below (S := fun _ => False) hb6).owns HI5.out (fun _ _ h => h))
      have HN6 : Hid (∀ (j : Nat) (u : Tv) (c : Array Value), js[j]? = some u → L[j]? = some c → Ntv w6 (w.heap.size + 2) wr.heap.size u c) := fun j u c h1 h2 => (HN5.out j u c h1 h2).kept hb6
      have HS6 : Hid (wr.heap.size ≤ w6.heap.size ∧ w4.heap.size ≤ w6.heap.size) := by have := HS5.out; exact ⟨by omega, by omega⟩
      have HW6 := hide (HW5.out.next hb6)
      have HKS := hide HK.out.size
      clear ho6' hb6 HW5 hs6 hz5 HI5 HN5 HY5 HK5
      have c11 := blk_cell (j := 11) HW6.out.p rfl
      have f11 := blk_frozen 11 HW6.out.p
      have hset := HW6.out.set 11 (.slice ka t.ks.length kc)
      rw [(setv t _ _ _ _).2.1] at hset
      have HW7 := hide hset.1
      have HY7 := hide (hset.2.owns HY6.out (fun q hq e => by have := HGY.out q hq; omega))
      have HK7 := hide (hset.2.owns HK6.out (fun q hq e => by have := HGK.out q hq; omega))
      have HI7 := hide (hset.2.owns HI6.out (fun q hq e => by have := HGI.out q hq; omega))
      have HN7 : Hid (∀ (j : Nat) (u : Tv) (c : Array Value), js[j]? = some u → L[j]? = some c → Ntv (w6.setCell ⟨w.heap.size, 11, none⟩ (.slice ka t.ks.length kc)) (w.heap.size + 2) wr.heap.size u c) := fun j u c h1 h2 => (HN6.out j u c h1 h2).kp hset.2 (fun q h3 _ e => by omega)
      have HS7 : Hid (wr.heap.size ≤ (w6.setCell ⟨w.heap.size, 11, none⟩ (.slice ka t.ks.length kc)).heap.size ∧ w4.heap.size ≤ (w6.setCell ⟨w.heap.size, 11, none⟩ (.slice ka t.ks.length kc)).heap.size ∧ w6.heap.size ≤ (w6.setCell ⟨w.heap.size, 11, none⟩ (.slice ka t.ks.length kc)).heap.size) := ⟨Nat.le_trans HS6.out.1 hset.2.size, Nat.le_trans HS6.out.2 hset.2.size, hset.2.size⟩
      clear hset HW6 HY6 HI6 HN6 HK6
      have c12 := blk_cell (j := 12) HW7.out.p rfl
      have f12 := blk_frozen 12 HW7.out.p
      have hset := HW7.out.set 12 (.slice ax t.is.length cx)
      rw [(setv t _ _ _ _).2.2] at hset
      have HW9 := hide hset.1
      have HLT : Hid (Ntv ((w6.setCell ⟨w.heap.size, 11, none⟩ (.slice ka t.ks.length kc)).setCell ⟨w.heap.size, 12, none⟩ (.slice ax t.is.length cx)) (w.heap.size + 2) (w6.setCell ⟨w.heap.size, 11, none⟩ (.slice ka t.ks.length kc)).heap.size (t.wi js) (vcs t (.slice ya t.y.length yc) (.slice ka t.ks.length kc) (.slice ax t.is.length cx))) := by
        have h5 := HS7.out
        have hjl : js.length = t.is.length := HMD.out.n
        refine Ntv.mk (t.wi js) _ _ _ L ⟨HBD.out.n, HBD.out.b, HBD.out.s, HBD.out.y, HBD.out.l, HBD.out.d⟩ HY.out.byte ?_ (fun q hq => by have := HGY.out q hq; omega) ?_ (fun q hq => by have := HGK.out q hq; omega) (Nat.le_trans HKL.out (by omega)) HKS.out ?_ (fun q hq => by have := HGI.out q hq; omega) (show js.length ≤ _ by omega) (show L.length = js.length by rw [HLI.out, hjl]) H13.out (fun i u c e1 e2 => ?_)
        · exact hset.2.owns HY7.out (fun q hq e => by have := HGY.out q hq; omega)
        · exact hset.2.owns HK7.out (fun q hq e => by have := HGK.out q hq; omega)
        · show World.ownsRow _ _ _ _ _ js.length _
          rw [hjl]
          exact hset.2.owns HI7.out (fun q hq e => by have := HGI.out q hq; omega)
        · exact ((HN7.out i u c e1 e2).kp hset.2 (fun q h5 h6 e => by omega)).mono (Nat.le_refl _) h5.1
      have HS9 : Hid ((w6.setCell ⟨w.heap.size, 11, none⟩ (.slice ka t.ks.length kc)).heap.size ≤ ((w6.setCell ⟨w.heap.size, 11, none⟩ (.slice ka t.ks.length kc)).setCell ⟨w.heap.size, 12, none⟩ (.slice ax t.is.length cx)).heap.size) := hset.2.size
      clear hset HW7 HY7 HK7 HI7 HN7
      have HXL : Hid (∀ j v, (vcs t (.slice ya t.y.length yc) (.slice ka t.ks.length kc) (.slice ax t.is.length cx))[j]? = some v → ((w6.setCell ⟨w.heap.size, 11, none⟩ (.slice ka t.ks.length kc)).setCell ⟨w.heap.size, 12, none⟩ (.slice ax t.is.length cx)).cell? ⟨w.heap.size, 0 + j, none⟩ = some v) := fun j v hv => by
        rw [Nat.zero_add]
        exact blk_cell HW9.out.p hv
      have HON := hide HLT.out.one
      have HONA : Hid ((vcs t (.slice ya t.y.length yc) (.slice ka t.ks.length kc) (.slice ax t.is.length cx)).all (·.oneCell') = true) := by
        show _ = _
        rw [Array.all_eq_true']
        intro u hu
        exact HON.out.2 u (by simpa using hu)
      have HIN : Hid ((Tryz.prog.info? 41).map (·.size) = some (vcs t (.slice ya t.y.length yc) (.slice ka t.ks.length kc) (.slice ax t.is.length cx)).size) := infoV
      have HR9 := hide HW9.out.r
      have HZV : Hid (zv.size = (vcs t (.slice ya t.y.length yc) (.slice ka t.ks.length kc) (.slice ax t.is.length cx)).size) := rfl
      go_wp2_with (first
        | (refine wpList_valAt rfl rfl w.heap.size 0 (vcs t (.slice ya t.y.length yc) (.slice ka t.ks.length kc) (.slice ax t.is.length cx)) rfl rfl HXL.out ?_)
        | (refine wpList_storeRow rfl rfl (w.heap.size + 1) zv (vcs t (.slice ya t.y.length yc) (.slice ka t.ks.length kc) (.slice ax t.is.length cx)) 41 rfl rfl HR9.out HIN.out HZV.out HONA.out ?_))
      have hkr := row_kp ((w6.setCell ⟨w.heap.size, 11, none⟩ (.slice ka t.ks.length kc)).setCell ⟨w.heap.size, 12, none⟩ (.slice ax t.is.length cx)) (w.heap.size + 1) (vcs t (.slice ya t.y.length yc) (.slice ka t.ks.length kc) (.slice ax t.is.length cx))
      have hzr := hkr.size
      have h89 := HS9.out
      exact bodyPost_ret (end_rm rfl (row_same HR9.out) rfl) rfl ⟨_, js, rfl, HMD.out, (HLT.out.kp hkr (fun q h1 h2 e => by omega)).mono (by omega) (by omega), HW9.out.b.trans (hkr.below HW9.out.b.size (fun q e => by omega))⟩
end
section
open Go.RowKit Go

end
section
open Go.RowKit Go

end
section
open Go.RowKit Go

end
section
open Go.RowKit Go

end
section
open Go.RowKit

end
section
open Go.RowKit Go
def kfm (s : ByteArray) : List Nat := hl 3 (sl s).length ++ sl s
mutual
def tfm : Tv → List Nat
  | .mk k f g n b s y l ks is =>
    if k = 1 then [246] else if k = 2 then [if f = true then 245 else 244]
    else if k = 3 then hl (if g = true then 1 else 0) n
    else if k = 4 then 251 :: be 8 b
    else if k = 5 then kfm s
    else if k = 6 then hl 2 y.length ++ y
    else if k = 7 then hl 6 42 ++ (hl 2 (1 + (lbytes l).length) ++ 0 :: lbytes l)
    else if k = 8 then hl 4 is.length ++ tfmL is
    else if k = 9 then hl 5 is.length ++ tfmK ks is
    else []
def tfmL : List Tv → List Nat
  | [] => []
  | t :: r => tfm t ++ tfmL r
def tfmK : List ByteArray → List Tv → List Nat
  | [], _ => []
  | k :: ks, [] => kfm k ++ tfmK ks []
  | k :: ks, t :: r => kfm k ++ (tfm t ++ tfmK ks r)
end
end
section
open Go.RowKit Go

end
section
open Go.RowKit Go
theorem cell_lt6 {w : World} {a : Addr} {v : Value} (h : w.cell? a = some v) : a.block < w.heap.size := by
  rcases Nat.lt_or_ge a.block w.heap.size with h1 | h1
  · exact h1
  · unfold World.cell? at h
    rw [Array.getElem?_eq_none h1] at h
    cases h
inductive Tis (w : World) (S : Nat → Prop) : Tv → Array Value → Prop
  | mk (t : Tv) (vy vk vi : Value) (hb : Tbd t) (hy : BSl w vy t.y) (hys : t.y ≠ [] → ∀ q, vy.ownBlock = some q → ¬ S q) (hk : SSl w vk t.ks) (hks : t.ks ≠ [] → ∀ q, vk.ownBlock = some q → ¬ S q)
      (cs : Nat → Array Value) (a : Option Addr) (cap : Nat) (hv : vi = .slice a t.is.length cap) (hc : t.is.length ≤ cap ∧ (a = none → cap = 0)) (hm : t.is.length ≤ 140737488351232) (hi : ∀ i u, t.is[i]? = some u → Tis w S u (cs i))
      (ha : t.is = [] ∨ ∃ b off, a = some ⟨b, off, none⟩ ∧ ¬ S b ∧ ∀ i, i < t.is.length → ∀ j u, (cs i)[j]? = some u → w.cell? ⟨b, off + i * 13 + j, none⟩ = some u) : Tis w S t (vcs t vy vk vi)
theorem Tis.tin {w : World} {S : Nat → Prop} {t : Tv} {c : Array Value} (h : Tis w S t c) : Tin w t c := by
  induction h with
  | mk t vy vk vi hb hy hys hk hks cs a cap hv hc hm hi ha ih =>
    subst hv
    refine Tin.mk t vy vk a cap cs hb.n hb.b hb.s hy hb.y hb.l hb.d hk hc hm ih ?_
    rcases ha with ha | ⟨b, off, e, _, ha⟩
    · exact .inl ha
    · exact .inr ⟨b, off, e, ha⟩
theorem bsl_nil6 {w w' : World} {v : Value} (h : BSl w v []) : BSl w' v [] := by
  obtain ⟨⟨a, c, hv, hn, hc⟩, h1, h2⟩ := h
  exact ⟨⟨a, c, hv, hn, .inl rfl⟩, h1, h2⟩
theorem ssl_nil6 {w w' : World} {v : Value} (h : SSl w v []) : SSl w' v [] := by
  obtain ⟨⟨a, c, hv, hn, hc⟩, h1, h2⟩ := h
  exact ⟨⟨a, c, hv, hn, .inl rfl⟩, h1, h2⟩
theorem Kp.ssl {S : Nat → Prop} {w w' : World} (h : Kp S w w') {v : Value} {ks : List ByteArray} (hb : SSl w v ks) (hs : ∀ k, v.ownBlock = some k → ¬ S k) : SSl w' v ks := by
  obtain ⟨⟨a, c, hv, hn, hc⟩, h1, h2⟩ := hb
  refine ⟨⟨a, c, hv, hn, ?_⟩, h1, h2⟩
  rcases hc with hc | ⟨b, off, ha, hc⟩
  · exact .inl hc
  · refine .inr ⟨b, off, ha, fun j s hj => h.cell (hc j s hj) (hs b ?_)⟩
    rw [hv, ha]
    rfl
theorem Tis.kp {w w' : World} {S : Nat → Prop} {t : Tv} {c : Array Value} (h : Tis w S t c) (hk : Kp S w w') : Tis w' S t c := by
  induction h with
  | mk t vy vk vi hb hy hys hkk hks cs a cap hv hc hm hi ha ih =>
    refine Tis.mk t vy vk vi hb ?_ hys ?_ hks cs a cap hv hc hm ih ?_
    · by_cases e : t.y = []
      · rw [e] at hy ⊢
        exact bsl_nil6 hy
      · exact hk.bsl hy (hys e)
    · by_cases e : t.ks = []
      · rw [e] at hkk ⊢
        exact ssl_nil6 hkk
      · exact hk.ssl hkk (hks e)
    · rcases ha with ha | ⟨b, off, e, hs, ha⟩
      · exact .inl ha
      · exact .inr ⟨b, off, e, hs, fun i hi j u hu => hk.cell (ha i hi j u hu) hs⟩
theorem Tis.mono {w : World} {S T : Nat → Prop} {t : Tv} {c : Array Value} (h : Tis w S t c) (hs : ∀ q, T q → S q) : Tis w T t c := by
  induction h with
  | mk t vy vk vi hb hy hys hk hks cs a cap hv hc hm hi ha ih =>
    refine Tis.mk t vy vk vi hb hy (fun e q hq h => hys e q hq (hs q h)) hk (fun e q hq h => hks e q hq (hs q h)) cs a cap hv hc hm ih ?_
    rcases ha with ha | ⟨b, off, e, h1, ha⟩
    · exact .inl ha
    · exact .inr ⟨b, off, e, fun h => h1 (hs b h), ha⟩
theorem Tis.of_tin {w : World} {S : Nat → Prop} {t : Tv} {c : Array Value} (h : Tin w t c) (hs : ∀ q, S q → w.heap.size ≤ q) : Tis w S t c := by
  induction h with
  | mk t vy vk a cap cs hn hb hsz hy hyl hl hld hk hc hm hi ha ih =>
    refine Tis.mk t vy vk _ ⟨hn, hb, hsz, hyl, hl, hld⟩ hy ?_ hk ?_ cs a cap rfl hc hm ih ?_
    · intro e q hq h
      obtain ⟨⟨a', c', hv, _, hcc⟩, _, _⟩ := hy
      obtain ⟨b, off, ha', hcd⟩ := hcc.resolve_left e
      subst hv
      subst ha'
      have e3 : b = q := by simpa [Value.ownBlock] using hq
      subst e3
      have hl : 0 < t.y.length := List.length_pos_iff.2 e
      have h1 := cell_lt6 (hcd 0 hl)
      have := hs _ h
      simp only at h1
      omega
    · intro e q hq h
      obtain ⟨⟨a', c', hv, _, hcc⟩, _, _⟩ := hk
      obtain ⟨b, off, ha', hcd⟩ := hcc.resolve_left e
      subst hv
      subst ha'
      have e3 : b = q := by simpa [Value.ownBlock] using hq
      subst e3
      obtain ⟨s, hs0⟩ : ∃ s, t.ks[0]? = some s := by
        cases hks : t.ks with
        | nil => exact absurd hks e
        | cons s r => exact ⟨s, rfl⟩
      have h1 := cell_lt6 (hcd 0 s hs0)
      have := hs _ h
      simp only at h1
      omega
    · rcases ha with ha | ⟨b, off, e, ha⟩
      · exact .inl ha
      · by_cases e2 : t.is = []
        · exact .inl e2
        · refine .inr ⟨b, off, e, fun h => ?_, ha⟩
          have hl : 0 < t.is.length := List.length_pos_iff.2 e2
          have hz := (hi 0 _ (List.getElem?_eq_getElem hl)).size13
          have h1 := cell_lt6 (ha 0 hl 0 ((cs 0)[0]'(by omega)) (Array.getElem?_eq_getElem (by omega)))
          have := hs _ h
          simp only at h1
          omega
theorem Tis.widen {w : World} {S : Nat → Prop} {t : Tv} {c : Array Value} (h : Tis w S t c) : Tis w (fun q => S q ∨ w.heap.size ≤ q) t c := by
  induction h with
  | mk t vy vk vi hb hy hys hk hks cs a cap hv hc hm hi ha ih =>
    have hi2 := hi
    refine Tis.mk t vy vk vi hb hy ?_ hk ?_ cs a cap hv hc hm ih ?_
    · intro e q hq h
      rcases h with h | h
      · exact hys e q hq h
      · obtain ⟨⟨a', c', hv', _, hcc⟩, _, _⟩ := hy
        obtain ⟨b, off, ha', hcd⟩ := hcc.resolve_left e
        subst hv'
        subst ha'
        have e3 : b = q := by simpa [Value.ownBlock] using hq
        subst e3
        have hl : 0 < t.y.length := List.length_pos_iff.2 e
        have h1 := cell_lt6 (hcd 0 hl)
        simp only at h1
        omega
    · intro e q hq h
      rcases h with h | h
      · exact hks e q hq h
      · obtain ⟨⟨a', c', hv', _, hcc⟩, _, _⟩ := hk
        obtain ⟨b, off, ha', hcd⟩ := hcc.resolve_left e
        subst hv'
        subst ha'
        have e3 : b = q := by simpa [Value.ownBlock] using hq
        subst e3
        obtain ⟨s, hs0⟩ : ∃ s, t.ks[0]? = some s := by
          cases hks' : t.ks with
          | nil => exact absurd hks' e
          | cons s r => exact ⟨s, rfl⟩
        have h1 := cell_lt6 (hcd 0 s hs0)
        simp only at h1
        omega
    · rcases ha with ha | ⟨b, off, e, hs, ha⟩
      · exact .inl ha
      · by_cases e2 : t.is = []
        · exact .inl e2
        · refine .inr ⟨b, off, e, fun h => ?_, ha⟩
          rcases h with h | h
          · exact hs h
          · have hl : 0 < t.is.length := List.length_pos_iff.2 e2
            have hz := (hi2 0 _ (List.getElem?_eq_getElem hl)).tin.size13
            have h1 := cell_lt6 (ha 0 hl 0 ((cs 0)[0]'(by omega)) (Array.getElem?_eq_getElem (by omega)))
            simp only at h1
            omega
end
section
open Go.RowKit Go
inductive Prt where
  | null
  | truth (b : Bool)
  | whole (g : Bool) (n : Nat)
  | float (b : Nat)
  | text (s : ByteArray)
  | octets (y : List Nat)
  | name (y : List Nat)
  | list (is : List Tv)
  | entries (ks : List ByteArray) (is : List Tv)
def prt (t : Tv) : Prt :=
  if t.k = 2 then .truth t.f else if t.k = 3 then .whole t.g t.n else if t.k = 4 then .float t.b else if t.k = 5 then .text t.s else if t.k = 6 then .octets t.y
  else if t.k = 7 then .name (0 :: lrow t.l) else if t.k = 8 then .list t.is else if t.k = 9 then .entries t.ks t.is else .null
def pfm : Prt → List Nat
  | .null => [246]
  | .truth b => [if b = true then 245 else 244]
  | .whole g n => hl (if g = true then 1 else 0) n
  | .float b => 251 :: be 8 b
  | .text s => kfm s
  | .octets y => hl 2 y.length ++ y
  | .name y => hl 6 42 ++ (hl 2 y.length ++ y)
  | .list is => hl 4 is.length
  | .entries ks _ => hl 5 ks.length
def pbl : Prt → List Prt
  | .list is => is.map prt
  | .entries ks is => (ks.zip is).flatMap fun x => [.text x.1, prt x.2]
  | _ => []
def pall : Prt → List Nat
  | .list is => hl 4 is.length ++ tfmL is
  | .entries ks is => hl 5 ks.length ++ tfmK ks is
  | p => pfm p
inductive Ptr : Tv → Prop
  | mk (t : Tv) (hk : 1 ≤ t.k ∧ t.k ≤ 9) (h7 : t.k = 7 → lok t.l) (h9 : t.k = 9 → t.ks.length = t.is.length) (hi : ∀ u ∈ t.is, Ptr u) : Ptr t
theorem lrow_ok {l : Lk} (h : lok l) : lrow l = lbytes l := by
  unfold lrow
  rw [if_pos h]
theorem pall_prt {t : Tv} (h : Ptr t) : pall (prt t) = tfm t := by
  cases h with
  | mk _ hk h7 h9 hi =>
    obtain ⟨k, f, g, n, b, s, y, l, ks, is⟩ := t
    simp only [Tv.k, Tv.l, Tv.ks, Tv.is] at hk h7 h9
    have hc : k = 1 ∨ k = 2 ∨ k = 3 ∨ k = 4 ∨ k = 5 ∨ k = 6 ∨ k = 7 ∨ k = 8 ∨ k = 9 := by omega
    unfold prt tfm
    simp only [Tv.k, Tv.f, Tv.g, Tv.n, Tv.b, Tv.s, Tv.y, Tv.l, Tv.ks, Tv.is]
    rcases hc with rfl | rfl | rfl | rfl | rfl | rfl | rfl | rfl | rfl
    · rfl
    · rfl
    · rfl
    · rfl
    · rfl
    · rfl
    · rw [lrow_ok (h7 rfl)]
      simp [pall, pfm, Nat.add_comm]
    · rfl
    · simp [pall, h9 rfl]
def psz : Prt → Nat
  | .null => 1
  | .truth _ => 1
  | .whole _ n => hsize n
  | .float _ => 9
  | .text s => hsize s.size + s.size
  | .octets y => hsize y.length + y.length
  | .name y => hsize 42 + (hsize y.length + y.length)
  | .list is => hsize is.length
  | .entries ks _ => hsize ks.length
theorem hl_len7 (m n : Nat) : (hl m n).length = hsize n := by
  unfold hl hsize
  rw [List.length_cons, be_len]
  omega
theorem sl_len7 (s : ByteArray) : (sl s).length = s.size := by
  unfold sl
  simp
theorem psz_len (p : Prt) : (pfm p).length = psz p := by
  cases p with
  | null => rfl
  | truth b => rfl
  | whole g n => exact hl_len7 _ _
  | float b => show (251 :: be 8 b).length = 9; rw [List.length_cons, be_len]
  | text s => show (kfm s).length = _; unfold kfm psz; rw [List.length_append, hl_len7, sl_len7]
  | octets y => show (hl 2 y.length ++ y).length = _; unfold psz; rw [List.length_append, hl_len7]
  | name y => show (hl 6 42 ++ (hl 2 y.length ++ y)).length = _; unfold psz; rw [List.length_append, List.length_append, hl_len7, hl_len7]
  | list is => exact hl_len7 _ _
  | entries ks is => exact hl_len7 _ _
end
section
open Go.RowKit Go
def LayP (w : World) (B : Nat) (v : Value) (n : Nat) (ds xs : List Nat) (e : Ending) (w' : World) : Prop :=
  ∃ v', e = .returned v' ∧ w'.ownsRow B 5 1 v' (n + xs.length) (bv (ds ++ xs)) ∧ v' ≠ .slice none 0 0 ∧ Kp (fun q => v.ownBlock = some q) w w' ∧ (v'.ownBlock = v.ownBlock ∨ ∀ q, v'.ownBlock = some q → w.heap.size ≤ q)
def At7 (w : World) (v v' : Value) : Prop := v'.ownBlock = v.ownBlock ∨ ∀ q, v'.ownBlock = some q → w.heap.size ≤ q
theorem append_tu {t u ty : TypeId} {e e' : TypeId} (ht : Tryz.prog.underlying t = some (.slice e)) (hu : Tryz.prog.underlying u = some (.slice e')) (b : Option Addr) (n c : Nat) (x : Value) (w : World) : (Builtin.append_ #[t, u] ty #[.slice b n c, x]).run Tryz.prog w = (Builtin.append_ #[t, t] ty #[.slice b n c, x]).run Tryz.prog w := by
  have h1 : ∀ w, (underlying t).run Tryz.prog w = .ok (.slice e) w := fun w => run_underlying ht w
  have h2 : ∀ w, (underlying u).run Tryz.prog w = .ok (.slice e') w := fun w => run_underlying hu w
  simp [Builtin.append_, Sem.run_bind, h1, h2]
theorem own_slice7 {w : World} {B e s n : Nat} {v : Value} {xs : List Value} (h : w.ownsRow B e s v n xs) : ∃ a c, v = .slice a n c := by
  rcases h.2 with ⟨e, h0⟩ | ⟨g, c, cur, e, _⟩
  · exact ⟨none, 0, by rw [e, h0]⟩
  · exact ⟨_, c, e⟩
theorem append_bytes {ops : Array Oper} {rest : List Oper} {o : Oper} {a : Act} {Q : Exit → Act → World → Prop} {w : World} (hgd : o.guard = none) (s x : Operand) (t u : TypeId)
    (ho : o.op = .call { callee := .builtin .append, args := #[s, x], argTypes := #[t, u] }) (ht : Tryz.prog.underlying t = some (.slice 5)) (hu : Tryz.prog.underlying u = some (.slice 5)) (B : Nat) (v : Value) (n : Nat) (ds : List Nat) (hs : a.eval s = v) (hown : w.ownsRow B 5 1 v n (bv ds)) (hnn : v ≠ .slice none 0 0)
    (uv : Value) (xs : List Nat) (hx : a.eval x = uv) (hsl : BSl w uv xs) (hlen : n + xs.length ≤ 140737488355328) (hbase : B ≤ w.heap.size)
    (h : ∀ v' w', w'.ownsRow B 5 1 v' (n + xs.length) (bv (ds ++ xs)) → w.grownBy w' v.ownBlock → v' ≠ .slice none 0 0 → At7 w v v' → wpList Tryz.prog ops Q rest (a.put o.dst v') w') : wpList Tryz.prog ops Q (o :: rest) a w := by
  obtain ⟨i5, hi, hz0, hz1, hz2⟩ := info5_ex
  obtain ⟨⟨ad, cap, rfl, hn, hc⟩, hmax, hb⟩ := id hsl
  refine wpList_plain hgd fun K hK => ?_
  cases ad with
  | none =>
    rcases hc with rfl | ⟨_, _, e, _⟩
    · have := hn.2 rfl
      subst this
      have hrun := run_append_owned_none (P := Tryz.prog) (w := w) B t o.type 5 i5 1 ht hi v n (bv ds) hown
      obtain ⟨av, cv, hvv⟩ := own_slice7 hown
      rw [hvv] at hrun hs
      rw [← append_tu ht hu] at hrun
      unfold Oper.wp
      simp only [List.length_nil] at hx
      simp [execOp, ho, resolve, invoke, builtin, hs, hx, hrun, Result.andThen]
      have h9 := h v w (by simpa using hown) ⟨rfl, rfl, rfl, Nat.le_refl _, fun _ _ _ => rfl⟩ hnn (.inl rfl)
      rw [hvv] at h9
      exact hK _ _ h9
    · cases e
  | some ad =>
    obtain ⟨v', w', hrun, r1, r2, r3, r4⟩ := run_append_own_at (P := Tryz.prog) w B t o.type 5 i5 (.int .u8 0) 1 1 ht hi hz0 hz1 hz2 rfl (by decide) v n (bv ds) hown ad xs.length cap (bv xs) (by simp [bv]) hsl.src.2 (bv_one xs) (by unfold maxLen; omega) (by omega) hbase
    obtain ⟨av, cv, hvv⟩ := own_slice7 hown
    rw [hvv] at hrun hs
    rw [← append_tu ht hu] at hrun
    unfold Oper.wp
    simp [execOp, ho, resolve, invoke, builtin, hs, hx, hrun, Result.andThen]
    refine hK _ _ (h v' w' (by rw [bv_app]; exact r1) r2 (fun e => hnn (r3.1 e).1) ?_)
    rcases r4 with e | e
    · exact .inl e
    · exact .inr (fun q hq => by rw [e] at hq; injection hq with hq; omega)
theorem strCells_bv (s : ByteArray) : Lib.strCells s = bv (sl s) := by
  unfold Lib.strCells bv sl
  simp
theorem append_text {ops : Array Oper} {rest : List Oper} {o : Oper} {a : Act} {Q : Exit → Act → World → Prop} {w : World} (hgd : o.guard = none) (s x : Operand) (t u : TypeId)
    (ho : o.op = .call { callee := .builtin .append, args := #[s, x], argTypes := #[t, u] }) (ht : Tryz.prog.underlying t = some (.slice 5)) (hu : Tryz.prog.underlying u = some .string) (B : Nat) (v : Value) (n : Nat) (ds : List Nat) (hs : a.eval s = v) (hown : w.ownsRow B 5 1 v n (bv ds)) (hnn : v ≠ .slice none 0 0)
    (str : ByteArray) (hx : a.eval x = .string str) (hlen : n + str.size ≤ 140737488355328) (hbase : B ≤ w.heap.size)
    (h : ∀ v' w', w'.ownsRow B 5 1 v' (n + str.size) (bv (ds ++ sl str)) → w.grownBy w' v.ownBlock → v' ≠ .slice none 0 0 → At7 w v v' → wpList Tryz.prog ops Q rest (a.put o.dst v') w') : wpList Tryz.prog ops Q (o :: rest) a w := by
  obtain ⟨i5, hi, hz0, hz1, hz2⟩ := info5_ex
  refine wpList_plain hgd fun K hK => ?_
  obtain ⟨v', w', hrun, r1, r2, r3⟩ := Lib.run_append_own_string (P := Tryz.prog) w B t u o.type 5 i5 ht hu hi hz0 hz1 hz2 v n (bv ds) hown str (by unfold maxLen; omega) hlen hbase
  have hat : v'.ownBlock = v.ownBlock ∨ ∀ q, v'.ownBlock = some q → w.heap.size ≤ q := by
    rcases hown.2 with ⟨e, _⟩ | ⟨g, cap, cur, rfl, hbg, hg, hnc, hcm, hcs, htake⟩
    · exact absurd e hnn
    · by_cases hroom : n + str.size ≤ cap
      · have hr := Lib.run_append_room_string (P := Tryz.prog) w t u o.type 5 i5 ht hu hi hz1 g n cap cur hg str hroom (by rw [hcs]; omega)
        rw [hrun] at hr
        injection hr with hr _
        rw [hr]
        exact .inl rfl
      · have holds : ∀ j x, (bv ds)[j]? = some x → w.cell? ((⟨g, 0, none⟩ : Addr).add j) = some x := hown.cells (g := g) rfl
        have hr := Lib.run_append_grow_string (P := Tryz.prog) w t u o.type 5 i5 (.int .u8 0) ht hu hi hz0 ⟨g, 0, none⟩ n cap (bv ds) (by rw [hz1]; exact hown.1) holds str (by omega) (by omega) (by rw [hz2]; exact growslice_fits (by omega) (by omega))
        rw [hrun] at hr
        injection hr with hr _
        rw [hr]
        exact .inr (fun q hq => Nat.le_of_eq (Option.some.inj hq))
  unfold Oper.wp
  simp [execOp, ho, resolve, invoke, builtin, hs, hx, hrun, Result.andThen]
  exact hK _ _ (h v' w' (by rw [bv_app, ← strCells_bv]; exact r1) r2 (fun e => hnn (r3.1 e).1) hat)
end
section
open Go.RowKit Go
theorem LayP.mk {w : World} {B : Nat} {v : Value} {n : Nat} {ds xs : List Nat} {w0 w' v' : _} {k : Nat} (hb : Below w.heap.size w w0) (hk : k = n + xs.length) (h1 : w'.ownsRow B 5 1 v' k (bv (ds ++ xs))) (h2 : w0.grownBy w' v.ownBlock) (h3 : v' ≠ .slice none 0 0) (h4 : v'.ownBlock = v.ownBlock ∨ ∀ q, v'.ownBlock = some q → w0.heap.size ≤ q) : LayP w B v n ds xs (.returned v') w' := by
  subst hk
  refine ⟨v', rfl, h1, h3, (Kp.of_below hb).grown h2 (fun _ _ e => e), ?_⟩
  rcases h4 with e | e
  · exact .inl e
  · exact .inr (fun q hq => Nat.le_trans hb.size (e q hq))
theorem LayP.step {w : World} {B : Nat} {v : Value} {n : Nat} {ds xs : List Nat} {w0 w' v' : _} (hb : Below w.heap.size w w0) (h1 : w'.ownsRow B 5 1 v' (n + xs.length) (bv (ds ++ xs))) (h2 : Kp (fun q => v.ownBlock = some q) w0 w') (h3 : v' ≠ .slice none 0 0) (h4 : v'.ownBlock = v.ownBlock ∨ ∀ q, v'.ownBlock = some q → w0.heap.size ≤ q) : LayP w B v n ds xs (.returned v') w' := by
  refine ⟨v', rfl, h1, h3, (Kp.of_below hb).trans h2 (fun _ _ e => e), ?_⟩
  rcases h4 with e | e
  · exact .inl e
  · exact .inr (fun q hq => Nat.le_trans hb.size (e q hq))
theorem hlay_hl (m n : Nat) (hm : m ≤ 7) : hlay (m : Int) n = hl m n := by
  unfold hlay
  rw [if_pos (by omega), Int.toNat_natCast]
theorem hl_byte7 (m n : Nat) (hm : m ≤ 7) : ∀ x ∈ hl m n, x < 256 := by
  intro x hx
  unfold hl at hx
  rcases List.mem_cons.1 hx with e | e
  · rcases hinfo_cases n with h | h | h | h | h <;> omega
  · exact be_byte _ _ x e
theorem hsize_le7 (n : Nat) : hsize n ≤ 9 := by
  unfold hsize
  have := hwide_le (hinfo n)
  omega
theorem withHead_any (w : World) (B : Nat) (v : Value) (n : Nat) (ds : List Nat) (hown : w.ownsRow B 5 1 v n (bv ds)) (hnn : v ≠ .slice none 0 0) (hB : B ≤ w.heap.size) (hn : n ≤ 140737488350000) (m N : Nat) (hm : m ≤ 7) (hN : N < 18446744073709551616) :
    Calls Tryz.prog 188 #[v, .int .i64 (m : Nat), .int .u64 (N : Nat)] w (LayP w B v n ds (hl m N)) := by
  have HO := hide hown
  have HNN := hide hnn
  obtain ⟨a, c, hv⟩ := own_slice7 hown
  subst hv
  have HB := hide hB
  have HN := hide hn
  clear hown hnn hB hn
  go_enter Tryz.func188, Tryz.ntmps188
  go_wp2_with fail
  refine (lay_any (m : Int) N w (by omega) hN).mono ?_
  rintro e w1 ⟨v1, rfl, ho1, hb1⟩
  rw [hlay_hl m N hm] at ho1
  have HS1 := hide (BSl.own ho1 (hl_byte7 m N hm))
  have HO1 : Hid (w1.ownsRow B 5 1 (.slice a n c) n (bv ds)) := (Kp.of_below (S := fun _ => False) hb1).owns HO.out (fun _ _ h => h)
  have HB1 := hide hb1
  have HL : Hid (n + (hl m N).length ≤ 140737488355328) := by show _ ≤ _; rw [hl_len7]; have := hsize_le7 N; have := HN.out; omega
  clear ho1 hb1
  go_wp2_with (at_builtin; refine append_bytes rfl _ _ 26 26 rfl Tryz.underlying26 Tryz.underlying26 B _ n ds rfl HO1.out HNN.out _ (hl m N) rfl HS1.out HL.out (Nat.le_trans HB.out HB1.out.size) ?_)
  intro v2 w2 h1 h2 h3 h4
  have HF : Hid (LayP w B (.slice a n c) n ds (hl m N) (.returned v2) w2) := LayP.mk HB1.out rfl h1 h2 h3 h4
  clear h1 h2 h3 h4
  go_wp2_with fail
  go_ret
  exact HF.out
theorem lit1_bsl (w : World) (x : Nat) (z : Int) (hz : z = ((x : Nat) : Int)) (hx : x < 256) : Below w.heap.size w (w.alloc (.cells #[.int .u8 z] 5)) ∧ BSl (w.alloc (.cells #[.int .u8 z] 5)) (.slice (some ⟨w.heap.size, 0, none⟩) 1 1) [x] := by
  subst hz
  exact ⟨below_alloc4 w _, one_bsl w x hx⟩
theorem nullLay_any (w : World) (B : Nat) (v : Value) (n : Nat) (ds : List Nat) (hown : w.ownsRow B 5 1 v n (bv ds)) (hnn : v ≠ .slice none 0 0) (hB : B ≤ w.heap.size) (hn : n ≤ 140737488350000) :
    Calls Tryz.prog 201 #[.agg #[], v] w (LayP w B v n ds [246]) := by
  have HO := hide hown
  have HNN := hide hnn
  obtain ⟨a, c, hv⟩ := own_slice7 hown
  subst hv
  have HB := hide hB
  have HN := hide hn
  clear hown hnn hB hn
  have hb0 : Below w.heap.size w (w.alloc (.cells #[] 149)) := below_alloc4 w _
  have hl1 := lit1_bsl (w.alloc (.cells #[] 149)) 246 246 rfl (by decide)
  have hsz : (w.alloc (.cells #[] 149)).heap.size = w.heap.size + 1 := by simp
  have HB1 : Hid (Below w.heap.size w ((w.alloc (.cells #[] 149)).alloc (.cells #[.int .u8 246] 5))) := hb0.trans (hl1.1.mono hb0.size)
  have HS1 : Hid (BSl ((w.alloc (.cells #[] 149)).alloc (.cells #[.int .u8 246] 5)) (.slice (some ⟨w.heap.size + 1, 0, none⟩) 1 1) [246]) := by have h := hl1.2; rw [hsz] at h; exact h
  have HO1 : Hid (((w.alloc (.cells #[] 149)).alloc (.cells #[.int .u8 246] 5)).ownsRow B 5 1 (.slice a n c) n (bv ds)) := (Kp.of_below (S := fun _ => False) HB1.out).owns HO.out (fun _ _ h => h)
  clear hb0 hl1 hsz
  go_enter Tryz.func201, Tryz.ntmps201
  go_wp2_with (at_builtin; refine append_bytes rfl _ _ 26 26 rfl Tryz.underlying26 Tryz.underlying26 B _ n ds rfl HO1.out HNN.out _ [246] rfl HS1.out (by have := HN.out; show n + 1 ≤ _; omega) (Nat.le_trans HB.out HB1.out.size) ?_)
  intro v2 w2 h1 h2 h3 h4
  have HF : Hid (LayP w B (.slice a n c) n ds [246] (.returned v2) w2) := LayP.mk HB1.out rfl h1 h2 h3 h4
  clear h1 h2 h3 h4
  go_wp2_with fail
  go_ret
  exact HF.out
theorem trueLay_any (w : World) (B : Nat) (v : Value) (n : Nat) (ds : List Nat) (hown : w.ownsRow B 5 1 v n (bv ds)) (hnn : v ≠ .slice none 0 0) (hB : B ≤ w.heap.size) (hn : n ≤ 140737488350000) :
    Calls Tryz.prog 184 #[.bool true, v] w (LayP w B v n ds [245]) := by
  have HO := hide hown
  have HNN := hide hnn
  obtain ⟨a, c, hv⟩ := own_slice7 hown
  subst hv
  have HB := hide hB
  have HN := hide hn
  clear hown hnn hB hn
  have hb0 : Below w.heap.size w w := Below.refl _ _
  have hl1 := lit1_bsl w 245 245 rfl (by decide)
  have HB1 : Hid (Below w.heap.size w (w.alloc (.cells #[.int .u8 245] 5))) := hb0.trans (hl1.1.mono hb0.size)
  have HS1 := hide hl1.2
  have HO1 : Hid ((w.alloc (.cells #[.int .u8 245] 5)).ownsRow B 5 1 (.slice a n c) n (bv ds)) := (Kp.of_below (S := fun _ => False) HB1.out).owns HO.out (fun _ _ h => h)
  clear hb0 hl1
  go_enter Tryz.func184, Tryz.ntmps184
  go_wp2_with (at_builtin; refine append_bytes rfl _ _ 26 26 rfl Tryz.underlying26 Tryz.underlying26 B _ n ds rfl HO1.out HNN.out _ [245] rfl HS1.out (by have := HN.out; show n + 1 ≤ _; omega) (Nat.le_trans HB.out HB1.out.size) ?_)
  intro v2 w2 h1 h2 h3 h4
  have HF : Hid (LayP w B (.slice a n c) n ds [245] (.returned v2) w2) := LayP.mk HB1.out rfl h1 h2 h3 h4
  clear h1 h2 h3 h4
  go_wp2_with fail
  go_ret
  exact HF.out
theorem falseLay_any (w : World) (B : Nat) (v : Value) (n : Nat) (ds : List Nat) (hown : w.ownsRow B 5 1 v n (bv ds)) (hnn : v ≠ .slice none 0 0) (hB : B ≤ w.heap.size) (hn : n ≤ 140737488350000) :
    Calls Tryz.prog 184 #[.bool false, v] w (LayP w B v n ds [244]) := by
  have HO := hide hown
  have HNN := hide hnn
  obtain ⟨a, c, hv⟩ := own_slice7 hown
  subst hv
  have HB := hide hB
  have HN := hide hn
  clear hown hnn hB hn
  have hb0 : Below w.heap.size w w := Below.refl _ _
  have hl1 := lit1_bsl w 244 244 rfl (by decide)
  have HB1 : Hid (Below w.heap.size w (w.alloc (.cells #[.int .u8 244] 5))) := hb0.trans (hl1.1.mono hb0.size)
  have HS1 := hide hl1.2
  have HO1 : Hid ((w.alloc (.cells #[.int .u8 244] 5)).ownsRow B 5 1 (.slice a n c) n (bv ds)) := (Kp.of_below (S := fun _ => False) HB1.out).owns HO.out (fun _ _ h => h)
  clear hb0 hl1
  go_enter Tryz.func184, Tryz.ntmps184
  go_wp2_with (at_builtin; refine append_bytes rfl _ _ 26 26 rfl Tryz.underlying26 Tryz.underlying26 B _ n ds rfl HO1.out HNN.out _ [244] rfl HS1.out (by have := HN.out; show n + 1 ≤ _; omega) (Nat.le_trans HB.out HB1.out.size) ?_)
  intro v2 w2 h1 h2 h3 h4
  have HF : Hid (LayP w B (.slice a n c) n ds [244] (.returned v2) w2) := LayP.mk HB1.out rfl h1 h2 h3 h4
  clear h1 h2 h3 h4
  go_wp2_with fail
  go_ret
  exact HF.out
theorem wholeLay_any (w : World) (B : Nat) (v : Value) (n : Nat) (ds : List Nat) (hown : w.ownsRow B 5 1 v n (bv ds)) (hnn : v ≠ .slice none 0 0) (hB : B ≤ w.heap.size) (hn : n ≤ 140737488350000) (g : Bool) (N : Nat) (hN : N < 18446744073709551616) :
    Calls Tryz.prog 186 #[.agg #[.bool g, .int .u64 (N : Nat)], v] w (LayP w B v n ds (hl (if g = true then 1 else 0) N)) := by
  have HO := hide hown
  have HNN := hide hnn
  obtain ⟨a, c, hv⟩ := own_slice7 hown
  subst hv
  have HB := hide hB
  have HN := hide hn
  clear hown hnn hB hn
  have hb0 := below_alloc4 w (.cells #[.bool g, .int .u64 (N : Nat)] 141)
  have HB1 := hide hb0
  have HO1 : Hid ((w.alloc (.cells #[.bool g, .int .u64 (N : Nat)] 141)).ownsRow B 5 1 (.slice a n c) n (bv ds)) := (Kp.of_below (S := fun _ => False) hb0).owns HO.out (fun _ _ h => h)
  have HFN : Hid (∀ m : Nat, m ≤ 7 → Calls Tryz.prog 188 #[.slice a n c, .int .i64 (m : Nat), .int .u64 (N : Nat)] (w.alloc (.cells #[.bool g, .int .u64 (N : Nat)] 141)) (LayP (w.alloc (.cells #[.bool g, .int .u64 (N : Nat)] 141)) B (.slice a n c) n ds (hl m N))) := fun m hm => withHead_any _ B _ n ds HO1.out HNN.out (Nat.le_trans HB.out hb0.size) HN.out m N hm hN
  clear hb0
  cases g with
  | true =>
    go_enter Tryz.func186, Tryz.ntmps186
    go_wp2_with fail
    refine (HFN.out 1 (by decide)).mono ?_
    rintro e w2 ⟨v2, rfl, h1, h3, h2, h4⟩
    have HF : Hid (LayP w B (.slice a n c) n ds (hl 1 N) (.returned v2) w2) := LayP.step HB1.out h1 h2 h3 h4
    clear h1 h2 h3 h4
    go_wp2_with fail
    go_ret
    exact HF.out
  | false =>
    go_enter Tryz.func186, Tryz.ntmps186
    go_wp2_with fail
    refine (HFN.out 0 (by decide)).mono ?_
    rintro e w2 ⟨v2, rfl, h1, h3, h2, h4⟩
    have HF : Hid (LayP w B (.slice a n c) n ds (hl 0 N) (.returned v2) w2) := LayP.step HB1.out h1 h2 h3 h4
    clear h1 h2 h3 h4
    go_wp2_with fail
    go_ret
    exact HF.out
end
section
open Go.RowKit Go
theorem LayP.two {w : World} {B : Nat} {v : Value} {n k : Nat} {ds xs ys : List Nat} {w1 w2 : World} {v2 v3 : Value} (hk : Kp (fun q => v.ownBlock = some q) w w1) (ha : At7 w v v2) (h0 : k = n + xs.length + ys.length) (h1 : w2.ownsRow B 5 1 v3 k (bv (ds ++ (xs ++ ys)))) (h2 : Kp (fun q => v2.ownBlock = some q) w1 w2) (h3 : v3 ≠ .slice none 0 0) (h4 : At7 w1 v2 v3) : LayP w B v n ds (xs ++ ys) (.returned v3) w2 := by
  subst h0
  refine ⟨v3, rfl, by rw [List.length_append, ← Nat.add_assoc]; exact h1, h3, hk.trans h2 (fun q hq e => ?_), ?_⟩
  · rcases ha with e2 | e2
    · rw [← e2]; exact e
    · have := e2 q e
      omega
  · rcases h4 with e | e
    · rcases ha with e2 | e2
      · exact .inl (e.trans e2)
      · exact .inr (fun q hq => e2 q (by rw [← e]; exact hq))
    · exact .inr (fun q hq => Nat.le_trans hk.size (e q hq))
theorem kp_grown {w1 w2 : World} {v2 : Value} (h : w1.grownBy w2 v2.ownBlock) : Kp (fun q => v2.ownBlock = some q) w1 w2 := (Kp.refl _ _).grown h (fun _ _ e => e)
theorem textLay_any (w : World) (B : Nat) (v : Value) (n : Nat) (ds : List Nat) (hown : w.ownsRow B 5 1 v n (bv ds)) (hnn : v ≠ .slice none 0 0) (hB : B ≤ w.heap.size) (hn : n ≤ 140737488350000) (s : ByteArray) (hs : n + s.size ≤ 140737488350000) :
    Calls Tryz.prog 192 #[.string s, v] w (LayP w B v n ds (kfm s)) := by
  have HSZ := hide hs
  have hs2 : s.size < 9223372036854775808 := by omega
  have HO := hide hown
  have HNN := hide hnn
  obtain ⟨a, c, hv⟩ := own_slice7 hown
  subst hv
  have HB := hide hB
  have HN := hide hn
  clear hown hnn hB hn
  have HWH := hide (withHead_any w B _ n ds HO.out HNN.out HB.out HN.out 3 s.size (by decide) (by omega))
  clear hs
  go_enter Tryz.func192, Tryz.ntmps192
  go_wp2_with fail
  refine HWH.out.mono ?_
  rintro e w1 ⟨v2, rfl, h1, h3, h2, h4⟩
  have HO1 := hide h1
  have HNN1 := hide h3
  have HKP := hide h2
  have HAT : Hid (At7 w (.slice a n c) v2) := h4
  have HB1 : Hid (B ≤ w1.heap.size) := Nat.le_trans HB.out h2.size
  have HLN : Hid (n + (hl 3 s.size).length + s.size ≤ 140737488355328) := by show _ ≤ _; rw [hl_len7]; have := hsize_le7 s.size; have := HSZ.out; omega
  clear h1 h2 h3 h4 HWH
  go_wp2_with (at_builtin; refine append_text rfl _ _ 26 143 rfl Tryz.underlying26 Tryz.underlying143 B _ (n + (hl 3 s.size).length) (ds ++ hl 3 s.size) rfl HO1.out HNN1.out s rfl HLN.out HB1.out ?_)
  intro v3 w2 h1 h2 h3 h4
  have HF : Hid (LayP w B (.slice a n c) n ds (kfm s) (.returned v3) w2) := by
    show LayP w B _ n ds _ _ _
    unfold kfm
    rw [sl_len7]
    exact LayP.two HKP.out HAT.out (by rw [sl_len7]) h1 (kp_grown h2) h3 h4
  clear h1 h2 h3 h4
  go_wp2_with fail
  go_ret
  exact HF.out
theorem bsl_kp7 {w w' : World} {vb v : Value} {y : List Nat} (h : BSl w vb y) (hv : y ≠ [] → ∀ q, vb.ownBlock = some q → v.ownBlock ≠ some q) (hk : Kp (fun q => v.ownBlock = some q) w w') : BSl w' vb y := by
  by_cases e : y = []
  · rw [e] at h ⊢
    exact bsl_nil6 h
  · exact hk.bsl h (hv e)
theorem octetsLay_any (w : World) (B : Nat) (v : Value) (n : Nat) (ds : List Nat) (hown : w.ownsRow B 5 1 v n (bv ds)) (hnn : v ≠ .slice none 0 0) (hB : B ≤ w.heap.size) (hn : n ≤ 140737488350000) (vb : Value) (y : List Nat) (hy : BSl w vb y) (hyv : y ≠ [] → ∀ q, vb.ownBlock = some q → v.ownBlock ≠ some q) (hs : n + y.length ≤ 140737488350000) :
    Calls Tryz.prog 195 #[vb, v] w (LayP w B v n ds (hl 2 y.length ++ y)) := by
  have HSZ := hide hs
  have HY := hide hy
  have HYV := hide hyv
  have hs2 : y.length < 9223372036854775808 := by omega
  have HO := hide hown
  have HNN := hide hnn
  obtain ⟨a, c, hv⟩ := own_slice7 hown
  subst hv
  have HB := hide hB
  have HN := hide hn
  clear hown hnn hB hn
  obtain ⟨⟨ab, cb, hvb, _, _⟩, _, _⟩ := hy
  subst hvb
  have HWH := hide (withHead_any w B _ n ds HO.out HNN.out HB.out HN.out 2 y.length (by decide) (by omega))
  clear hs hyv
  go_enter Tryz.func195, Tryz.ntmps195
  go_wp2_with fail
  refine HWH.out.mono ?_
  rintro e w1 ⟨v2, rfl, h1, h3, h2, h4⟩
  have HO1 := hide h1
  have HNN1 := hide h3
  have HKP := hide h2
  have HAT : Hid (At7 w (.slice a n c) v2) := h4
  have HB1 : Hid (B ≤ w1.heap.size) := Nat.le_trans HB.out h2.size
  have HLN : Hid (n + (hl 2 y.length).length + y.length ≤ 140737488355328) := by show _ ≤ _; rw [hl_len7]; have := hsize_le7 y.length; have := HSZ.out; omega
  have HY1 := hide (bsl_kp7 HY.out HYV.out h2)
  clear h1 h2 h3 h4 HWH
  go_wp2_with (at_builtin; refine append_bytes rfl _ _ 26 144 rfl Tryz.underlying26 Tryz.underlying144 B _ (n + (hl 2 y.length).length) (ds ++ hl 2 y.length) rfl HO1.out HNN1.out _ y rfl HY1.out HLN.out HB1.out ?_)
  intro v3 w2 h1 h2 h3 h4
  have HF : Hid (LayP w B (.slice a n c) n ds (hl 2 y.length ++ y) (.returned v3) w2) := LayP.two HKP.out HAT.out rfl h1 (kp_grown h2) h3 h4
  clear h1 h2 h3 h4
  go_wp2_with fail
  go_ret
  exact HF.out
theorem listLay_any (w : World) (B : Nat) (v : Value) (n : Nat) (ds : List Nat) (hown : w.ownsRow B 5 1 v n (bv ds)) (hnn : v ≠ .slice none 0 0) (hB : B ≤ w.heap.size) (hn : n ≤ 140737488350000) (ai : Option Addr) (k ci : Nat) (hk : k ≤ 140737488351232) :
    Calls Tryz.prog 197 #[.slice ai k ci, v] w (LayP w B v n ds (hl 4 k)) := by
  have HO := hide hown
  have HNN := hide hnn
  obtain ⟨a, c, hv⟩ := own_slice7 hown
  subst hv
  have HB := hide hB
  have HN := hide hn
  clear hown hnn hB hn
  have HWH := hide (withHead_any w B _ n ds HO.out HNN.out HB.out HN.out 4 k (by decide) (by omega))
  go_enter Tryz.func197, Tryz.ntmps197
  go_wp2_with fail
  refine HWH.out.mono ?_
  rintro e w1 ⟨v2, rfl, h1, h3, h2, h4⟩
  have HF : Hid (LayP w B (.slice a n c) n ds (hl 4 k) (.returned v2) w1) := ⟨v2, rfl, h1, h3, h2, h4⟩
  clear h1 h2 h3 h4 HWH
  go_wp2_with fail
  go_ret
  exact HF.out
theorem entriesLay_any (w : World) (B : Nat) (v : Value) (n : Nat) (ds : List Nat) (hown : w.ownsRow B 5 1 v n (bv ds)) (hnn : v ≠ .slice none 0 0) (hB : B ≤ w.heap.size) (hn : n ≤ 140737488350000) (ak : Option Addr) (k ck : Nat) (vi : Value) (hk : k ≤ 140737488351232) :
    Calls Tryz.prog 199 #[.agg #[.slice ak k ck, vi], v] w (LayP w B v n ds (hl 5 k)) := by
  have HO := hide hown
  have HNN := hide hnn
  obtain ⟨a, c, hv⟩ := own_slice7 hown
  subst hv
  have HB := hide hB
  have HN := hide hn
  clear hown hnn hB hn
  have hb0 := below_alloc4 w (.cells #[.slice ak k ck, vi] 148)
  have HB1 := hide hb0
  have HWH := hide (withHead_any (w.alloc (.cells #[.slice ak k ck, vi] 148)) B _ n ds ((Kp.of_below (S := fun _ => False) hb0).owns HO.out (fun _ _ h => h)) HNN.out (Nat.le_trans HB.out hb0.size) HN.out 5 k (by decide) (by omega))
  clear hb0
  go_enter Tryz.func199, Tryz.ntmps199
  go_wp2_with fail
  refine HWH.out.mono ?_
  rintro e w1 ⟨v2, rfl, h1, h3, h2, h4⟩
  have HF : Hid (LayP w B (.slice a n c) n ds (hl 5 k) (.returned v2) w1) := LayP.step HB1.out h1 h2 h3 h4
  clear h1 h2 h3 h4 HWH
  go_wp2_with fail
  go_ret
  exact HF.out
end
section
open Go.RowKit Go
theorem LayP.out {w w' : World} {B : Nat} {v v2 : Value} {n : Nat} {ds xs : List Nat} (h : LayP w B v n ds xs (.returned v2) w') : w'.ownsRow B 5 1 v2 (n + xs.length) (bv (ds ++ xs)) ∧ v2 ≠ .slice none 0 0 ∧ Kp (fun q => v.ownBlock = some q) w w' ∧ At7 w v v2 := by
  obtain ⟨v', e, h1, h2, h3, h4⟩ := h
  injection e with e
  subst e
  exact ⟨h1, h2, h3, h4⟩
theorem floatLay_any (w : World) (B : Nat) (v : Value) (n : Nat) (ds : List Nat) (hown : w.ownsRow B 5 1 v n (bv ds)) (hnn : v ≠ .slice none 0 0) (hB : B ≤ w.heap.size) (hn : n ≤ 140737488350000) (b : Nat) (hb : b < 18446744073709551616) :
    Calls Tryz.prog 190 #[.int .u64 (b : Nat), v] w (LayP w B v n ds (251 :: be 8 b)) := by
  have HBB := hide hb
  have HO := hide hown
  have HNN := hide hnn
  obtain ⟨a, c, hv⟩ := own_slice7 hown
  subst hv
  have HB := hide hB
  have HN := hide hn
  clear hown hnn hB hn
  have hl1 := lit1_bsl w 251 251 rfl (by decide)
  have HB1 := hide hl1.1
  have HS1 := hide hl1.2
  have HO1 : Hid ((w.alloc (.cells #[.int .u8 251] 5)).ownsRow B 5 1 (.slice a n c) n (bv ds)) := (Kp.of_below (S := fun _ => False) HB1.out).owns HO.out (fun _ _ h => h)
  clear hl1 hb
  go_enter Tryz.func190, Tryz.ntmps190
  go_wp2_with (at_builtin; refine append_bytes rfl _ _ 26 26 rfl Tryz.underlying26 Tryz.underlying26 B _ n ds rfl HO1.out HNN.out _ [251] rfl HS1.out (by have := HN.out; show n + 1 ≤ _; omega) (Nat.le_trans HB.out HB1.out.size) ?_)
  intro v2 w2 h1 h2 h3 h4
  have HF : Hid (LayP w B (.slice a n c) n ds [251] (.returned v2) w2) := LayP.mk HB1.out rfl h1 h2 h3 h4
  clear h1 h2 h3 h4
  go_wp2_with fail
  go_loopw [1, 9] (fun bb q wr => ∃ (k : Nat) (L : List Nat), k ≤ 8 ∧ q = .int .i64 (k : Nat) ∧ Hid (L = 251 :: (be 8 b).take k) ∧ Hid (LayP w B (.slice a n c) n ds L (.returned bb) wr)) (fun _ q _ => 8 - (intOf q).toNat)
  case atStart => exact ⟨0, [251], by omega, rfl, hide rfl, HF⟩
  case round =>
    rename World => wr
    obtain ⟨k, L, hk, rfl, HLL, HL⟩ := hrel
    clear HF
    by_cases hlt : k < 8
    · have hlt' : (k : Int) < 8 := by omega
      have e7 : IntKind.i64.wrap (7 - (k : Int)) = ((7 - k : Nat) : Int) := by rw [IntKind.wrap_i64]; omega
      have HTK : Hid ((be 8 b).take (k + 1) = (be 8 b).take k ++ [b / 256 ^ (7 - k) % 256]) := by
        show _ = _
        rw [show 7 - k = 8 - 1 - k by omega, ← be_get 8 b k hlt]
        exact take_snoc _ _ (by rw [be_len]; exact hlt)
      have hq8 : 7 - k < 8 := by omega
      have HK := hide hk
      have HLT := hide hlt
      clear hk hlt
      generalize 7 - k = q at *
      have hc : ((b / 256 ^ q % 256 : Nat) : Int) = (b : Int) / 2 ^ (8 * q) % 256 := by rw [pow_int8]; omega
      have hl2 := lit1_bsl wr (b / 256 ^ q % 256) ((b : Int) / 2 ^ (8 * q) % 256) hc.symm (Nat.mod_lt _ (by decide))
      obtain ⟨o1, o2, o3, o4⟩ := HL.out.out
      obtain ⟨ar, cr, hvr⟩ := own_slice7 o1
      subst hvr
      have HBR := hide hl2.1
      have HSR := hide hl2.2
      have HOR : Hid ((wr.alloc (.cells #[.int .u8 ((b : Int) / 2 ^ (8 * q) % 256)] 5)).ownsRow B 5 1 (.slice ar (n + L.length) cr) (n + L.length) (bv (ds ++ L))) := (Kp.of_below (S := fun _ => False) HBR.out).owns o1 (fun _ _ h => h)
      have HNR := hide o2
      have HKR : Hid (Kp (fun q => (Value.slice a n c).ownBlock = some q) w (wr.alloc (.cells #[.int .u8 ((b : Int) / 2 ^ (8 * q) % 256)] 5))) := o3.trans (Kp.of_below (S := fun q => (Value.slice a n c).ownBlock = some q) HBR.out) (fun _ _ e => e)
      have HAR := hide o4
      have HBz : Hid (B ≤ (wr.alloc (.cells #[.int .u8 ((b : Int) / 2 ^ (8 * q) % 256)] 5)).heap.size) := Nat.le_trans HB.out (Nat.le_trans o3.size HBR.out.size)
      have HLZ : Hid (n + L.length + 1 ≤ 140737488355328) := by show _ ≤ _; rw [HLL.out, List.length_cons, List.length_take]; have := HN.out; have := HLT.out; omega
      have e8 : IntKind.i64.wrap (8 * (q : Int)) = 8 * (q : Int) := by rw [IntKind.wrap_i64]; omega
      clear hl2 o1 o2 o3 o4 hc
      go_wp2_with (at_builtin; refine append_bytes rfl _ _ 26 26 rfl Tryz.underlying26 Tryz.underlying26 B _ (n + L.length) (ds ++ L) rfl HOR.out HNR.out _ [b / 256 ^ q % 256] rfl HSR.out HLZ.out HBz.out ?_)
      intro v3 w3 h1 h2 h3 h4
      have HF3 : Hid (LayP w B (.slice a n c) n ds (L ++ [b / 256 ^ q % 256]) (.returned v3) w3) := LayP.two HKR.out HAR.out rfl (by simpa using h1) (kp_grown h2) h3 h4
      have HL3 : Hid (L ++ [b / 256 ^ q % 256] = 251 :: (be 8 b).take (k + 1)) := by show _ = _; rw [HTK.out, HLL.out]; rfl
      clear h1 h2 h3 h4 HOR HNR HKR HAR HBz HLZ HBR HSR
      go_wp2_with fail
      go_roundw
      case rel => exact ⟨k + 1, _, by have := HLT.out; omega, by go_num, HL3, HF3⟩
      case measure => have := HLT.out; simp [intOf]; omega
    · have hlt' : ¬ (k : Int) < 8 := by omega
      have HE : Hid (LayP w B (.slice a n c) n ds (251 :: be 8 b) (.returned u1) wr) := by
        have h := HL.out
        rw [HLL.out, show k = 8 by omega, List.take_of_length_le (by rw [be_len]; exact Nat.le_refl _)] at h
        exact h
      clear hlt
      go_wp2_with fail
      go_ret
      exact HE.out
end
section
open Go.RowKit Go
theorem nameLay_any (w : World) (B : Nat) (v : Value) (n : Nat) (ds : List Nat) (hown : w.ownsRow B 5 1 v n (bv ds)) (hnn : v ≠ .slice none 0 0) (hB : B ≤ w.heap.size) (hn : n ≤ 140737488350000) (vb : Value) (y : List Nat) (hy : BSl w vb y) (hy0 : y ≠ []) (hyv : ∀ q, vb.ownBlock = some q → v.ownBlock ≠ some q) (hs : n + 10 + y.length ≤ 140737488350000) :
    Calls Tryz.prog 203 #[.agg #[vb], v] w (LayP w B v n ds (hl 6 42 ++ (hl 2 y.length ++ y))) := by
  have HSZ := hide hs
  have HY := hide hy
  have HYV := hide hyv
  have HO := hide hown
  have HNN := hide hnn
  obtain ⟨a, c, hv⟩ := own_slice7 hown
  subst hv
  have HB := hide hB
  have HN := hide hn
  clear hown hnn hB hn
  obtain ⟨⟨ab, cb, hvb, _, _⟩, _, _⟩ := hy
  subst hvb
  have hb0 := below_alloc4 w (.cells #[.slice ab y.length cb] 188)
  have HB0 := hide hb0
  have HG0 := hide (heap_alloc_new w (.cells #[.slice ab y.length cb] 188))
  have HVL : Hid (∀ q, (Value.slice a n c).ownBlock = some q → q < w.heap.size) := fun q hq => (HO.out.lt q hq).2
  clear hs hyv hb0
  go_enter Tryz.func203, Tryz.ntmps203
  go_upto_region 1 with fail
  generalize w.alloc (.cells #[.slice ab y.length cb] 188) = w0 at *
  have HO0 : Hid (w0.ownsRow B 5 1 (.slice a n c) n (bv ds)) := (Kp.of_below (S := fun _ => False) HB0.out).owns HO.out (fun _ _ h => h)
  have HBz : Hid (B ≤ w0.heap.size) := Nat.le_trans HB.out HB0.out.size
  refine heldStart (S := fun wy => wy.heap[w.heap.size]? = some (.cells #[.slice ab y.length cb] 188 (0, 0))) (by kernel_rfl) ?_
  have hS : w0.drew.heap[w.heap.size]? = some (.cells #[.slice ab y.length cb] 188 (0, 0)) := HG0.out
  refine heldTake 0 _ rfl (by kernel_rfl) (by kernel_rfl) (by kernel_rfl) (fun _ _ _ h => h) rfl hS (fun wy hy => by first | (go_simp; done) | (go_simp; rfl) | rfl) ?_
  (try simp only [Act.put]); (try simp only [LsA, Ls0, LsS])
  refine heldTake 1 _ rfl (by kernel_rfl) (by kernel_rfl) (by kernel_rfl) (fun _ _ _ h => h) rfl hS (fun wy hy => by have h0 := blk_cell (j := 0) (v := .slice ab y.length cb) hy rfl; first | (go_simp; done) | (go_simp; rfl) | rfl) ?_
  (try simp only [Act.put]); (try simp only [LsA, Ls0, LsS])
  refine heldTake 2 _ rfl (by kernel_rfl) (by kernel_rfl) (by kernel_rfl) (fun _ _ _ h => h) rfl hS (fun wy hy => by first | (go_simp; done) | (go_simp; rfl) | rfl) ?_
  (try simp only [Act.put]); (try simp only [LsA, Ls0, LsS])
  refine heldStep 3 rfl (by kernel_rfl) (fun K hK => ?_)
  go_simp
  refine (withHead_any w0.drew B _ n ds ((Kp.of_below (S := fun _ => False) (by refine Below.drew ?_; exact Below.refl _ _ : Below w0.heap.size w0 w0.drew)).owns HO0.out (fun _ _ h => h)) HNN.out HBz.out HN.out 6 42 (by decide) (by decide)).mono ?_
  rintro e w2 ⟨v2, rfl, h1, h3, h2, h4⟩
  have hkw : Kp (fun q => (Value.slice a n c).ownBlock = some q) w w2 := ((Kp.of_below (S := fun q => (Value.slice a n c).ownBlock = some q) HB0.out).drew).trans h2 (fun _ _ e => e)
  have haw : At7 w (.slice a n c) v2 := by
    rcases h4 with e | e
    · exact .inl e
    · exact .inr (fun q hq => Nat.le_trans HB0.out.size (e q hq))
  have HNB : Hid (v2.ownBlock ≠ some w.heap.size) := fun e => by
    rcases h4 with e2 | e2
    · exact Nat.lt_irrefl _ (HVL.out _ (e2.symm.trans e))
    · have h6 := e2 _ e
      have h7 := blk_lt HG0.out
      exact Nat.lt_irrefl _ (Nat.lt_of_lt_of_le h7 h6)
  refine (Hid.out hK) _ _ ((h2.block _ (blk_lt HG0.out) (fun e => Nat.lt_irrefl _ (HVL.out _ e))).trans HG0.out) (fun hS2 => ?_)
  clear hK K hS
  have hS := hS2
  clear hS2
  (try simp only [Act.put]); (try simp only [LsA, Ls0, LsS])
  have HO2 := hide h1
  have HN2 := hide h3
  have HK2 := hide hkw
  have HA2 := hide haw
  have HL6 : Hid ((hl 6 42).length = 2) := rfl
  clear h1 h2 h3 h4 hkw haw
  obtain ⟨a2, c2, hv2⟩ := own_slice7 HO2.out
  subst hv2
  have HY2 := hide (HK2.out.bsl HY.out (fun k hk e => HYV.out k hk e))
  have HYV2 : Hid (∀ q, (Value.slice ab y.length cb).ownBlock = some q → (Value.slice a2 (n + (hl 6 42).length) c2).ownBlock ≠ some q) := fun q hq e => by
    rcases HA2.out with e2 | e2
    · exact HYV.out q hq (e2.symm.trans e)
    · have h5 := own_lt HY.out hy0 hq
      have := e2 q e
      omega
  have HB2 : Hid (B ≤ w2.heap.size) := Nat.le_trans HB.out HK2.out.size
  refine heldStep 4 rfl (by kernel_rfl) (fun K hK => ?_)
  go_simp
  refine (octetsLay_any w2 B _ (n + (hl 6 42).length) (ds ++ hl 6 42) HO2.out HN2.out HB2.out (by have := HSZ.out; have := HL6.out; omega) _ y HY2.out (fun _ => HYV2.out) (by have := HSZ.out; have := HL6.out; omega)).mono ?_
  rintro e w3 ⟨v3, rfl, h1, h3, h2, h4⟩
  refine (Hid.out hK) _ _ ((h2.block _ (blk_lt hS) HNB.out).trans hS) (fun hS2 => ?_)
  clear hK K hS
  have hS := hS2
  clear hS2
  (try simp only [Act.put]); (try simp only [LsA, Ls0, LsS])
  have HF : Hid (LayP w B (.slice a n c) n ds (hl 6 42 ++ (hl 2 y.length ++ y)) (.returned v3) w3) := LayP.two HK2.out HA2.out rfl (by rw [← List.append_assoc]; exact h1) h2 h3 h4
  clear h1 h2 h3 h4
  refine heldTake 5 _ rfl (by kernel_rfl) (by kernel_rfl) (by kernel_rfl) (fun _ _ _ h => h) rfl hS (fun wy hy => by first | (go_simp; done) | (go_simp; rfl) | rfl) ?_
  (try simp only [Act.put]); (try simp only [LsA, Ls0, LsS])
  refine heldDone (by kernel_rfl) ?_
  clear hS
  go_wp2_with fail
  go_ret
  exact HF.out
end
section
open Go.RowKit Go
theorem sizeOf7_any (k : Nat) (hk : k < 9223372036854775808) (w : World) : Calls Tryz.prog 194 #[.int .i64 (k : Nat)] w fun e w' => e = .returned (.int .i64 (hsize k : Nat)) ∧ w' = w := by
  go_enter Tryz.func194, Tryz.ntmps194
  go_wp2_with fail
  refine (size_any k w (by omega)).mono ?_
  rintro e w1 ⟨rfl, hw1⟩
  have hw1 := hw1.symm
  subst hw1
  go_wp2_with fail
  go_ret
  exact ⟨rfl, rfl⟩
theorem nullSize_any (w : World) : Calls Tryz.prog 202 #[.agg #[]] w fun e w' => e = .returned (.int .i64 ((1 : Nat) : Int)) ∧ Below w.heap.size w w' := by
  have HB := hide (below_alloc4 w (.cells #[] 149))
  go_enter Tryz.func202, Tryz.ntmps202
  go_wp2_with fail
  go_ret
  exact ⟨rfl, HB.out⟩
theorem truthSize_any (b : Bool) (w : World) : Calls Tryz.prog 185 #[.bool b] w fun e w' => e = .returned (.int .i64 ((1 : Nat) : Int)) ∧ Below w.heap.size w w' := by
  go_enter Tryz.func185, Tryz.ntmps185
  go_wp2_with fail
  go_ret
  exact ⟨rfl, Below.refl _ _⟩
theorem floatSize_any (b : Nat) (w : World) : Calls Tryz.prog 191 #[.int .u64 (b : Nat)] w fun e w' => e = .returned (.int .i64 ((9 : Nat) : Int)) ∧ Below w.heap.size w w' := by
  go_enter Tryz.func191, Tryz.ntmps191
  go_wp2_with fail
  go_ret
  exact ⟨rfl, Below.refl _ _⟩
theorem wholeSize_any (g : Bool) (N : Nat) (hN : N < 18446744073709551616) (w : World) : Calls Tryz.prog 187 #[.agg #[.bool g, .int .u64 (N : Nat)]] w fun e w' => e = .returned (.int .i64 (hsize N : Nat)) ∧ Below w.heap.size w w' := by
  have HB := hide (below_alloc4 w (.cells #[.bool g, .int .u64 (N : Nat)] 141))
  have HSZ := hide (size_any N (w.alloc (.cells #[.bool g, .int .u64 (N : Nat)] 141)) hN)
  clear hN
  go_enter Tryz.func187, Tryz.ntmps187
  go_wp2_with fail
  refine HSZ.out.mono ?_
  rintro e w1 ⟨rfl, hw1⟩
  subst hw1
  go_wp2_with fail
  go_ret
  exact ⟨rfl, HB.out⟩
theorem textSize_any (s : ByteArray) (hs : s.size ≤ 140737488351232) (w : World) : Calls Tryz.prog 193 #[.string s] w fun e w' => e = .returned (.int .i64 ((hsize s.size + s.size : Nat) : Int)) ∧ Below w.heap.size w w' := by
  have HSZ := hide (sizeOf7_any s.size (by omega) w)
  have hle := hsize_le7 s.size
  have e1 : IntKind.i64.wrap ((hsize s.size : Int) + (s.size : Int)) = ((hsize s.size + s.size : Nat) : Int) := by rw [IntKind.wrap_i64]; omega
  clear hle
  go_enter Tryz.func193, Tryz.ntmps193
  go_wp2_with fail
  refine HSZ.out.mono ?_
  rintro e w1 ⟨rfl, hw1⟩
  have hw1 := hw1.symm
  subst hw1
  go_wp2_with fail
  go_ret
  exact ⟨by simp, Below.refl _ _⟩
theorem octetsSize_any (av : Option Addr) (k cv : Nat) (hk : k ≤ 140737488351232) (w : World) : Calls Tryz.prog 196 #[.slice av k cv] w fun e w' => e = .returned (.int .i64 ((hsize k + k : Nat) : Int)) ∧ w' = w := by
  have HSZ := hide (sizeOf7_any k (by omega) w)
  have hle := hsize_le7 k
  have e1 : IntKind.i64.wrap ((hsize k : Int) + (k : Int)) = ((hsize k + k : Nat) : Int) := by rw [IntKind.wrap_i64]; omega
  clear hle
  go_enter Tryz.func196, Tryz.ntmps196
  go_wp2_with fail
  refine HSZ.out.mono ?_
  rintro e w1 ⟨rfl, hw1⟩
  have hw1 := hw1.symm
  subst hw1
  go_wp2_with fail
  go_ret
  exact ⟨by simp, rfl⟩
theorem listSize_any (av : Option Addr) (k cv : Nat) (hk : k ≤ 140737488351232) (w : World) : Calls Tryz.prog 198 #[.slice av k cv] w fun e w' => e = .returned (.int .i64 (hsize k : Nat)) ∧ Below w.heap.size w w' := by
  have HSZ := hide (sizeOf7_any k (by omega) w)
  go_enter Tryz.func198, Tryz.ntmps198
  go_wp2_with fail
  refine HSZ.out.mono ?_
  rintro e w1 ⟨rfl, hw1⟩
  have hw1 := hw1.symm
  subst hw1
  go_wp2_with fail
  go_ret
  exact ⟨rfl, Below.refl _ _⟩
theorem entriesSize_any (ak : Option Addr) (k ck : Nat) (vi : Value) (hk : k ≤ 140737488351232) (w : World) : Calls Tryz.prog 200 #[.agg #[.slice ak k ck, vi]] w fun e w' => e = .returned (.int .i64 (hsize k : Nat)) ∧ Below w.heap.size w w' := by
  have HB := hide (below_alloc4 w (.cells #[.slice ak k ck, vi] 148))
  have HSZ := hide (sizeOf7_any k (by omega) (w.alloc (.cells #[.slice ak k ck, vi] 148)))
  go_enter Tryz.func200, Tryz.ntmps200
  go_wp2_with fail
  refine HSZ.out.mono ?_
  rintro e w1 ⟨rfl, hw1⟩
  subst hw1
  go_wp2_with fail
  go_ret
  exact ⟨rfl, HB.out⟩
theorem nameSize_any (av : Option Addr) (k cv : Nat) (hk : k ≤ 140737488351232) (w : World) : Calls Tryz.prog 204 #[.agg #[.slice av k cv]] w fun e w' => e = .returned (.int .i64 ((hsize 42 + (hsize k + k) : Nat) : Int)) ∧ Below w.heap.size w w' := by
  have HB := hide (below_alloc4 w (.cells #[.slice av k cv] 188))
  have HK := hide hk
  have hle := hsize_le7 k
  have e1 : IntKind.i64.wrap ((hsize 42 : Int) + ((hsize k + k : Nat) : Int)) = ((hsize 42 + (hsize k + k) : Nat) : Int) := by rw [IntKind.wrap_i64]; have : hsize 42 = 2 := rfl; omega
  generalize hz : hsize k + k = z at *
  have HZ := hide hz
  generalize h42 : hsize 42 = z2 at *
  have H42 := hide h42
  have HC1 : Hid (∀ W, Calls Tryz.prog 194 #[.int .i64 42] W fun e w' => e = .returned (.int .i64 (z2 : Nat)) ∧ w' = W) := fun W => by rw [← H42.out]; exact sizeOf7_any 42 (by decide) W
  have HC2 : Hid (∀ W, Calls Tryz.prog 196 #[.slice av k cv] W fun e w' => e = .returned (.int .i64 (z : Nat)) ∧ w' = W) := fun W => by rw [← HZ.out]; exact octetsSize_any av k cv HK.out W
  clear hle hz h42 hk
  go_enter Tryz.func204, Tryz.ntmps204
  go_wp2_with fail
  go_quiet (first
    | (go_at_call 194; exact Calls.quiet_of_same (HC1.out _))
    | (go_at_call 196; exact Calls.quiet_of_same (HC2.out _)))
  go_wp2_with fail
  go_ret
  exact ⟨by simp, below_drewN HB.out _⟩
end
section
open Go.RowKit Go
structure Vis (w : World) (S : Nat → Prop) (vi : Value) (is : List Tv) : Prop where
  form : ∃ (a : Option Addr) (cap : Nat) (cs : Nat → Array Value), vi = .slice a is.length cap ∧ (is.length ≤ cap ∧ (a = none → cap = 0)) ∧ (∀ i u, is[i]? = some u → Tis w S u (cs i)) ∧ (is = [] ∨ ∃ b off, a = some ⟨b, off, none⟩ ∧ ¬ S b ∧ ∀ i, i < is.length → ∀ j u, (cs i)[j]? = some u → w.cell? ⟨b, off + i * 13 + j, none⟩ = some u)
  max : is.length ≤ 140737488351232
def Pis (w : World) (S : Nat → Prop) : Prt → Value → Prop
  | .null, v => v = .iface 149 (.agg #[])
  | .truth b, v => v = .iface 139 (.bool b)
  | .whole g n, v => v = .iface 141 (.agg #[.bool g, .int .u64 (n : Nat)]) ∧ n < 18446744073709551616
  | .float b, v => v = .iface 142 (.int .u64 (b : Nat)) ∧ b < 18446744073709551616
  | .text s, v => v = .iface 143 (.string s) ∧ s.size ≤ 140737488351232
  | .octets y, v => ∃ vb, v = .iface 144 vb ∧ BSl w vb y ∧ (y ≠ [] → ∀ q, vb.ownBlock = some q → ¬ S q) ∧ y.length ≤ 140737488351232
  | .name y, v => ∃ vb, v = .iface 188 (.agg #[vb]) ∧ BSl w vb y ∧ y ≠ [] ∧ (∀ q, vb.ownBlock = some q → ¬ S q) ∧ y.length ≤ 1000
  | .list is, v => ∃ vi, v = .iface 146 vi ∧ Vis w S vi is
  | .entries ks is, v => ∃ vk vi, v = .iface 148 (.agg #[vk, vi]) ∧ SSl w vk ks ∧ (ks ≠ [] → ∀ q, vk.ownBlock = some q → ¬ S q) ∧ Vis w S vi is
theorem tis_live7 {w w' : World} {S T : Nat → Prop} {u : Tv} {c : Array Value} (h : Tis w S u c) (hk : Kp S w w') (ht : ∀ q, T q → S q ∨ w.heap.size ≤ q) : Tis w' T u c :=
  (h.widen.kp (hk.mono (fun _ _ e => .inl e))).mono ht
theorem Vis.live {w w' : World} {S T : Nat → Prop} {vi : Value} {is : List Tv} (h : Vis w S vi is) (hk : Kp S w w') (ht : ∀ q, T q → S q ∨ w.heap.size ≤ q) : Vis w' T vi is := by
  obtain ⟨⟨a, cap, cs, h1, h2, h3, h4⟩, h5⟩ := h
  refine ⟨⟨a, cap, cs, h1, h2, fun i u hu => tis_live7 (h3 i u hu) hk ht, ?_⟩, h5⟩
  by_cases e0 : is = []
  · exact .inl e0
  rcases h4 with e | ⟨b, off, e1, e2, e3⟩
  · exact .inl e
  · refine .inr ⟨b, off, e1, fun hT => ?_, fun i hi j u hu => hk.cell (e3 i hi j u hu) e2⟩
    rcases ht b hT with e | e
    · exact e2 e
    · have hl : 0 < is.length := List.length_pos_iff.2 e0
      have hz := (h3 0 _ (List.getElem?_eq_getElem hl)).tin.size13
      have hc := e3 0 hl 0 _ (Array.getElem?_eq_getElem (by omega))
      have := cell_lt6 hc
      simp only at this
      omega
theorem Pis.live {w w' : World} {S T : Nat → Prop} {p : Prt} {v : Value} (h : Pis w S p v) (hk : Kp S w w') (ht : ∀ q, T q → S q ∨ w.heap.size ≤ q) : Pis w' T p v := by
  cases p with
  | null => exact h
  | truth b => exact h
  | whole g n => exact h
  | float b => exact h
  | text s => exact h
  | octets y =>
    obtain ⟨vb, h1, h2, h3, h4⟩ := h
    by_cases e0 : y = []
    · refine ⟨vb, h1, ?_, fun e => absurd e0 e, h4⟩
      rw [e0] at h2 ⊢
      exact bsl_nil6 h2
    · refine ⟨vb, h1, hk.bsl h2 (h3 e0), fun _ q hq hT => ?_, h4⟩
      rcases ht q hT with e | e
      · exact h3 e0 q hq e
      · have := own_lt h2 e0 hq
        omega
  | name y =>
    obtain ⟨vb, h1, h2, e0, h3, h4⟩ := h
    refine ⟨vb, h1, hk.bsl h2 h3, e0, fun q hq hT => ?_, h4⟩
    rcases ht q hT with e | e
    · exact h3 q hq e
    · have := own_lt h2 e0 hq
      omega
  | list is =>
    obtain ⟨vi, h1, h2⟩ := h
    exact ⟨vi, h1, h2.live hk ht⟩
  | entries ks is =>
    obtain ⟨vk, vi, h1, h2, h3, h4⟩ := h
    by_cases e0 : ks = []
    · refine ⟨vk, vi, h1, ?_, fun e => absurd e0 e, h4.live hk ht⟩
      rw [e0] at h2 ⊢
      exact ssl_nil6 h2
    · refine ⟨vk, vi, h1, hk.ssl h2 (h3 e0), fun _ q hq hT => ?_, h4.live hk ht⟩
      rcases ht q hT with e | e
      · exact h3 e0 q hq e
      · obtain ⟨⟨a, c, hv, _, hc⟩, _, _⟩ := h2
        obtain ⟨b, off, ha, hcc⟩ := hc.resolve_left e0
        subst hv
        subst ha
        have e3 : b = q := by simpa [Value.ownBlock] using hq
        subst e3
        have hl : 0 < ks.length := List.length_pos_iff.2 e0
        have := cell_lt6 (hcc 0 _ (List.getElem?_eq_getElem hl))
        simp only at this
        omega
theorem own_zero7 (w : World) : (w.alloc (.cells #[.int .u8 0] 5)).ownsRow w.heap.size 5 1 (.slice (some ⟨w.heap.size, 0, none⟩) 1 1) 1 (bv [0]) :=
  ⟨rfl, .inr ⟨w.heap.size, 1, _, rfl, Nat.le_refl _, heap_alloc_new w _, Nat.le_refl _, by decide, rfl, rfl⟩⟩
theorem lrow_len7 (l : Lk) : (lrow l).length ≤ 999 := by
  unfold lrow
  split
  · rename_i h
    have h1 := lbytes_len h
    omega
  · exact Nat.zero_le _
end
section
open Go.RowKit Go
theorem concat7_any (w : World) (g n : Nat) (vs : List Value) (xss : List (List Nat)) (hr : Rws w g vs xss) (hn : vs.length = n) (hn0 : n ≤ 100) (h0 : 0 < fln xss n) (hl : fln xss n ≤ 1000) :
    Calls Tryz.prog 136 #[.slice (some ⟨g, 0, none⟩) n n] w fun e w' => ∃ v, e = .returned v ∧ w'.ownsRow w.heap.size 5 1 v (fln xss n) (bv (fla xss n)) ∧ Below w.heap.size w w' := by
  have HR := hide hr
  have HN := hide hn
  have HL := hide hl
  have H0 := hide h0
  have HX : Hid (xss.length = n) := by have := hr.n; show _ = _; omega
  clear hr hn hl h0
  go_enter Tryz.func136, Tryz.ntmps136
  go_wp2_with fail
  go_loopw [3, 11] (fun ss ii wx => wx = w ∧ ∃ k : Nat, k ≤ n ∧ ii = .int .i64 (k : Nat) ∧ ss = .int .i64 (fln xss k : Nat)) (fun _ ii _ => n - (intOf ii).toNat)
  case atStart => exact ⟨rfl, 0, by omega, rfl, rfl⟩
  case round =>
    obtain ⟨rfl, k, hk, rfl, rfl⟩ := hrel
    by_cases hlt : k < n
    · have g1 : (k : Int) < (n : Int) := by omega
      have q1 := HR.out.c k (by have := HN.out; omega)
      have HB1 := hide (HR.out.b k (by have := HN.out; omega))
      have HF := hide (fln_succ xss k (by have := HX.out; omega))
      have HF2 := hide (fln_le xss (k + 1))
      obtain ⟨⟨a, cap, hv, _⟩, _, _⟩ := HB1.out
      rw [hv] at q1
      have g3 : fln xss k + (xss.getD k []).length ≤ 1000 := by have := HF2.out; rw [HF.out, HX.out] at this; have := HL.out; omega
      have HSU : Hid (fln xss k + (xss.getD k []).length = fln xss (k + 1)) := HF.out.symm
      clear hv HF HF2
      generalize fln xss k = s1 at *
      generalize (xss.getD k []).length = s3 at *
      have g2 : ¬ ((s1 : Int) + (s3 : Int) < 0) := by omega
      go_wp2_with fail
      go_roundw
      case rel => exact ⟨trivial, k + 1, by omega, by go_num, by have := HSU.out; congr 1; omega⟩
      case measure => simp [intOf]; omega
    · have hkn : k = n := by omega
      subst hkn
      have g1 : ¬ (k : Int) < (k : Int) := by omega
      generalize hS : fln xss k = S at *
      have HS := hide hS
      clear hS hlt
      have h1 := H0.out
      have h2 := HL.out
      go_wp2_with fail
      refine (grow_any wr S h1 h2).mono ?_
      rintro e w1 ⟨v1, rfl, ho1, hb1⟩
      have HO1 := hide ho1
      have HB1 := hide hb1
      clear ho1 hb1
      obtain ⟨a1, c1, hv1, _⟩ := own_form HO1.out
      subst hv1
      go_wp2_with fail
      go_loopw [6, 27] (fun vv ii wx => ∃ j : Nat, j ≤ k ∧ ii = .int .i64 (j : Nat) ∧ Hid (wx.ownsRow wr.heap.size 5 1 vv (fln xss j) (bv (fla xss j))) ∧ Hid (Below wr.heap.size wr wx)) (fun _ ii _ => k - (intOf ii).toNat)
      case atStart => exact ⟨0, by omega, rfl, HO1, HB1⟩
      case round => as_aux_lemma =>
        rename World => wz
        obtain ⟨j, hj, rfl, HO, HBq⟩ := hrel
        clear HO1 HB1
        by_cases hjl : j < k
        · have g5 : (j : Int) < (k : Int) := by omega
          have HR2 := hide (HR.out.below HBq.out)
          have q1 := HR2.out.c j (by have := HN.out; omega)
          have HBL := hide (HR2.out.b j (by have := HN.out; omega))
          have HF := hide (fln_succ xss j (by have := HX.out; omega))
          have HFA := hide (fla_succ xss j (by have := HX.out; omega))
          have HF2 : Hid (fln xss (j + 1) ≤ 1000) := by have := fln_le xss (j + 1); rw [HX.out, HS.out] at this; exact Nat.le_trans this HL.out
          obtain ⟨⟨a, cap, hv, _⟩, _, _⟩ := HBL.out
          rw [hv] at q1 HBL
          obtain ⟨a2, c2, hv2, _⟩ := own_form HO.out
          subst hv2
          have HZ : Hid (fln xss j + (xss.getD j []).length ≤ 140737488355328) := by have := HF2.out; rw [HF.out] at this; show _ ≤ _; omega
          clear hv HR2
          go_wp2_with (at_builtin; refine append_bsl rfl _ _ rfl wr.heap.size _ (fln xss j) (fla xss j) rfl HO.out _ (xss.getD j []) rfl HBL.out HZ.out HBq.out.size ?_)
          intro v7 w7 ho7 hg7
          have HB7 : Hid (Below wr.heap.size wr w7) := HBq.out.grown hg7 HBq.out.size (fun g hg => (HO.out.lt g hg).1)
          have HO7 : Hid (w7.ownsRow wr.heap.size 5 1 v7 (fln xss (j + 1)) (bv (fla xss (j + 1)))) := by show World.ownsRow _ _ _ _ _ _ _; rw [HF.out, HFA.out]; exact ho7
          clear ho7 hg7 HO HBq HBL HF HFA HF2 HZ
          go_wp2_with fail
          go_roundw
          case rel => exact ⟨j + 1, by omega, by go_num, HO7, HB7⟩
          case measure => simp [intOf]; omega
        · have hjk : j = k := by omega
          subst hjk
          have g5 : ¬ (j : Int) < (j : Int) := by omega
          have ho := HO.out
          rw [HS.out] at ho
          obtain ⟨a2, c2, hv2, _⟩ := own_form ho
          subst hv2
          have HO2 := hide ho
          clear ho HO
          go_wp2_with fail
          go_ret
          exact ⟨_, rfl, by rw [HS.out]; exact HO2.out, HBq.out⟩
theorem bytes7_any (w : World) (l : Lk) (hl : Lkb l) :
    Calls Tryz.prog 112 #[lkv l] w fun e w' => ∃ v', e = .returned (.tuple #[v', .int .i64 (if lok l then 0 else 40)]) ∧ w'.ownsRow w.heap.size 5 1 v' (lrow l).length (bv (lrow l)) ∧ Below w.heap.size w w' := by
  have HL := hide hl
  have HT : Hid ((w.alloc (.cells #[.int .i64 l.v, .int .u64 (l.c : Nat), .int .u64 (l.h : Nat), .string (nstr l.d)] 37)).heap[w.heap.size]? = some (.cells (lcs l) 37 (0, 0))) := heap_alloc_new w _
  have HBq := hide (below_alloc4 w (.cells #[.int .i64 l.v, .int .u64 (l.c : Nat), .int .u64 (l.h : Nat), .string (nstr l.d)] 37))
  simp only [lkv]
  by_cases hlk : lok l
  · have HLR : Hid (lrow l = lbytes l) := by show _ = _; unfold lrow; rw [if_pos hlk]
    rw [if_pos hlk, HLR.out]
    have HLK := hide hlk
    clear hlk hl
    go_enter Tryz.func112, Tryz.ntmps112
    go_wp2_with fail
    generalize w.alloc (.cells #[.int .i64 l.v, .int .u64 (l.c : Nat), .int .u64 (l.h : Nat), .string (nstr l.d)] 37) = w0 at *
    refine (check_any w0 l HL.out).mono ?_
    rintro e w1 ⟨rfl, hb1⟩
    rw [if_pos HLK.out]
    have q0 : w1.heap[w.heap.size]? = some (.cells (lcs l) 37 (0, 0)) := (hb1.block _ (blk_lt HT.out)).trans HT.out
    have HB1 : Hid (Below w.heap.size w w1) := HBq.out.trans (hb1.mono HBq.out.size)
    have c2 : w1.cell? ⟨w.heap.size, 2, none⟩ = some (.int .u64 (l.h : Nat)) := blk_cell q0 rfl
    have c3 : w1.cell? ⟨w.heap.size, 3, none⟩ = some (.string (nstr l.d)) := blk_cell q0 rfl
    have cv := conv_sb w1 (nstr l.d)
    go_wp2_with fail
    have HS1 : Hid (BSl (Lib.bytesWorld w1 5 (nstr l.d)) (.slice (some ⟨w1.heap.size, 0, none⟩) (nstr l.d).size (grownCap w1 (nstr l.d).size 0 5)) l.d) := by
      have h := conv_sb_bsl w1 (nstr l.d) (by rw [HL.out.size]; have := HL.out.n; omega)
      rw [sl_nstr HL.out.d] at h
      exact h
    have HB2 : Hid (Below w.heap.size w (Lib.bytesWorld w1 5 (nstr l.d))) := HB1.out.trans ((conv_sb_below w1 _).mono HB1.out.size)
    have HT2 : Hid ((Lib.bytesWorld w1 5 (nstr l.d)).heap[w.heap.size]? = some (.cells (lcs l) 37 (0, 0))) := (Lib.bytesWorld_at_old w1 5 _ _ (blk_lt q0)).trans q0
    clear cv c2 c3 q0 hb1
    generalize grownCap w1 (nstr l.d).size 0 5 = G at *
    generalize w1.heap.size = gg at *
    generalize Lib.bytesWorld w1 5 (nstr l.d) = w2 at *
    refine (dlay_any w2 l.h _ l.d HL.out.h HS1.out).mono ?_
    rintro e w3 ⟨vd, rfl, ho3, hb3⟩
    have HDL := hide (dlay_ok (lok_okd HLK.out))
    rw [HDL.out] at ho3 ⊢
    have HO3 := hide ho3
    have HB3 : Hid (Below w.heap.size w w3) := HB2.out.trans (hb3.mono HB2.out.size)
    have q3 : w3.heap[w.heap.size]? = some (.cells (lcs l) 37 (0, 0)) := (hb3.block _ (blk_lt HT2.out)).trans HT2.out
    have HWB : Hid (w.heap.size ≤ w2.heap.size) := HB2.out.size
    have c0 : w3.cell? ⟨w.heap.size, 0, none⟩ = some (.int .i64 l.v) := blk_cell q3 rfl
    have c1 : w3.cell? ⟨w.heap.size, 1, none⟩ = some (.int .u64 (l.c : Nat)) := blk_cell q3 rfl
    clear ho3 hb3 q3 HS1 HT2 HB2 HDL
    obtain ⟨ad, cd, hvd, _⟩ := own_form HO3.out
    subst hvd
    have HBYT : Hid (∀ x ∈ l.h :: l.d.length :: l.d, x < 256) := by
      have hk := lok_okd HLK.out
      intro x hx
      unfold okd at hk
      simp only [List.mem_cons] at hx
      rcases hx with e | e | e
      · omega
      · omega
      · exact HL.out.d x e
    have HRL : Hid ((l.h :: l.d.length :: l.d).length ≤ 66) := by
      have hk := lok_okd HLK.out
      unfold okd at hk
      show _ ≤ _
      simp
      omega
    by_cases hv0 : l.v = 0
    · as_aux_lemma =>
      have HBY : Hid (lbytes l = l.h :: l.d.length :: l.d) := by show _ = _; unfold lbytes; rw [if_pos hv0]
      rw [hv0] at c0 ⊢
      generalize l.h :: l.d.length :: l.d = rw3 at *
      go_wp2_with fail
      go_ret2
      exact ⟨_, rfl, by rw [HBY.out]; exact own_mono4 HO3.out HWB.out, HB3.out⟩
    · as_aux_lemma =>
      have hv1 : l.v = 1 := by
        rcases HLK.out with h1 | h1
        · exact absurd h1.1 hv0
        · exact h1.1
      have HC : Hid (l.c < 9223372036854775808) := by
        rcases HLK.out with h1 | h1
        · exact absurd h1.1 hv0
        · exact h1.2.1
      have HBY : Hid (lbytes l = 1 :: digs 9 l.c ++ (l.h :: l.d.length :: l.d)) := by show _ = _; unfold lbytes; rw [if_neg hv0]
      have HDB : Hid (∀ x ∈ digs 9 l.c, x < 256) := fun x hx => lbytes_byte HLK.out HL.out.d x (by rw [HBY.out]; simp [hx])
      rw [hv1] at c0 ⊢
      clear hv0 hv1
      generalize l.h :: l.d.length :: l.d = rw3 at *
      go_wp2_with fail
      refine (vlay_any (l.c : Nat) w3 (by omega) (by have := HC.out; omega)).mono ?_
      rintro e w4 ⟨vc, rfl, ho4, hb4⟩
      rw [Int.toNat_natCast] at ho4
      have HV4 := hide (BSl.own ho4 HDB.out)
      have HD4 := hide (BSl.own (own_below4 HO3.out hb4) HBYT.out)
      have HB4 : Hid (Below w.heap.size w w4) := HB3.out.trans (hb4.mono HB3.out.size)
      obtain ⟨ac, cc, hvc, _⟩ := own_form ho4
      subst hvc
      clear ho4 hb4 HO3 HB3 c0 c1
      have HDN := hide (digs_len 9 l.c)
      have hb5 := below_alloc4 w4 (.cells #[.int .u8 1] 5)
      have hb6 := hb5.trans ((below_alloc4 (w4.alloc (.cells #[.int .u8 1] 5)) (.cells #[.slice (some ⟨w4.heap.size, 0, none⟩) 1 1, .slice ac (digs 9 l.c).length cc, .slice ad rw3.length cd] 26)).mono hb5.size)
      have HRW : Hid (Rws ((w4.alloc (.cells #[.int .u8 1] 5)).alloc (.cells #[.slice (some ⟨w4.heap.size, 0, none⟩) 1 1, .slice ac (digs 9 l.c).length cc, .slice ad rw3.length cd] 26)) (w4.heap.size + 1) [.slice (some ⟨w4.heap.size, 0, none⟩) 1 1, .slice ac (digs 9 l.c).length cc, .slice ad rw3.length cd] [[1], digs 9 l.c, rw3]) := by
        have h1 := heap_alloc_new (w4.alloc (.cells #[.int .u8 1] 5)) (.cells #[.slice (some ⟨w4.heap.size, 0, none⟩) 1 1, .slice ac (digs 9 l.c).length cc, .slice ad rw3.length cd] 26)
        have e : (w4.alloc (.cells #[.int .u8 1] 5)).heap.size = w4.heap.size + 1 := by simp
        rw [e] at h1
        refine ⟨rfl, fun i hi => ?_, fun i hi => ?_⟩
        · match i, hi with
          | 0, _ => exact blk_cell h1 rfl
          | 1, _ => exact blk_cell h1 rfl
          | 2, _ => exact blk_cell h1 rfl
        · match i, hi with
          | 0, _ => exact (one_bsl w4 1 (by decide)).move (keep_alloc _ _)
          | 1, _ => exact HV4.out.move (keep_below hb6)
          | 2, _ => exact HD4.out.move (keep_below hb6)
      have HB6 : Hid (Below w.heap.size w ((w4.alloc (.cells #[.int .u8 1] 5)).alloc (.cells #[.slice (some ⟨w4.heap.size, 0, none⟩) 1 1, .slice ac (digs 9 l.c).length cc, .slice ad rw3.length cd] 26))) := HB4.out.trans (hb6.mono HB4.out.size)
      have HF3 : Hid (fla [[1], digs 9 l.c, rw3] 3 = lbytes l) := by show _ = _; rw [HBY.out]; unfold fla; simp
      have HN3 : Hid (fln [[1], digs 9 l.c, rw3] 3 = (lbytes l).length) := by show _ = _; rw [← fla_len, HF3.out]
      have HLN : Hid (0 < (lbytes l).length ∧ (lbytes l).length ≤ 1000) := by
        have h1 := lbytes_len HLK.out
        show _ ∧ _
        rw [HBY.out] at h1 ⊢
        refine ⟨by simp, by omega⟩
      clear hb5 hb6 HV4 HD4 HB4
      go_wp2_with fail
      generalize (w4.alloc (.cells #[.int .u8 1] 5)).alloc (.cells #[.slice (some ⟨w4.heap.size, 0, none⟩) 1 1, .slice ac (digs 9 l.c).length cc, .slice ad rw3.length cd] 26) = w6 at *
      refine (concat7_any w6 (w4.heap.size + 1) 3 _ _ HRW.out rfl (by decide) (by rw [HN3.out]; exact HLN.out.1) (by rw [HN3.out]; exact HLN.out.2)).mono ?_
      rintro e w7 ⟨v7, rfl, ho7, hb7⟩
      rw [HF3.out, HN3.out] at ho7
      have HO7 := hide (own_mono4 ho7 HB6.out.size)
      have HB7 : Hid (Below w.heap.size w w7) := HB6.out.trans (hb7.mono HB6.out.size)
      obtain ⟨a7, c7, hv7, _⟩ := own_form ho7
      subst hv7
      clear ho7 hb7 HRW HB6
      go_wp2_with fail
      go_ret2
      exact ⟨_, rfl, HO7.out, HB7.out⟩
  · have HLR : Hid (lrow l = []) := by show _ = _; unfold lrow; rw [if_neg hlk]
    rw [if_neg hlk, HLR.out]
    have HLK := hide hlk
    clear hlk
    go_enter Tryz.func112, Tryz.ntmps112
    go_wp2_with fail
    generalize w.alloc (.cells #[.int .i64 l.v, .int .u64 (l.c : Nat), .int .u64 (l.h : Nat), .string (nstr l.d)] 37) = w0 at *
    refine (check_any w0 l HL.out).mono ?_
    rintro e w1 ⟨rfl, hb1⟩
    rw [if_neg HLK.out]
    have HB1 : Hid (Below w.heap.size w w1) := HBq.out.trans (hb1.mono HBq.out.size)
    clear hb1
    go_wp2_with fail
    go_ret2
    exact ⟨_, rfl, ⟨rfl, .inl ⟨rfl, rfl⟩⟩, HB1.out⟩
end
section
open Go.RowKit Go
theorem infoL7 : (Tryz.prog.info? 37).map (·.size) = some 4 := by kernel_rfl
theorem exec_lkAt7 {o : Oper} {a : Act} {p : Operand} {g off : Nat} {cs : Array Value} {w : World} (ho : o.op = .load 37 p) (hp : a.eval p = .pointer (some ⟨g, off, none⟩)) (hn : cs.size = 4) (hc : ∀ j u, cs[j]? = some u → w.cell? ⟨g, off + j, none⟩ = some u) : (execOp a.eval o).run Tryz.prog w = .ok (.value (.agg cs)) w := by
  unfold execOp
  have hr : (Instr.loadAt 37 (.pointer (some ⟨g, off, none⟩))).run Tryz.prog w = .ok (.agg cs) w := by
    have hl := run_loadCells_list (P := Tryz.prog) (w := w) ⟨g, off, none⟩ cs.toList (fun j v hv => by rw [addr_add]; exact hc j v (by simpa using hv))
    have hi := infoL7
    simp only [Instr.loadAt, Instr.sureAddr, Sem.run_bind, Sem.run_pure, Result.andThen]
    cases hq : Tryz.prog.info? 37 with
    | none => simp [hq] at hi
    | some i =>
      have hs : i.size = 4 := by simpa [hq] using hi
      have hn2 : cs.toList.length = 4 := by simpa using hn
      rw [hn2] at hl
      have ha : (isAgg 37).run Tryz.prog w = .ok true w := by
        unfold isAgg
        rw [Sem.run_bind, run_underlying Tryz.underlying37 w]
        simp
      simp [loadVar, ha, sizeOf, typeInfo, hq, hs, hl]
  simp only [ho, Sem.run_bind, hp, hr, Result.andThen_ok]
  rfl
def PartP (w : World) (S : Nat → Prop) (p : Prt) (e : Ending) (w' : World) : Prop := ∃ v, e = .returned v ∧ Below w.heap.size w w' ∧ Pis w' S p v
theorem nameOf_any (w : World) (S : Nat → Prop) (hS : ∀ q, S q → q < w.heap.size) (l : Lk) (hl : Lkb l) :
    Calls Tryz.prog 78 #[.agg #[.int .i64 l.v, .int .u64 (l.c : Nat), .int .u64 (l.h : Nat), .string (nstr l.d)]] w (PartP w S (.name (0 :: lrow l))) := by
  have HL := hide hl
  have HSq := hide hS
  have HB0 := hide (below_alloc4 w (.cells #[.int .i64 l.v, .int .u64 (l.c : Nat), .int .u64 (l.h : Nat), .string (nstr l.d)] 37))
  have HG0 := hide (heap_alloc_new w (.cells #[.int .i64 l.v, .int .u64 (l.c : Nat), .int .u64 (l.h : Nat), .string (nstr l.d)] 37))
  clear hl hS
  go_enter Tryz.func78, Tryz.ntmps78
  go_upto_region 1 with fail
  generalize w.alloc (.cells #[.int .i64 l.v, .int .u64 (l.c : Nat), .int .u64 (l.h : Nat), .string (nstr l.d)] 37) = w0 at *
  have HLC : Hid (∀ j u, (#[.int .i64 l.v, .int .u64 (l.c : Nat), .int .u64 (l.h : Nat), .string (nstr l.d)] : Array Value)[j]? = some u → w0.cell? ⟨w.heap.size, 0 + j, none⟩ = some u) := fun j u hu => by rw [Nat.zero_add]; exact blk_cell HG0.out hu
  go_wp2_with (refine wpList_exec rfl (exec_lkAt7 (g := w.heap.size) (off := 0) (cs := #[.int .i64 l.v, .int .u64 (l.c : Nat), .int .u64 (l.h : Nat), .string (nstr l.d)]) rfl rfl rfl HLC.out) ?_)
  refine (bytes7_any w0 l HL.out).mono ?_
  rintro e w1 ⟨v1, rfl, ho1, hb1⟩
  generalize (if lok l then (0 : Int) else 40) = cd
  have HS1 := hide (BSl.own ho1 (lrow_byte HL.out.d))
  have HB1 : Hid (Below w.heap.size w w1) := HB0.out.trans (hb1.mono HB0.out.size)
  obtain ⟨a1, c1, hv1⟩ := own_slice7 ho1
  subst hv1
  have hb2 := below_alloc4 w1 (.cells #[.int .u8 0] 5)
  have HO2 := hide (own_zero7 w1)
  have HS2 := hide (HS1.out.move (keep_below hb2))
  have HB2 : Hid (Below w.heap.size w (w1.alloc (.cells #[.int .u8 0] 5))) := HB1.out.trans (hb2.mono HB1.out.size)
  have HLR := hide (lrow_len7 l)
  generalize hR : lrow l = R at *
  have HRE := hide hR
  have HLB : Hid (1 + R.length ≤ 140737488355328) := by show _ ≤ _; have := HLR.out; omega
  clear ho1 hb1 hb2 hR
  go_wp2_with (at_builtin; refine append_bytes rfl _ _ 144 26 rfl Tryz.underlying144 Tryz.underlying26 w1.heap.size _ 1 [0] rfl HO2.out (fun h => by cases h) _ R rfl HS2.out HLB.out (by simp) ?_)
  intro v3 w3 h1 h2 h3 h4
  have HB3 : Hid (Below w.heap.size w w3) := HB2.out.grown h2 HB2.out.size (fun q hq => by have h5 := (HO2.out.lt q hq).1; exact Nat.le_trans HB1.out.size h5)
  have HP3 : Hid (Pis w3 S (.name (0 :: R)) (.iface 188 (.agg #[v3]))) := by
    refine ⟨v3, rfl, BSl.own h1 ?_, by simp, fun q hq hs => ?_, ?_⟩
    · intro x hx
      rcases List.mem_cons.1 hx with e | e
      · rw [e]; decide
      · exact HS1.out.byte x e
    · have h5 := (h1.lt q hq).1
      have h6 := HSq.out q hs
      have h7 := HB1.out.size
      omega
    · show R.length + 1 ≤ 1000
      have := HLR.out
      omega
  obtain ⟨a3, c3, hv3⟩ := own_slice7 h1
  subst hv3
  clear h1 h2 h3 h4
  go_wp2_with fail
  go_ret
  exact ⟨_, rfl, HB3.out, HP3.out⟩
end
end Go.Proofs.YtmcamdcgnegmmaaGreatDoor
