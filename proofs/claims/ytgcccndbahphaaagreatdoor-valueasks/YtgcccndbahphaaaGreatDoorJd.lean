import Derived.Test.YtgcccndbahphaaaGreatDoorJc
import Derived.Test.YtgcccndbahphaaaGreatDoorJa
import Derived.Test.YtgcccndbahphaaaGreatDoorJb
import Derived.SliceStrings
import Derived.LaidLaws
import Derived.Handed
import Derived.Lib.LaidTab
import Derived.Laws.ResultCell
import Derived.Laws.MakeOwn
import Derived.Lib.AppendZerosOnto
import Derived.Lib.SliceRun
namespace Go.Proofs.YtgcccndbahphaaaGreatDoor
section
open Go.RowKit Go
/-- What LendValues has in hand. -/
structure Lvi (w : World) (B : Nat) (wx : World) (v : Value) (L : List (Array Value)) (is : List Tv) : Prop where
  o : wx.ownsRow B 55 13 v L.length (vfl L)
  s : ∀ c ∈ L, c.size = 13
  b : Below B w wx
  z : B ≤ wx.heap.size
  i : ∀ (j : Nat) (u : Tv) (c : Array Value), is[j]? = some u → L[j]? = some c → ∃ lo hi, B ≤ lo ∧ hi ≤ wx.heap.size ∧ (∀ q, v.ownBlock = some q → q < lo ∨ hi ≤ q) ∧ Ltv wx lo hi u c
theorem Lvi.next {w : World} {B : Nat} {wx wy : World} {v : Value} {L : List (Array Value)} {is : List Tv} (h : Lvi w B wx v L is) (hb : Below wx.heap.size wx wy) : Lvi w B wy v L is :=
  ⟨(Kp.of_below (S := fun _ => False) hb).owns h.o (fun _ _ hf => hf), h.s, h.b.trans (hb.mono h.z), Nat.le_trans h.z hb.size, fun j u c h1 h2 => by
    obtain ⟨lo, hi, e1, e2, e3, e4⟩ := h.i j u c h1 h2
    exact ⟨lo, hi, e1, Nat.le_trans e2 hb.size, e3, e4.kept hb⟩⟩
theorem Lvi.app {w : World} {B : Nat} {wx wy : World} {v v' : Value} {L : List (Array Value)} {is : List Tv} (h : Lvi w B wx v L is) {c : Array Value} (hc : c.size = 13) (ho : wy.ownsRow B 55 13 v' (L.length + 1) (vfl L ++ c.toList)) (hg : wx.grownBy wy v.ownBlock) (hv : v'.ownBlock = v.ownBlock ∨ v'.ownBlock = some wx.heap.size)
    (hnew : ∀ u, is[L.length]? = some u → ∃ lo hi, B ≤ lo ∧ hi ≤ wx.heap.size ∧ (∀ q, v.ownBlock = some q → q < lo ∨ hi ≤ q) ∧ Ltv wx lo hi u c) : Lvi w B wy v' (L ++ [c]) is := by
  have hk : Kp (fun q => v.ownBlock = some q) wx wy := (Kp.refl _ _).grown hg (fun k _ h => h)
  have hz := hk.size
  refine ⟨?_, ?_, h.b.grown hg h.z (fun g hg => (h.o.lt g hg).1), Nat.le_trans h.z hz, fun j u c' h1 h2 => ?_⟩
  · rw [vfl_app, List.length_append]
    have e : vfl [c] = c.toList := by simp [vfl]
    rw [e]
    exact ho
  · intro d hd
    rcases List.mem_append.1 hd with hd | hd
    · exact h.s d hd
    · simp only [List.mem_singleton] at hd
      rw [hd]
      exact hc
  · have key : ∃ lo hi, B ≤ lo ∧ hi ≤ wx.heap.size ∧ (∀ q, v.ownBlock = some q → q < lo ∨ hi ≤ q) ∧ Ltv wx lo hi u c' := by
      rcases Nat.lt_or_ge j L.length with hj | hj
      · rw [List.getElem?_append_left hj] at h2
        exact h.i j u c' h1 h2
      · rw [List.getElem?_append_right hj] at h2
        have hj0 : j = L.length := by
          rcases Nat.eq_or_lt_of_le hj with e | e
          · exact e.symm
          · rw [List.getElem?_eq_none (by simp; omega)] at h2
            cases h2
        subst hj0
        simp at h2
        subst h2
        exact hnew u h1
    obtain ⟨lo, hi, e1, e2, e3, e4⟩ := key
    refine ⟨lo, hi, e1, Nat.le_trans e2 hz, fun q hq => ?_, e4.kp hk (fun q h1 h2 e => by rcases e3 q e with h | h <;> omega)⟩
    rcases hv with hv | hv
    · exact e3 q (by rw [← hv]; exact hq)
    · rw [hv] at hq
      injection hq with hq
      subst hq
      exact .inr e2
/-- What LendValues gives. -/
structure LvP (w w' : World) (is : List Tv) (gi ci : Nat) (L : List (Array Value)) : Prop where
  o : w'.ownsRow w.heap.size 55 13 (.slice (some ⟨gi, 0, none⟩) (is.length + 9) ci) (is.length + 9) (vfl (L ++ List.replicate 9 mv))
  n : L.length = is.length
  s : ∀ c ∈ L, c.size = 13
  i : ∀ (j : Nat) (u : Tv) (c : Array Value), is[j]? = some u → L[j]? = some c → Ltv w' w.heap.size w'.heap.size u c
  b : Below w.heap.size w w'
theorem one_mv : one13 mv := ⟨rfl, fun u hu => by
  simp only [mv, List.mem_cons, List.not_mem_nil, or_false] at hu
  rcases hu with rfl | rfl | rfl | rfl | rfl | rfl | rfl | rfl | rfl | rfl | rfl | rfl | rfl <;> rfl⟩
def LendsV (N : Nat) : Prop := ∀ t : Tv, SizeOf.sizeOf t < N → ∀ (w : World) (cs : Array Value), Tin w t cs → tmuch t ≤ 100000 → Calls Tryz.prog 6 #[.agg cs] w fun e w' => ∃ c, e = .returned (.agg c) ∧ Ltv w' w.heap.size w'.heap.size t c ∧ Below w.heap.size w w'
theorem tmuchL_mem : ∀ {l : List Tv} {t : Tv}, t ∈ l → tmuch t ≤ tmuchL l
  | [], _, h => by cases h
  | u :: r, t, h => by
    rw [tmuchL]
    rcases List.mem_cons.1 h with h | h
    · subst h
      omega
    · have := tmuchL_mem h
      omega
theorem tmuchL_len : ∀ l : List Tv, l.length ≤ tmuchL l
  | [] => by simp
  | u :: r => by
    have := tmuchL_len r
    have := tmuch_eq u
    rw [tmuchL, List.length_cons]
    omega
set_option maxRecDepth 1000000 in
set_option maxHeartbeats 1000000 in
theorem lendValues_any (N : Nat) (ih : LendsV N) (is : List Tv) (hN : ∀ u ∈ is, SizeOf.sizeOf u < N) (w : World) (v : Value) (hsl : VSl w v is) (hm : tmuchL is ≤ 100000) :
    Calls Tryz.prog 18 #[v] w fun e w' => ∃ gi ci L, e = .returned (.slice (some ⟨gi, 0, none⟩) is.length ci) ∧ LvP w w' is gi ci L := by
  have HIH := hide ih
  have HNN := hide hN
  have HMM := hide hm
  have hlen : is.length ≤ 100000 := Nat.le_trans (tmuchL_len is) hm
  obtain ⟨iV, hi, hz0, hz1, hz2⟩ := infoV_ex
  obtain ⟨⟨a, cap, rfl, hn, hc⟩, hmax⟩ := hsl
  have HF := hide hc
  clear ih hN hm hn hc hmax
  obtain ⟨w0, hmk, hown0, hgr0⟩ := run_make_own (P := Tryz.prog) w w.heap.size 22 55 iV (.agg zv) 13 Tryz.underlying22 hi hz0 hz1 .i64 .i64 (is.length + 9) (by rw [hz2]; omega) (by unfold maxLen; omega) (Nat.le_refl _)
  have ec : ((is.length + 9 : Nat) : Int) = (is.length : Int) + 9 := by omega
  rw [ec] at hmk
  clear ec hi hz0 hz1 hz2
  have hbel0 : Below w.heap.size w w0 := (Below.refl _ _).grown hgr0 (Nat.le_refl _) (fun _ h => by cases h)
  have HL0 : Hid (Lvi w w.heap.size w0 _ [] is) := ⟨hown0, by simp, hbel0, hbel0.size, fun j u c _ h => by simp at h⟩
  clear hown0 hgr0
  generalize hB : w.heap.size = B at *
  have HBe := hide hB
  clear hB
  have HBL0 := hide hbel0
  clear hbel0
  go_enter Tryz.func18, Tryz.ntmps18
  go_wp2_with fail
  clear hmk
  go_loopw [3, 4] (fun v ii wx => ∃ (i : Nat) (L : List (Array Value)), i ≤ is.length ∧ ii = .int .i64 (i : Nat) ∧ Hid (L.length = i) ∧ Hid (Lvi w B wx v L is)) (fun _ ii _ => is.length - (intOf ii).toNat)
  case atStart => exact ⟨0, [], by omega, rfl, rfl, HL0⟩
  case round =>
    obtain ⟨i, L, hi, rfl, HLn, HL⟩ := hrel
    clear HL0 HBL0
    by_cases hlt : i < is.length
    · as_aux_lemma =>
      have g1 : (i : Int) < (is.length : Int) := by omega
      obtain ⟨u, hu⟩ : ∃ u, is[i]? = some u := ⟨is[i], List.getElem?_eq_getElem hlt⟩
      obtain ⟨b, off, rfl, hcells⟩ := HF.out.resolve_left (fun h => by rw [h] at hlt; simp at hlt)
      obtain ⟨cu, hcu, hcc⟩ := hcells i u hu
      have hkb : ∀ p x, w.cell? p = some x → wr.cell? p = some x := keep_below (by have e := HL.out.b; rw [← HBe.out] at e; exact e)
      have HCC : Hid (∀ j x, cu[j]? = some x → wr.cell? ⟨b, off + i * 13 + j, none⟩ = some x) := fun j x hx => hkb _ _ (hcc j x hx)
      have hmem := List.mem_of_getElem? hu
      have HSZ : Hid (cu.size = 13) := by
        obtain ⟨y1, y2, y3, e, _⟩ := hcu.parts
        show _ = _
        rw [e]
        rfl
      have HCA := hide (HIH.out u (HNN.out u hmem) wr cu (hcu.move hkb) (Nat.le_trans (tmuchL_mem hmem) HMM.out))
      have HU := hide hu
      clear hu hcells hcu hcc hmem hkb
      obtain ⟨ax, cx, hvx⟩ : ∃ ax cx, u3 = .slice ax L.length cx := by
        rcases HL.out.o.2 with ⟨e, h0⟩ | ⟨g, c, cur, e, _⟩
        · exact ⟨none, 0, by rw [e, h0]⟩
        · exact ⟨_, c, e⟩
      subst hvx
      go_wp2_with (refine wpList_valAt rfl rfl b (off + i * 13) cu rfl HSZ.out HCC.out ?_)
      refine HCA.out.mono ?_
      rintro e w5 ⟨c, rfl, hlt5, hb5⟩
      have HL5 := hide (HL.out.next hb5)
      have HC5 := hide hlt5
      have HO := hide hlt5.one
      have HQ : Hid (∀ q, (Value.slice ax L.length cx).ownBlock = some q → q < wr.heap.size) := fun q hq => (HL.out.o.lt q hq).2
      have HZ5 : Hid (B ≤ wr.heap.size) := HL.out.z
      clear hlt5 hb5 HL HCC HCA
      have HL6 := hide (HL5.out.next (below_alloc4 w5 (.cells c 55)))
      have HC6 : Hid (Ltv (w5.alloc (.cells c 55)) wr.heap.size w5.heap.size u c) := HC5.out.kept (below_alloc4 w5 _)
      have HG6 : Hid ((w5.alloc (.cells c 55)).heap[w5.heap.size]? = some (.cells c 55 (0, 0))) := heap_alloc_new w5 _
      have HS6 : Hid (w5.heap.size ≤ (w5.alloc (.cells c 55)).heap.size) := (below_alloc4 w5 (.cells c 55)).size
      have HLL : Hid (L.length < 1099511627) := by have := HLn.out; show _ < _; omega
      clear HL5 HC5
      go_wp2_with (first
        | (refine wpList_val1 rfl rfl c HO.out.1 rfl ?_)
        | (at_builtin; refine append_val rfl _ _ rfl B _ L.length (vfl L) rfl HL6.out.o w5.heap.size c HO.out rfl HG6.out HLL.out HL6.out.z ?_))
      intro v7 w7 ho7 hg7 hv7
      have HL7 : Hid (Lvi w B w7 v7 (L ++ [c]) is) := HL6.out.app HO.out.1 ho7 hg7 (by simpa using hv7) (fun u' hu' => by
        rw [HLn.out, HU.out] at hu'
        injection hu' with hu'
        subst hu'
        exact ⟨wr.heap.size, w5.heap.size, HZ5.out, HS6.out, fun q hq => .inl (HQ.out q hq), HC6.out⟩)
      have HLn7 : Hid ((L ++ [c]).length = i + 1) := by show _ = _; rw [List.length_append, HLn.out]; rfl
      clear ho7 hg7 hv7 HL6 HC6 HG6
      go_wp2_with fail
      go_roundw
      case rel => exact ⟨i + 1, L ++ [c], by omega, by go_num, HLn7, HL7⟩
      case measure => simp [intOf]; omega
    · have g1 : ¬ (i : Int) < (is.length : Int) := by omega
      have HLe : Hid (L.length = is.length) := by have := HLn.out; show _ = _; omega
      go_wp2_with fail
      go_loopw [3, 5] (fun v ii wx => ∃ k : Nat, k ≤ 9 ∧ ii = .int .i64 (k : Nat) ∧ Hid (Lvi w B wx v (L ++ List.replicate k mv) is)) (fun _ ii _ => 9 - (intOf ii).toNat)
      case atStart => exact ⟨0, by omega, rfl, by simpa using HL⟩
      case round => as_aux_lemma =>
        rename World => wz
        obtain ⟨k, hk, rfl, HK⟩ := hrel
        clear HL
        have HKL : Hid ((L ++ List.replicate k mv).length = is.length + k) := by show _ = _; rw [List.length_append, HLe.out, List.length_replicate]
        have HRS : Hid (L ++ List.replicate (k + 1) mv = (L ++ List.replicate k mv) ++ [mv]) := by show _ = _; rw [List.replicate_succ', List.append_assoc]
        by_cases hlt9 : k < 9
        · have g2 : (k : Int) < 9 := by omega
          generalize hLk : L ++ List.replicate k mv = Lk at *
          clear hLk
          obtain ⟨ax, cx, hvx⟩ : ∃ ax cx, u3 = .slice ax Lk.length cx := by
            rcases HK.out.o.2 with ⟨e, h0⟩ | ⟨g, c, cur, e, _⟩
            · exact ⟨none, 0, by rw [e, h0]⟩
            · exact ⟨_, c, e⟩
          subst hvx
          have HL6 := hide (HK.out.next (below_alloc4 wz (.cells mv 55)))
          have HG6 : Hid ((wz.alloc (.cells mv 55)).heap[wz.heap.size]? = some (.cells mv 55 (0, 0))) := heap_alloc_new wz _
          have HLL : Hid (Lk.length < 1099511627) := by have := HKL.out; show _ < _; omega
          go_wp2_with (first
            | (refine wpList_val1 rfl rfl mv rfl rfl ?_)
            | (at_builtin; refine append_val rfl _ _ rfl B _ Lk.length (vfl Lk) rfl HL6.out.o wz.heap.size mv one_mv rfl HG6.out HLL.out HL6.out.z ?_))
          intro v7 w7 ho7 hg7 hv7
          have HL7 : Hid (Lvi w B w7 v7 (Lk ++ [mv]) is) := HL6.out.app rfl ho7 hg7 (by simpa using hv7) (fun u' hu' => by
            rw [HKL.out, List.getElem?_eq_none (by omega)] at hu'
            cases hu')
          rw [← HRS.out] at HL7
          clear ho7 hg7 hv7 HL6 HG6 HK
          go_wp2_with fail
          go_roundw
          case rel => exact ⟨k + 1, by omega, by go_num, HL7⟩
          case measure => simp [intOf]; omega
        · have g2 : ¬ (k : Int) < 9 := by omega
          have hk9 : k = 9 := by omega
          have HK9 : Hid (Lvi w B wz u3 (L ++ List.replicate 9 mv) is) := by have e := HK.out; rw [hk9] at e; exact e
          have HN9 : Hid ((L ++ List.replicate 9 mv).length = is.length + 9) := by have e := HKL.out; rw [hk9] at e; exact e
          clear HK HKL hk9 HRS
          obtain ⟨gi, ci, hvx, hcx⟩ : ∃ gi ci, u3 = .slice (some ⟨gi, 0, none⟩) (is.length + 9) ci ∧ is.length + 9 ≤ ci := by
            have ho := HK9.out.o
            rw [HN9.out] at ho
            rcases ho.2 with ⟨e, h0⟩ | ⟨g, c, cur, e, _, _, h1, _⟩
            · omega
            · exact ⟨g, c, e, h1⟩
          subst hvx
          have hcx2 : is.length ≤ ci := by omega
          have HP : Hid (LvP w wz is gi ci L) := by
            have ho := HK9.out.o
            rw [HN9.out] at ho
            refine ⟨by rw [HBe.out]; exact ho, HLe.out, fun c hc => HK9.out.s c (List.mem_append_left _ hc), fun j u c h1 h2 => ?_, by rw [HBe.out]; exact HK9.out.b⟩
            have hj := (List.getElem?_eq_some_iff.1 h2).1
            obtain ⟨lo, hi, e1, e2, _, e4⟩ := HK9.out.i j u c h1 (by rw [List.getElem?_append_left hj]; exact h2)
            rw [HBe.out]
            exact e4.mono e1 e2
          go_wp2_with fail
          go_ret
          exact ⟨gi, ci, rfl, L, HP.out⟩
end
section
open Go.RowKit Go
/-- What CopyValues has in hand. -/
structure Nvi (w : World) (B : Nat) (wx : World) (v : Value) (L : List (Array Value)) (is : List Tv) : Prop where
  o : wx.ownsRow B 55 13 v L.length (vfl L)
  s : ∀ c ∈ L, c.size = 13
  b : Below B w wx
  z : B ≤ wx.heap.size
  i : ∀ (j : Nat) (u : Tv) (c : Array Value), is[j]? = some u → L[j]? = some c → ∃ lo hi, B ≤ lo ∧ hi ≤ wx.heap.size ∧ (∀ q, v.ownBlock = some q → q < lo ∨ hi ≤ q) ∧ Ntv wx lo hi u c
theorem Nvi.next {w : World} {B : Nat} {wx wy : World} {v : Value} {L : List (Array Value)} {is : List Tv} (h : Nvi w B wx v L is) (hb : Below wx.heap.size wx wy) : Nvi w B wy v L is :=
  ⟨(Kp.of_below (S := fun _ => False) hb).owns h.o (fun _ _ hf => hf), h.s, h.b.trans (hb.mono h.z), Nat.le_trans h.z hb.size, fun j u c h1 h2 => by
    obtain ⟨lo, hi, e1, e2, e3, e4⟩ := h.i j u c h1 h2
    exact ⟨lo, hi, e1, Nat.le_trans e2 hb.size, e3, e4.kept hb⟩⟩
theorem Nvi.app {w : World} {B : Nat} {wx wy : World} {v v' : Value} {L : List (Array Value)} {is : List Tv} (h : Nvi w B wx v L is) {c : Array Value} (hc : c.size = 13) (ho : wy.ownsRow B 55 13 v' (L.length + 1) (vfl L ++ c.toList)) (hg : wx.grownBy wy v.ownBlock) (hv : v'.ownBlock = v.ownBlock ∨ v'.ownBlock = some wx.heap.size)
    (hnew : ∀ u, is[L.length]? = some u → ∃ lo hi, B ≤ lo ∧ hi ≤ wx.heap.size ∧ (∀ q, v.ownBlock = some q → q < lo ∨ hi ≤ q) ∧ Ntv wx lo hi u c) : Nvi w B wy v' (L ++ [c]) is := by
  have hk : Kp (fun q => v.ownBlock = some q) wx wy := (Kp.refl _ _).grown hg (fun k _ h => h)
  have hz := hk.size
  refine ⟨?_, ?_, h.b.grown hg h.z (fun g hg => (h.o.lt g hg).1), Nat.le_trans h.z hz, fun j u c' h1 h2 => ?_⟩
  · rw [vfl_app, List.length_append]
    have e : vfl [c] = c.toList := by simp [vfl]
    rw [e]
    exact ho
  · intro d hd
    rcases List.mem_append.1 hd with hd | hd
    · exact h.s d hd
    · simp only [List.mem_singleton] at hd
      rw [hd]
      exact hc
  · have key : ∃ lo hi, B ≤ lo ∧ hi ≤ wx.heap.size ∧ (∀ q, v.ownBlock = some q → q < lo ∨ hi ≤ q) ∧ Ntv wx lo hi u c' := by
      rcases Nat.lt_or_ge j L.length with hj | hj
      · rw [List.getElem?_append_left hj] at h2
        exact h.i j u c' h1 h2
      · rw [List.getElem?_append_right hj] at h2
        have hj0 : j = L.length := by
          rcases Nat.eq_or_lt_of_le hj with e | e
          · exact e.symm
          · rw [List.getElem?_eq_none (by simp; omega)] at h2
            cases h2
        subst hj0
        simp at h2
        subst h2
        exact hnew u h1
    obtain ⟨lo, hi, e1, e2, e3, e4⟩ := key
    refine ⟨lo, hi, e1, Nat.le_trans e2 hz, fun q hq => ?_, e4.kp hk (fun q h1 h2 e => by rcases e3 q e with h | h <;> omega)⟩
    rcases hv with hv | hv
    · exact e3 q (by rw [← hv]; exact hq)
    · rw [hv] at hq
      injection hq with hq
      subst hq
      exact .inr e2
/-- What CopyValues gives. -/
structure NvP (w w' : World) (is : List Tv) (v : Value) (L : List (Array Value)) : Prop where
  o : w'.ownsRow w.heap.size 55 13 v is.length (vfl L)
  n : L.length = is.length
  s : ∀ c ∈ L, c.size = 13
  i : ∀ (j : Nat) (u : Tv) (c : Array Value), is[j]? = some u → L[j]? = some c → Ntv w' w.heap.size w'.heap.size u c
  b : Below w.heap.size w w'
def CopsV (N : Nat) : Prop := ∀ t : Tv, SizeOf.sizeOf t < N → ∀ (w : World) (cs : Array Value), Tin w t cs → tmuch t ≤ 100000 → Calls Tryz.prog 47 #[.agg cs] w fun e w' => ∃ c, e = .returned (.agg c) ∧ Ntv w' w.heap.size w'.heap.size t c ∧ Below w.heap.size w w'
set_option maxRecDepth 1000000 in
set_option maxHeartbeats 1000000 in
theorem copyValues_any (N : Nat) (ih : CopsV N) (is : List Tv) (hN : ∀ u ∈ is, SizeOf.sizeOf u < N) (w : World) (v : Value) (hsl : VSl w v is) (hm : tmuchL is ≤ 100000) :
    Calls Tryz.prog 94 #[v] w fun e w' => ∃ v' L, e = .returned v' ∧ NvP w w' is v' L := by
  have HIH := hide ih
  have HNN := hide hN
  have HMM := hide hm
  have hlen : is.length ≤ 100000 := Nat.le_trans (tmuchL_len is) hm
  obtain ⟨⟨a, cap, rfl, hn, hc⟩, hmax⟩ := hsl
  have HF := hide hc
  clear ih hN hm hn hc hmax
  have HL0 : Hid (Nvi w w.heap.size w (.slice none 0 0) [] is) := ⟨World.ownsRow_nil _ _ _ _, by simp, Below.refl _ _, Nat.le_refl _, fun j u c _ h => by simp at h⟩
  generalize hB : w.heap.size = B at *
  have HBe := hide hB
  clear hB
  go_enter Tryz.func94, Tryz.ntmps94
  go_wp2_with fail
  go_loopw [3, 4] (fun v ii wx => ∃ (i : Nat) (L : List (Array Value)), i ≤ is.length ∧ ii = .int .i64 (i : Nat) ∧ Hid (L.length = i) ∧ Hid (Nvi w B wx v L is)) (fun _ ii _ => is.length - (intOf ii).toNat)
  case atStart => exact ⟨0, [], by omega, rfl, rfl, HL0⟩
  case round =>
    obtain ⟨i, L, hi, rfl, HLn, HL⟩ := hrel
    clear HL0
    by_cases hlt : i < is.length
    · as_aux_lemma =>
      have g1 : (i : Int) < (is.length : Int) := by omega
      obtain ⟨u, hu⟩ : ∃ u, is[i]? = some u := ⟨is[i], List.getElem?_eq_getElem hlt⟩
      obtain ⟨b, off, rfl, hcells⟩ := HF.out.resolve_left (fun h => by rw [h] at hlt; simp at hlt)
      obtain ⟨cu, hcu, hcc⟩ := hcells i u hu
      have hkb : ∀ p x, w.cell? p = some x → wr.cell? p = some x := keep_below (by have e := HL.out.b; rw [← HBe.out] at e; exact e)
      have HCC : Hid (∀ j x, cu[j]? = some x → wr.cell? ⟨b, off + i * 13 + j, none⟩ = some x) := fun j x hx => hkb _ _ (hcc j x hx)
      have hmem := List.mem_of_getElem? hu
      have HSZ : Hid (cu.size = 13) := by
        obtain ⟨y1, y2, y3, e, _⟩ := hcu.parts
        show _ = _
        rw [e]
        rfl
      have HCA := hide (HIH.out u (HNN.out u hmem) wr cu (hcu.move hkb) (Nat.le_trans (tmuchL_mem hmem) HMM.out))
      have HU := hide hu
      clear hu hcells hcu hcc hmem hkb
      obtain ⟨ax, cx, hvx⟩ : ∃ ax cx, u3 = .slice ax L.length cx := by
        rcases HL.out.o.2 with ⟨e, h0⟩ | ⟨g, c, cur, e, _⟩
        · exact ⟨none, 0, by rw [e, h0]⟩
        · exact ⟨_, c, e⟩
      subst hvx
      go_wp2_with (refine wpList_valAt rfl rfl b (off + i * 13) cu rfl HSZ.out HCC.out ?_)
      refine HCA.out.mono ?_
      rintro e w5 ⟨c, rfl, hlt5, hb5⟩
      have HL5 := hide (HL.out.next hb5)
      have HC5 := hide hlt5
      have HO := hide hlt5.one
      have HQ : Hid (∀ q, (Value.slice ax L.length cx).ownBlock = some q → q < wr.heap.size) := fun q hq => (HL.out.o.lt q hq).2
      have HZ5 : Hid (B ≤ wr.heap.size) := HL.out.z
      clear hlt5 hb5 HL HCC HCA
      have HL6 := hide (HL5.out.next (below_alloc4 w5 (.cells c 55)))
      have HC6 : Hid (Ntv (w5.alloc (.cells c 55)) wr.heap.size w5.heap.size u c) := HC5.out.kept (below_alloc4 w5 _)
      have HG6 : Hid ((w5.alloc (.cells c 55)).heap[w5.heap.size]? = some (.cells c 55 (0, 0))) := heap_alloc_new w5 _
      have HS6 : Hid (w5.heap.size ≤ (w5.alloc (.cells c 55)).heap.size) := (below_alloc4 w5 (.cells c 55)).size
      have HLL : Hid (L.length < 1099511627) := by have := HLn.out; show _ < _; omega
      clear HL5 HC5
      go_wp2_with (first
        | (refine wpList_val1 rfl rfl c HO.out.1 rfl ?_)
        | (at_builtin; refine append_val rfl _ _ rfl B _ L.length (vfl L) rfl HL6.out.o w5.heap.size c HO.out rfl HG6.out HLL.out HL6.out.z ?_))
      intro v7 w7 ho7 hg7 hv7
      have HL7 : Hid (Nvi w B w7 v7 (L ++ [c]) is) := HL6.out.app HO.out.1 ho7 hg7 (by simpa using hv7) (fun u' hu' => by
        rw [HLn.out, HU.out] at hu'
        injection hu' with hu'
        subst hu'
        exact ⟨wr.heap.size, w5.heap.size, HZ5.out, HS6.out, fun q hq => .inl (HQ.out q hq), HC6.out⟩)
      have HLn7 : Hid ((L ++ [c]).length = i + 1) := by show _ = _; rw [List.length_append, HLn.out]; rfl
      clear ho7 hg7 hv7 HL6 HC6 HG6
      go_wp2_with fail
      go_roundw
      case rel => exact ⟨i + 1, L ++ [c], by omega, by go_num, HLn7, HL7⟩
      case measure => simp [intOf]; omega
    · as_aux_lemma =>
      have g1 : ¬ (i : Int) < (is.length : Int) := by omega
      have HLe : Hid (L.length = is.length) := by have := HLn.out; show _ = _; omega
      have HP : Hid (NvP w wr is u3 L) := by
        have h := HL.out
        rw [← HBe.out] at h
        refine ⟨by have e := h.o; rw [HLe.out] at e; exact e, HLe.out, h.s, fun j u c e1 e2 => ?_, h.b⟩
        obtain ⟨lo, hi, f1, f2, _, f4⟩ := h.i j u c e1 e2
        exact f4.mono f1 f2
      go_wp2_with fail
      go_ret
      exact ⟨_, rfl, L, HP.out⟩
end
section
open Go.RowKit Go
/-- What LendValue has in hand: its argument's block, the result's, the copy's. -/
structure Lw (w wx : World) (c0 c2 : Array Value) : Prop where
  a : wx.heap[w.heap.size]? = some (.cells c0 55 (0, 0))
  r : wx.heap[w.heap.size + 1]? = some (.cells zv 55 (0, 0))
  x : wx.heap[w.heap.size + 1 + 1]? = some (.cells c2 55 (0, 0))
  b : Below w.heap.size w wx
theorem Lw.start (w : World) (c : Array Value) : Lw w (((w.alloc (.cells c 55)).alloc (.cells zv 55)).alloc (.cells c 55)) c c := by
  have h1 := heap_alloc_new w (.cells c 55)
  have e1 : (w.alloc (.cells c 55)).heap.size = w.heap.size + 1 := by simp
  have h2 := heap_alloc_new (w.alloc (.cells c 55)) (.cells zv 55)
  have e2 : ((w.alloc (.cells c 55)).alloc (.cells zv 55)).heap.size = w.heap.size + 1 + 1 := by simp
  have h3 := heap_alloc_new ((w.alloc (.cells c 55)).alloc (.cells zv 55)) (.cells c 55)
  rw [e1] at h2
  rw [e2] at h3
  have b1 := below_alloc4 w (.cells c 55)
  have b2 := below_alloc4 (w.alloc (.cells c 55)) (.cells zv 55)
  have b3 := below_alloc4 ((w.alloc (.cells c 55)).alloc (.cells zv 55)) (.cells c 55)
  exact ⟨blk_alloc _ (blk_alloc _ h1), blk_alloc _ h2, h3, (b1.trans (b2.mono b1.size)).trans (b3.mono (Nat.le_trans b1.size b2.size))⟩
theorem Lw.next {w wx wy : World} {c0 c2 : Array Value} (h : Lw w wx c0 c2) (hb : Below wx.heap.size wx wy) : Lw w wy c0 c2 :=
  ⟨(hb.block _ (blk_lt h.a)).trans h.a, (hb.block _ (blk_lt h.r)).trans h.r, (hb.block _ (blk_lt h.x)).trans h.x, h.b.trans (hb.mono h.b.size)⟩
theorem Lw.set {w wx : World} {c0 c2 : Array Value} (h : Lw w wx c0 c2) (j : Nat) (v : Value) : Lw w (wx.setCell ⟨w.heap.size + 1 + 1, j, none⟩ v) c0 (c2.setIfInBounds j v) ∧ Kp (fun q => q = w.heap.size + 1 + 1) wx (wx.setCell ⟨w.heap.size + 1 + 1, j, none⟩ v) := by
  have hk : Kp (fun q => q = w.heap.size + 1 + 1) wx (wx.setCell ⟨w.heap.size + 1 + 1, j, none⟩ v) := (Kp.refl _ _).setCell _ _ (fun _ => rfl)
  exact ⟨⟨blk_other j v h.a (by omega), blk_other j v h.r (by omega), blk_set j v h.x, h.b.trans (hk.below h.b.size (fun q e => by omega))⟩, hk⟩
theorem sl_blk {g n c q : Nat} (h : (Value.slice (some ⟨g, 0, none⟩) n c).ownBlock = some q) : q = g := by
  injection h with h
  exact h.symm
theorem end_v1 {wx : World} {R : Nat} {c : Array Value} {tmps : Array Value} (hn : c.size = 13) (hr : wx.heap[R]? = some (.cells c 55 (0, 0))) (hp : tmps.getD 2 undef = .pointer (some ⟨R, 0, none⟩)) : (results Tryz.f6 tmps).run Tryz.prog wx = .ok (.agg c) wx := by
  refine (results_one (p := 2) (ty := 55) rfl _ _ _).trans ?_
  rw [hp]
  have h1 := run_loadVar_row (P := Tryz.prog) wx R 55 55 c (0, 0) _ hr Tryz.underlying55 rfl (by rw [hn]; exact infoV)
  simp [asAddr, h1, Result.andThen]
theorem setv (t : Tv) (vy vk vi x : Value) : (vcs t vy vk vi).setIfInBounds 6 x = vcs t x vk vi ∧ (vcs t vy vk vi).setIfInBounds 11 x = vcs t vy x vi ∧ (vcs t vy vk vi).setIfInBounds 12 x = vcs t vy vk x := ⟨rfl, rfl, rfl⟩
set_option maxRecDepth 1000000 in
set_option maxHeartbeats 1000000 in
theorem lendValue_step (N : Nat) (ih : LendsV N) (t : Tv) (hN : SizeOf.sizeOf t = N) (w : World) (cs : Array Value) (ht : Tin w t cs) (hm : tmuch t ≤ 100000) :
    Calls Tryz.prog 6 #[.agg cs] w fun e w' => ∃ c, e = .returned (.agg c) ∧ Ltv w' w.heap.size w'.heap.size t c ∧ Below w.heap.size w w' := by
  have hme := tmuch_eq t
  have HIH := hide ih
  have HNN : Hid (∀ u ∈ t.is, SizeOf.sizeOf u < N) := fun u hu => by rw [← hN]; exact Tv.is_lt hu
  have HKL : Hid (t.ks.length ≤ 100000) := by show _ ≤ _; omega
  have HIL : Hid (t.is.length ≤ 100000) := by have := tmuchL_len t.is; show _ ≤ _; omega
  have HML : Hid (tmuchL t.is ≤ 100000) := by show _ ≤ _; omega
  clear ih hN hme hm
  obtain ⟨vy, vk, vi, rfl, hy, hk, hv, hb⟩ := ht.parts
  have HY := hide hy
  have HK := hide hk
  have HV := hide hv
  have HBD := hide hb
  obtain ⟨⟨ay, cy, rfl, _, _⟩, _, _⟩ := hy
  obtain ⟨⟨ak, ck, rfl, _, _⟩, _, _⟩ := hk
  obtain ⟨⟨ai, ci, rfl, _, _⟩, _⟩ := hv
  clear ht hb
  unfold vcs
  have HW0 : Hid (Lw w (((w.alloc (.cells #[.int .i64 t.k, .bool t.f, .bool t.g, .int .u64 (t.n : Nat), .int .u64 (t.b : Nat), .string t.s, .slice ay t.y.length cy, .int .i64 t.l.v, .int .u64 (t.l.c : Nat), .int .u64 (t.l.h : Nat), .string (nstr t.l.d), .slice ak t.ks.length ck, .slice ai t.is.length ci] 55)).alloc (.cells #[.int .i64 0, .bool false, .bool false, .int .u64 0, .int .u64 0, .string ⟨#[]⟩, .slice none 0 0, .int .i64 0, .int .u64 0, .int .u64 0, .string ⟨#[]⟩, .slice none 0 0, .slice none 0 0] 55)).alloc (.cells #[.int .i64 t.k, .bool t.f, .bool t.g, .int .u64 (t.n : Nat), .int .u64 (t.b : Nat), .string t.s, .slice ay t.y.length cy, .int .i64 t.l.v, .int .u64 (t.l.c : Nat), .int .u64 (t.l.h : Nat), .string (nstr t.l.d), .slice ak t.ks.length ck, .slice ai t.is.length ci] 55)) (vcs t (.slice ay t.y.length cy) (.slice ak t.ks.length ck) (.slice ai t.is.length ci)) (vcs t (.slice ay t.y.length cy) (.slice ak t.ks.length ck) (.slice ai t.is.length ci))) := Lw.start w _
  have HZ0 : Hid ((((w.alloc (.cells #[.int .i64 t.k, .bool t.f, .bool t.g, .int .u64 (t.n : Nat), .int .u64 (t.b : Nat), .string t.s, .slice ay t.y.length cy, .int .i64 t.l.v, .int .u64 (t.l.c : Nat), .int .u64 (t.l.h : Nat), .string (nstr t.l.d), .slice ak t.ks.length ck, .slice ai t.is.length ci] 55)).alloc (.cells #[.int .i64 0, .bool false, .bool false, .int .u64 0, .int .u64 0, .string ⟨#[]⟩, .slice none 0 0, .int .i64 0, .int .u64 0, .int .u64 0, .string ⟨#[]⟩, .slice none 0 0, .slice none 0 0] 55)).alloc (.cells #[.int .i64 t.k, .bool t.f, .bool t.g, .int .u64 (t.n : Nat), .int .u64 (t.b : Nat), .string t.s, .slice ay t.y.length cy, .int .i64 t.l.v, .int .u64 (t.l.c : Nat), .int .u64 (t.l.h : Nat), .string (nstr t.l.d), .slice ak t.ks.length ck, .slice ai t.is.length ci] 55)).heap.size = w.heap.size + 3) := by show _ = _; simp
  go_enter Tryz.func6, Tryz.ntmps6
  go_wp2_with fail
  generalize ((w.alloc (.cells #[.int .i64 t.k, .bool t.f, .bool t.g, .int .u64 (t.n : Nat), .int .u64 (t.b : Nat), .string t.s, .slice ay t.y.length cy, .int .i64 t.l.v, .int .u64 (t.l.c : Nat), .int .u64 (t.l.h : Nat), .string (nstr t.l.d), .slice ak t.ks.length ck, .slice ai t.is.length ci] 55)).alloc (.cells #[.int .i64 0, .bool false, .bool false, .int .u64 0, .int .u64 0, .string ⟨#[]⟩, .slice none 0 0, .int .i64 0, .int .u64 0, .int .u64 0, .string ⟨#[]⟩, .slice none 0 0, .slice none 0 0] 55)).alloc (.cells #[.int .i64 t.k, .bool t.f, .bool t.g, .int .u64 (t.n : Nat), .int .u64 (t.b : Nat), .string t.s, .slice ay t.y.length cy, .int .i64 t.l.v, .int .u64 (t.l.c : Nat), .int .u64 (t.l.h : Nat), .string (nstr t.l.d), .slice ak t.ks.length ck, .slice ai t.is.length ci] 55) = w3 at *
  have hz3 := HZ0.out
  refine (lend_any w3 _ t.y (HY.out.move (keep_below HW0.out.b)) HBD.out.y).mono ?_
  rintro e w4 ⟨gy, cy2, rfl, ho4, hb4⟩
  have HY4 : Hid (Lnt w4 w3.heap.size gy cy2 t.y) := ⟨ho4, HY.out.byte, HBD.out.y⟩
  have hs4 := hb4.size
  have hg4 := ho4.lt gy rfl
  have HGY : Hid (w.heap.size + 3 ≤ gy ∧ gy < w4.heap.size) := ⟨by omega, hg4.2⟩
  have HW4 := hide (HW0.out.next hb4)
  have HS4 : Hid (w.heap.size + 3 ≤ w4.heap.size) := by show _ ≤ _; omega
  clear ho4 hb4 HW0 hs4 hg4
  have c6 := blk_cell (j := 6) HW4.out.x rfl
  have f6 := blk_frozen 6 HW4.out.x
  have hset := HW4.out.set 6 (.slice (some ⟨gy, 0, none⟩) t.y.length cy2)
  rw [(setv t _ _ _ _).1] at hset
  have HW5 := hide hset.1
  have HY5 := hide (HY4.out.kp hset.2 (by have := HGY.out; omega))
  have HS5 : Hid (w.heap.size + 3 ≤ (w4.setCell ⟨w.heap.size + 1 + 1, 6, none⟩ (.slice (some ⟨gy, 0, none⟩) t.y.length cy2)).heap.size ∧ gy < (w4.setCell ⟨w.heap.size + 1 + 1, 6, none⟩ (.slice (some ⟨gy, 0, none⟩) t.y.length cy2)).heap.size) := by
    have h1 := hset.2.size
    have h2 := HS4.out
    have h3 := HGY.out
    exact ⟨by omega, by omega⟩
  have c11 := blk_cell (j := 11) HW5.out.a rfl
  clear hset HW4 HY4
  go_wp2_with fail
  clear c6 f6 c11
  generalize w4.setCell ⟨w.heap.size + 1 + 1, 6, none⟩ (.slice (some ⟨gy, 0, none⟩) t.y.length cy2) = w5 at *
  refine (lendTexts_any w5 _ t.ks (HK.out.move (keep_below HW5.out.b)) HKL.out).mono ?_
  rintro e w6 ⟨vk6, rfl, hk6, hb6⟩
  obtain ⟨⟨gk, ck2, rfl, ho6⟩, _, hks6⟩ := hk6
  have hg6 := ho6.lt gk rfl
  have hs6 := hb6.size
  have HGK : Hid (w.heap.size + 3 ≤ gk ∧ gk < w6.heap.size ∧ gy < w6.heap.size ∧ w.heap.size + 3 ≤ w6.heap.size) := by
    have h1 := HS5.out
    exact ⟨by omega, by omega, by omega, by omega⟩
  have HK6 := hide (own_mono ho6 (show w.heap.size + 3 ≤ w5.heap.size by have := HS5.out; omega))
  have HY6 := hide (HY5.out.kp (Kp.of_below (S := fun _ => False) hb6) (fun h => h))
  have HW6 := hide (HW5.out.next hb6)
  have HKS := hide hks6
  clear ho6 hb6 hg6 hs6 HW5 HY5 hks6 HS5
  have c11 := blk_cell (j := 11) HW6.out.x rfl
  have f11 := blk_frozen 11 HW6.out.x
  have hset := HW6.out.set 11 (.slice (some ⟨gk, 0, none⟩) t.ks.length ck2)
  rw [(setv t _ _ _ _).2.1] at hset
  have HW7 := hide hset.1
  have HY7 := hide (HY6.out.kp hset.2 (by have := HGY.out; omega))
  have HK7 := hide (hset.2.owns HK6.out (fun q hq e => by have e2 := sl_blk hq; have := HGK.out; omega))
  have HS7 : Hid (gk < (w6.setCell ⟨w.heap.size + 1 + 1, 11, none⟩ (.slice (some ⟨gk, 0, none⟩) t.ks.length ck2)).heap.size ∧ gy < (w6.setCell ⟨w.heap.size + 1 + 1, 11, none⟩ (.slice (some ⟨gk, 0, none⟩) t.ks.length ck2)).heap.size ∧ w.heap.size + 3 ≤ (w6.setCell ⟨w.heap.size + 1 + 1, 11, none⟩ (.slice (some ⟨gk, 0, none⟩) t.ks.length ck2)).heap.size) := by
    have h1 := hset.2.size
    have h2 := HGK.out
    exact ⟨by omega, by omega, by omega⟩
  have c12 := blk_cell (j := 12) HW7.out.a rfl
  clear hset HW6 HY6 HK6
  go_wp2_with fail
  clear c11 f11 c12
  generalize w6.setCell ⟨w.heap.size + 1 + 1, 11, none⟩ (.slice (some ⟨gk, 0, none⟩) t.ks.length ck2) = w7 at *
  refine (lendValues_any N HIH.out t.is HNN.out w7 _ (HV.out.move (keep_below HW7.out.b)) HML.out).mono ?_
  rintro e w8 ⟨gi, ci2, L, rfl, hp8⟩
  have hg8 := hp8.o.lt gi rfl
  have hs8 := hp8.b.size
  have HGI : Hid (w.heap.size + 3 ≤ gi ∧ gi < w8.heap.size ∧ gk < w8.heap.size ∧ gy < w8.heap.size) := by
    have h1 := HS7.out
    exact ⟨by omega, by omega, by omega, by omega⟩
  have HP8 := hide hp8
  have HY8 := hide (HY7.out.kp (Kp.of_below (S := fun _ => False) hp8.b) (fun h => h))
  have HK8 := hide ((Kp.of_below (S := fun _ => False) hp8.b).owns HK7.out (fun _ _ h => h))
  have HW8 := hide (HW7.out.next hp8.b)
  have HB7 : Hid (w.heap.size + 3 ≤ w7.heap.size) := HS7.out.2.2
  clear hp8 hg8 hs8 HW7 HY7 HK7 HS7
  have c12 := blk_cell (j := 12) HW8.out.x rfl
  have f12 := blk_frozen 12 HW8.out.x
  have hset := HW8.out.set 12 (.slice (some ⟨gi, 0, none⟩) t.is.length ci2)
  rw [(setv t _ _ _ _).2.2] at hset
  have HW9 := hide hset.1
  have HLT : Hid (Ltv (w8.setCell ⟨w.heap.size + 1 + 1, 12, none⟩ (.slice (some ⟨gi, 0, none⟩) t.is.length ci2)) (w.heap.size + 3) w8.heap.size t (vcs t (.slice (some ⟨gy, 0, none⟩) t.y.length cy2) (.slice (some ⟨gk, 0, none⟩) t.ks.length ck2) (.slice (some ⟨gi, 0, none⟩) t.is.length ci2))) := by
    have h1 := HGI.out
    have h2 := HGY.out
    have h3 := HGK.out
    have h4 := HB7.out
    refine Ltv.mk t gy cy2 gk ck2 gi ci2 L HBD.out ?_ (by omega) ?_ (by omega) HKL.out HKS.out ?_ (by omega) HIL.out HP8.out.n HP8.out.s (fun i u c e1 e2 => ?_)
    · exact (HY8.out.kp hset.2 (by omega)).mono (by omega)
    · exact hset.2.owns HK8.out (fun q hq e => by have e2 := sl_blk hq; omega)
    · exact own_mono (hset.2.owns HP8.out.o (fun q hq e => by have e2 := sl_blk hq; omega)) (by omega)
    · exact ((HP8.out.i i u c e1 e2).kp hset.2 (fun q h5 h6 e => by omega)).mono (by omega) (Nat.le_refl _)
  have HS9 : Hid (w8.heap.size ≤ (w8.setCell ⟨w.heap.size + 1 + 1, 12, none⟩ (.slice (some ⟨gi, 0, none⟩) t.is.length ci2)).heap.size) := hset.2.size
  clear hset HW8 HY8 HK8 HP8
  have HXL : Hid (∀ j v, (vcs t (.slice (some ⟨gy, 0, none⟩) t.y.length cy2) (.slice (some ⟨gk, 0, none⟩) t.ks.length ck2) (.slice (some ⟨gi, 0, none⟩) t.is.length ci2))[j]? = some v → (w8.setCell ⟨w.heap.size + 1 + 1, 12, none⟩ (.slice (some ⟨gi, 0, none⟩) t.is.length ci2)).cell? ⟨w.heap.size + 1 + 1, 0 + j, none⟩ = some v) := fun j v hv => by
    rw [Nat.zero_add]
    exact blk_cell HW9.out.x hv
  have HON := hide HLT.out.one
  have HONA : Hid ((vcs t (.slice (some ⟨gy, 0, none⟩) t.y.length cy2) (.slice (some ⟨gk, 0, none⟩) t.ks.length ck2) (.slice (some ⟨gi, 0, none⟩) t.is.length ci2)).all (·.oneCell') = true) := by
    show _ = _
    rw [Array.all_eq_true']
    intro u hu
    exact HON.out.2 u (by simpa using hu)
  have HIN : Hid ((Tryz.prog.info? 55).map (·.size) = some (vcs t (.slice (some ⟨gy, 0, none⟩) t.y.length cy2) (.slice (some ⟨gk, 0, none⟩) t.ks.length ck2) (.slice (some ⟨gi, 0, none⟩) t.is.length ci2)).size) := infoV
  have HR9 := hide HW9.out.r
  have HZV : Hid (zv.size = (vcs t (.slice (some ⟨gy, 0, none⟩) t.y.length cy2) (.slice (some ⟨gk, 0, none⟩) t.ks.length ck2) (.slice (some ⟨gi, 0, none⟩) t.is.length ci2)).size) := rfl
  go_wp2_with (first
    | (refine wpList_valAt rfl rfl (w.heap.size + 1 + 1) 0 (vcs t (.slice (some ⟨gy, 0, none⟩) t.y.length cy2) (.slice (some ⟨gk, 0, none⟩) t.ks.length ck2) (.slice (some ⟨gi, 0, none⟩) t.is.length ci2)) rfl rfl HXL.out ?_)
    | (refine wpList_storeRow rfl rfl (w.heap.size + 1) zv (vcs t (.slice (some ⟨gy, 0, none⟩) t.y.length cy2) (.slice (some ⟨gk, 0, none⟩) t.ks.length ck2) (.slice (some ⟨gi, 0, none⟩) t.is.length ci2)) 55 rfl rfl HR9.out HIN.out HZV.out HONA.out ?_))
  have hkr := row_kp (w8.setCell ⟨w.heap.size + 1 + 1, 12, none⟩ (.slice (some ⟨gi, 0, none⟩) t.is.length ci2)) (w.heap.size + 1) (vcs t (.slice (some ⟨gy, 0, none⟩) t.y.length cy2) (.slice (some ⟨gk, 0, none⟩) t.ks.length ck2) (.slice (some ⟨gi, 0, none⟩) t.is.length ci2))
  have hzr := hkr.size
  have h89 := HS9.out
  exact bodyPost_ret (end_v1 rfl (row_same HR9.out) rfl) rfl ⟨_, rfl, (HLT.out.kp hkr (fun q h1 h2 e => by omega)).mono (by omega) (by omega), HW9.out.b.trans (hkr.below HW9.out.b.size (fun q e => by omega))⟩
theorem lendValue_any (t : Tv) (w : World) (cs : Array Value) (ht : Tin w t cs) (hm : tmuch t ≤ 100000) :
    Calls Tryz.prog 6 #[.agg cs] w fun e w' => ∃ c, e = .returned (.agg c) ∧ Ltv w' w.heap.size w'.heap.size t c ∧ Below w.heap.size w w' := by
  have h : ∀ N, LendsV N := by
    intro N
    induction N with
    | zero => exact fun t h => absurd h (by omega)
    | succ N ih =>
      intro t htN w cs ht hm
      exact lendValue_step (SizeOf.sizeOf t) (fun u hu => ih u (by omega)) t rfl w cs ht hm
  exact h _ t (Nat.lt_succ_self _) w cs ht hm
end
section
open Go.RowKit Go
theorem own_slice {w : World} {B e s n : Nat} {v : Value} {xs : List Value} (h : w.ownsRow B e s v n xs) : ∃ a c, v = .slice a n c := by
  rcases h.2 with ⟨e, h0⟩ | ⟨g, c, cur, e, _⟩
  · exact ⟨none, 0, by rw [e, h0]⟩
  · exact ⟨_, c, e⟩
theorem end_v1c {wx : World} {R : Nat} {c : Array Value} {tmps : Array Value} (hn : c.size = 13) (hr : wx.heap[R]? = some (.cells c 55 (0, 0))) (hp : tmps.getD 2 undef = .pointer (some ⟨R, 0, none⟩)) : (results Tryz.f47 tmps).run Tryz.prog wx = .ok (.agg c) wx := by
  refine (results_one (p := 2) (ty := 55) rfl _ _ _).trans ?_
  rw [hp]
  have h1 := run_loadVar_row (P := Tryz.prog) wx R 55 55 c (0, 0) _ hr Tryz.underlying55 rfl (by rw [hn]; exact infoV)
  simp [asAddr, h1, Result.andThen]
set_option maxRecDepth 1000000 in
set_option maxHeartbeats 1000000 in
theorem copyValue_step (N : Nat) (ih : CopsV N) (t : Tv) (hN : SizeOf.sizeOf t = N) (w : World) (cs : Array Value) (ht : Tin w t cs) (hm : tmuch t ≤ 100000) :
    Calls Tryz.prog 47 #[.agg cs] w fun e w' => ∃ c, e = .returned (.agg c) ∧ Ntv w' w.heap.size w'.heap.size t c ∧ Below w.heap.size w w' := by
  have hme := tmuch_eq t
  have HIH := hide ih
  have HNN : Hid (∀ u ∈ t.is, SizeOf.sizeOf u < N) := fun u hu => by rw [← hN]; exact Tv.is_lt hu
  have HKL : Hid (t.ks.length ≤ 100000) := by show _ ≤ _; omega
  have HIL : Hid (t.is.length ≤ 100000) := by have := tmuchL_len t.is; show _ ≤ _; omega
  have HML : Hid (tmuchL t.is ≤ 100000) := by show _ ≤ _; omega
  clear ih hN hme hm
  obtain ⟨vy, vk, vi, rfl, hy, hk, hv, hb⟩ := ht.parts
  have HY := hide hy
  have HK := hide hk
  have HV := hide hv
  have HBD := hide hb
  obtain ⟨⟨ay, cy, rfl, _, _⟩, _, _⟩ := hy
  obtain ⟨⟨ak, ck, rfl, _, _⟩, _, _⟩ := hk
  obtain ⟨⟨ai, ci, rfl, _, _⟩, _⟩ := hv
  clear ht hb
  unfold vcs
  have HW0 : Hid (Lw w (((w.alloc (.cells #[.int .i64 t.k, .bool t.f, .bool t.g, .int .u64 (t.n : Nat), .int .u64 (t.b : Nat), .string t.s, .slice ay t.y.length cy, .int .i64 t.l.v, .int .u64 (t.l.c : Nat), .int .u64 (t.l.h : Nat), .string (nstr t.l.d), .slice ak t.ks.length ck, .slice ai t.is.length ci] 55)).alloc (.cells #[.int .i64 0, .bool false, .bool false, .int .u64 0, .int .u64 0, .string ⟨#[]⟩, .slice none 0 0, .int .i64 0, .int .u64 0, .int .u64 0, .string ⟨#[]⟩, .slice none 0 0, .slice none 0 0] 55)).alloc (.cells #[.int .i64 t.k, .bool t.f, .bool t.g, .int .u64 (t.n : Nat), .int .u64 (t.b : Nat), .string t.s, .slice ay t.y.length cy, .int .i64 t.l.v, .int .u64 (t.l.c : Nat), .int .u64 (t.l.h : Nat), .string (nstr t.l.d), .slice ak t.ks.length ck, .slice ai t.is.length ci] 55)) (vcs t (.slice ay t.y.length cy) (.slice ak t.ks.length ck) (.slice ai t.is.length ci)) (vcs t (.slice ay t.y.length cy) (.slice ak t.ks.length ck) (.slice ai t.is.length ci))) := Lw.start w _
  have HZ0 : Hid ((((w.alloc (.cells #[.int .i64 t.k, .bool t.f, .bool t.g, .int .u64 (t.n : Nat), .int .u64 (t.b : Nat), .string t.s, .slice ay t.y.length cy, .int .i64 t.l.v, .int .u64 (t.l.c : Nat), .int .u64 (t.l.h : Nat), .string (nstr t.l.d), .slice ak t.ks.length ck, .slice ai t.is.length ci] 55)).alloc (.cells #[.int .i64 0, .bool false, .bool false, .int .u64 0, .int .u64 0, .string ⟨#[]⟩, .slice none 0 0, .int .i64 0, .int .u64 0, .int .u64 0, .string ⟨#[]⟩, .slice none 0 0, .slice none 0 0] 55)).alloc (.cells #[.int .i64 t.k, .bool t.f, .bool t.g, .int .u64 (t.n : Nat), .int .u64 (t.b : Nat), .string t.s, .slice ay t.y.length cy, .int .i64 t.l.v, .int .u64 (t.l.c : Nat), .int .u64 (t.l.h : Nat), .string (nstr t.l.d), .slice ak t.ks.length ck, .slice ai t.is.length ci] 55)).heap.size = w.heap.size + 3) := by show _ = _; simp
  go_enter Tryz.func47, Tryz.ntmps47
  go_wp2_with fail
  generalize ((w.alloc (.cells #[.int .i64 t.k, .bool t.f, .bool t.g, .int .u64 (t.n : Nat), .int .u64 (t.b : Nat), .string t.s, .slice ay t.y.length cy, .int .i64 t.l.v, .int .u64 (t.l.c : Nat), .int .u64 (t.l.h : Nat), .string (nstr t.l.d), .slice ak t.ks.length ck, .slice ai t.is.length ci] 55)).alloc (.cells #[.int .i64 0, .bool false, .bool false, .int .u64 0, .int .u64 0, .string ⟨#[]⟩, .slice none 0 0, .int .i64 0, .int .u64 0, .int .u64 0, .string ⟨#[]⟩, .slice none 0 0, .slice none 0 0] 55)).alloc (.cells #[.int .i64 t.k, .bool t.f, .bool t.g, .int .u64 (t.n : Nat), .int .u64 (t.b : Nat), .string t.s, .slice ay t.y.length cy, .int .i64 t.l.v, .int .u64 (t.l.c : Nat), .int .u64 (t.l.h : Nat), .string (nstr t.l.d), .slice ak t.ks.length ck, .slice ai t.is.length ci] 55) = w3 at *
  have hz3 := HZ0.out
  refine (copy_any w3 _ t.y (HY.out.move (keep_below HW0.out.b)) HBD.out.y).mono ?_
  rintro e w4 ⟨vy4, rfl, ho4, hb4⟩
  obtain ⟨ya, yc, hv4⟩ := own_slice ho4
  subst hv4
  have hs4 := hb4.size
  have HGY : Hid (∀ q, (Value.slice ya t.y.length yc).ownBlock = some q → w.heap.size + 3 ≤ q ∧ q < w4.heap.size) := fun q hq => by have := ho4.lt q hq; exact ⟨by omega, this.2⟩
  have HY4 := hide (own_mono ho4 (show w.heap.size + 3 ≤ w3.heap.size by omega))
  have HW4 := hide (HW0.out.next hb4)
  have HS4 : Hid (w.heap.size + 3 ≤ w4.heap.size) := by show _ ≤ _; omega
  have HKS := hide HK.out.size
  clear ho4 hb4 HW0 hs4
  have c6 := blk_cell (j := 6) HW4.out.x rfl
  have f6 := blk_frozen 6 HW4.out.x
  have hset := HW4.out.set 6 (.slice ya t.y.length yc)
  rw [(setv t _ _ _ _).1] at hset
  have HW5 := hide hset.1
  have HY5 := hide (hset.2.owns HY4.out (fun q hq e => by have := HGY.out q hq; omega))
  have HS5 : Hid (w.heap.size + 3 ≤ (w4.setCell ⟨w.heap.size + 1 + 1, 6, none⟩ (.slice ya t.y.length yc)).heap.size ∧ w4.heap.size ≤ (w4.setCell ⟨w.heap.size + 1 + 1, 6, none⟩ (.slice ya t.y.length yc)).heap.size) := by
    have h1 := hset.2.size
    have h2 := HS4.out
    exact ⟨by omega, by omega⟩
  have c11 := blk_cell (j := 11) HW5.out.a rfl
  clear hset HW4 HY4
  go_wp2_with fail
  clear c6 f6 c11
  generalize w4.setCell ⟨w.heap.size + 1 + 1, 6, none⟩ (.slice ya t.y.length yc) = w5 at *
  refine (copyStrings_any w5 _ t.ks (HK.out.move (keep_below HW5.out.b)) (by have := HKL.out; omega)).mono ?_
  rintro e w6 ⟨vk6, rfl, ho6, hb6⟩
  obtain ⟨ka, kc, hv6⟩ := own_slice ho6
  subst hv6
  have hs6 := hb6.size
  have HGK : Hid (∀ q, (Value.slice ka t.ks.length kc).ownBlock = some q → w.heap.size + 3 ≤ q ∧ q < w6.heap.size) := fun q hq => by have := ho6.lt q hq; have := HS5.out; exact ⟨by omega, by omega⟩
  have HS6 : Hid (w.heap.size + 3 ≤ w6.heap.size ∧ w4.heap.size ≤ w6.heap.size) := by have := HS5.out; exact ⟨by omega, by omega⟩
  have HK6 := hide (own_mono ho6 (show w.heap.size + 3 ≤ w5.heap.size by have := HS5.out; omega))
  have HY6 := hide ((Kp.of_below (S := fun _ => False) hb6).owns HY5.out (fun _ _ h => h))
  have HW6 := hide (HW5.out.next hb6)
  clear ho6 hb6 hs6 HW5 HY5 HS5
  have c11 := blk_cell (j := 11) HW6.out.x rfl
  have f11 := blk_frozen 11 HW6.out.x
  have hset := HW6.out.set 11 (.slice ka t.ks.length kc)
  rw [(setv t _ _ _ _).2.1] at hset
  have HW7 := hide hset.1
  have HY7 := hide (hset.2.owns HY6.out (fun q hq e => by have := HGY.out q hq; omega))
  have HK7 := hide (hset.2.owns HK6.out (fun q hq e => by have := HGK.out q hq; omega))
  have HS7 : Hid (w.heap.size + 3 ≤ (w6.setCell ⟨w.heap.size + 1 + 1, 11, none⟩ (.slice ka t.ks.length kc)).heap.size ∧ w4.heap.size ≤ (w6.setCell ⟨w.heap.size + 1 + 1, 11, none⟩ (.slice ka t.ks.length kc)).heap.size ∧ w6.heap.size ≤ (w6.setCell ⟨w.heap.size + 1 + 1, 11, none⟩ (.slice ka t.ks.length kc)).heap.size) := by
    have h1 := hset.2.size
    have h2 := HS6.out
    exact ⟨by omega, by omega, by omega⟩
  have c12 := blk_cell (j := 12) HW7.out.a rfl
  clear hset HW6 HY6 HK6
  go_wp2_with fail
  clear c11 f11 c12
  generalize w6.setCell ⟨w.heap.size + 1 + 1, 11, none⟩ (.slice ka t.ks.length kc) = w7 at *
  refine (copyValues_any N HIH.out t.is HNN.out w7 _ (HV.out.move (keep_below HW7.out.b)) HML.out).mono ?_
  rintro e w8 ⟨vi8, L, rfl, hp8⟩
  obtain ⟨ia, ic, hv8⟩ := own_slice hp8.o
  subst hv8
  have hs8 := hp8.b.size
  have HGI : Hid (∀ q, (Value.slice ia t.is.length ic).ownBlock = some q → w.heap.size + 3 ≤ q ∧ q < w8.heap.size) := fun q hq => by have := hp8.o.lt q hq; have := HS7.out; exact ⟨by omega, by omega⟩
  have HS8 : Hid (w4.heap.size ≤ w8.heap.size ∧ w6.heap.size ≤ w8.heap.size) := by have := HS7.out; exact ⟨by omega, by omega⟩
  have HP8 := hide hp8
  have HY8 := hide ((Kp.of_below (S := fun _ => False) hp8.b).owns HY7.out (fun _ _ h => h))
  have HK8 := hide ((Kp.of_below (S := fun _ => False) hp8.b).owns HK7.out (fun _ _ h => h))
  have HW8 := hide (HW7.out.next hp8.b)
  have HB7 : Hid (w.heap.size + 3 ≤ w7.heap.size) := HS7.out.1
  clear hp8 hs8 HW7 HY7 HK7 HS7
  have c12 := blk_cell (j := 12) HW8.out.x rfl
  have f12 := blk_frozen 12 HW8.out.x
  have hset := HW8.out.set 12 (.slice ia t.is.length ic)
  rw [(setv t _ _ _ _).2.2] at hset
  have HW9 := hide hset.1
  have HLT : Hid (Ntv (w8.setCell ⟨w.heap.size + 1 + 1, 12, none⟩ (.slice ia t.is.length ic)) (w.heap.size + 3) w8.heap.size t (vcs t (.slice ya t.y.length yc) (.slice ka t.ks.length kc) (.slice ia t.is.length ic))) := by
    have h4 := HB7.out
    have h5 := HS8.out
    refine Ntv.mk t _ _ _ L HBD.out HY.out.byte ?_ (fun q hq => by have := HGY.out q hq; omega) ?_ (fun q hq => by have := HGK.out q hq; omega) (by have := HKL.out; omega) HKS.out ?_ (fun q hq => by have := HGI.out q hq; omega) (by have := HIL.out; omega) HP8.out.n HP8.out.s (fun i u c e1 e2 => ?_)
    · exact hset.2.owns HY8.out (fun q hq e => by have := HGY.out q hq; omega)
    · exact hset.2.owns HK8.out (fun q hq e => by have := HGK.out q hq; omega)
    · exact own_mono (hset.2.owns HP8.out.o (fun q hq e => by have := HGI.out q hq; omega)) (by omega)
    · exact ((HP8.out.i i u c e1 e2).kp hset.2 (fun q h5 h6 e => by omega)).mono (by omega) (Nat.le_refl _)
  have HS9 : Hid (w8.heap.size ≤ (w8.setCell ⟨w.heap.size + 1 + 1, 12, none⟩ (.slice ia t.is.length ic)).heap.size) := hset.2.size
  clear hset HW8 HY8 HK8 HP8
  have HXL : Hid (∀ j v, (vcs t (.slice ya t.y.length yc) (.slice ka t.ks.length kc) (.slice ia t.is.length ic))[j]? = some v → (w8.setCell ⟨w.heap.size + 1 + 1, 12, none⟩ (.slice ia t.is.length ic)).cell? ⟨w.heap.size + 1 + 1, 0 + j, none⟩ = some v) := fun j v hv => by
    rw [Nat.zero_add]
    exact blk_cell HW9.out.x hv
  have HON := hide HLT.out.one
  have HONA : Hid ((vcs t (.slice ya t.y.length yc) (.slice ka t.ks.length kc) (.slice ia t.is.length ic)).all (·.oneCell') = true) := by
    show _ = _
    rw [Array.all_eq_true']
    intro u hu
    exact HON.out.2 u (by simpa using hu)
  have HIN : Hid ((Tryz.prog.info? 55).map (·.size) = some (vcs t (.slice ya t.y.length yc) (.slice ka t.ks.length kc) (.slice ia t.is.length ic)).size) := infoV
  have HR9 := hide HW9.out.r
  have HZV : Hid (zv.size = (vcs t (.slice ya t.y.length yc) (.slice ka t.ks.length kc) (.slice ia t.is.length ic)).size) := rfl
  go_wp2_with (first
    | (refine wpList_valAt rfl rfl (w.heap.size + 1 + 1) 0 (vcs t (.slice ya t.y.length yc) (.slice ka t.ks.length kc) (.slice ia t.is.length ic)) rfl rfl HXL.out ?_)
    | (refine wpList_storeRow rfl rfl (w.heap.size + 1) zv (vcs t (.slice ya t.y.length yc) (.slice ka t.ks.length kc) (.slice ia t.is.length ic)) 55 rfl rfl HR9.out HIN.out HZV.out HONA.out ?_))
  have hkr := row_kp (w8.setCell ⟨w.heap.size + 1 + 1, 12, none⟩ (.slice ia t.is.length ic)) (w.heap.size + 1) (vcs t (.slice ya t.y.length yc) (.slice ka t.ks.length kc) (.slice ia t.is.length ic))
  have hzr := hkr.size
  have h89 := HS9.out
  exact bodyPost_ret (end_v1c rfl (row_same HR9.out) rfl) rfl ⟨_, rfl, (HLT.out.kp hkr (fun q h1 h2 e => by omega)).mono (by omega) (by omega), HW9.out.b.trans (hkr.below HW9.out.b.size (fun q e => by omega))⟩
theorem copyValue_any (t : Tv) (w : World) (cs : Array Value) (ht : Tin w t cs) (hm : tmuch t ≤ 100000) :
    Calls Tryz.prog 47 #[.agg cs] w fun e w' => ∃ c, e = .returned (.agg c) ∧ Ntv w' w.heap.size w'.heap.size t c ∧ Below w.heap.size w w' := by
  have h : ∀ N, CopsV N := by
    intro N
    induction N with
    | zero => exact fun t h => absurd h (by omega)
    | succ N ih =>
      intro t htN w cs ht hm
      exact copyValue_step (SizeOf.sizeOf t) (fun u hu => ih u (by omega)) t rfl w cs ht hm
  exact h _ t (Nat.lt_succ_self _) w cs ht hm
end
section
open Go.RowKit
/-- What a call that hands a list to the book leaves. -/
def BkP (F : Knd) (J : Nat) (w : World) (base B : Nat) (C : Array Value) (vb vo : Value) (es : List Ent) (a t u : Nat) (l : Value) (w' : World) : Prop :=
  ∃ vb' vo' es' u' C', w'.heap[B]? = some (.cells C' 48 (0, 0)) ∧ Chg (fun k => k = J ∨ k = J + 1 ∨ k = 54 ∨ k = 56) C C' ∧ C'[J]? = some vb' ∧ C'[J + 1]? = some vo' ∧ C'[54]? = some (.int .i64 ((t + 1 : Nat) : Int)) ∧ C'[56]? = some (.int .i64 (u' : Nat)) ∧ Ko F w' base vb' vo' es' a (t + 1) u' ∧ u ≤ u' ∧ u' ≤ 16777216 ∧
    Kp (fun k => k = B ∨ vb.ownBlock = some k ∨ vo.ownBlock = some k ∨ l.ownBlock = some k) w w' ∧ ∀ k, Fut vb' vo' es' k → Fut vb vo es k ∨ l.ownBlock = some k ∨ w.heap.size ≤ k
/-- The list is full of its mark; there is no room for it. -/
theorem BkP.full {F : Knd} (hF : F.Ok) {J : Nat} {w wr : World} {base B : Nat} {C : Array Value} {vb vo : Value} {es : List Ent} {a t u : Nat} {l : Value} {n : Nat} {xs : List Value} (hB : w.heap[B]? = some (.cells C 48 (0, 0))) (hJ0 : C[J]? = some vb) (hJ1 : C[J + 1]? = some vo) (h56 : C[56]? = some (.int .i64 (u : Nat))) (hJ : J + 1 < 54) (h57 : C.size = 57) (hK : Ko F w base vb vo es a t u) (hl : w.ownsRow base F.te F.s l n xs)
    (hd : ∀ e ∈ es, ∀ k, e.val.ownBlock = some k → l.ownBlock ≠ some k) (hu : u ≤ 16777216) (hr : wr.heap[B]? = some (.cells (C.setIfInBounds 54 (.int .i64 ((t + 1 : Nat) : Int))) 48 (0, 0))) (hk : Kp (fun k => k = B ∨ l.ownBlock = some k) w wr) : BkP F J w base B C vb vo es a t u l wr := by
  refine ⟨vb, vo, es, u, _, hr, (Chg.set C 54 _).trans (Chg.refl (fun _ => False) _) (fun k e => .inr (.inr (.inl e))) (fun k e => e.elim), ?_, ?_, ?_, ?_, (hK.kp hk (fun k hf e => ?_)).more (by omega) (Nat.le_refl _), Nat.le_refl _, hu, hk.mono (fun k _ e => by rcases e with e | e; exact .inl e; exact .inr (.inr (.inr e))), fun k h => .inl h⟩
  · rw [get_set_ne (by omega)]; exact hJ0
  · rw [get_set_ne (by omega)]; exact hJ1
  · exact get_set (by omega)
  · rw [get_set_ne (by omega)]; exact h56
  · rcases e with e | e
    · exact hK.c.notB hF hB (by rw [← e]; exact hf)
    · rcases hf with h | h | ⟨x, hx, h⟩
      · exact own_apart hK.c.hb hl hF.ne h e
      · exact own_apart hK.c.ho hl (fun e => hF.e3 e.symm) h e
      · exact hd x hx k h e
/-- What the kind's rows are once the list is full of its mark. -/
theorem Kc.marked {F : Knd} (hF : F.Ok) {w wr : World} {base B : Nat} {C : Array Value} {vb vo : Value} {es : List Ent} {t : Nat} {l : Value} {n : Nat} {xs : List Value} (hB : w.heap[B]? = some (.cells C 48 (0, 0))) (hK : Kc F w base vb vo es t) (hl : w.ownsRow base F.te F.s l n xs)
    (hd : ∀ e ∈ es, ∀ k, e.val.ownBlock = some k → l.ownBlock ≠ some k) (hk : Kp (fun k => k = B ∨ l.ownBlock = some k) w wr) : Kc F wr base vb vo es t := hK.kp hk (fun k hf e => by
  rcases e with e | e
  · exact hK.notB hF hB (by rw [← e]; exact hf)
  · rcases hf with h | h | ⟨x, hx, h⟩
    · exact own_apart hK.hb hl hF.ne h e
    · exact own_apart hK.ho hl (fun e => hF.e3 e.symm) h e
    · exact hd x hx k h e)
/-- The list is kept. -/
theorem BkP.kept {F : Knd} {J : Nat} {w w2 w4 w6 : World} {base B : Nat} {C : Array Value} {vb vo v3 v5 : Value} {es : List Ent} {a t u U : Nat} {l : Value} {n : Nat} (hJ : J + 1 < 54) (h57 : C.size = 57) (hK : Ko F w base vb vo es a t u)
    (hd : ∀ e ∈ es, ∀ k, e.val.ownBlock = some k → l.ownBlock ≠ some k) (hn : n < 68719476736) (hu : U ≤ 16777216) (hU : u + F.cost ≤ U)
    (hk2 : Kp (fun k => k = B ∨ l.ownBlock = some k) w w2) (hk4 : Kp (fun q => q = B ∨ vb.ownBlock = some q) w2 w4) (hk6 : Kp (fun q => q = B ∨ vo.ownBlock = some q) w4 w6)
    (hB6 : w6.heap[B]? = some (.cells ((((C.setIfInBounds 54 (.int .i64 ((t + 1 : Nat) : Int))).setIfInBounds 56 (.int .i64 (U : Nat))).setIfInBounds J v3).setIfInBounds (J + 1) v5) 48 (0, 0))) (hc : Kc F w6 base v3 v5 (es ++ [⟨l, n, t + 1⟩]) (t + 1))
    (h3 : ∀ q, v3.ownBlock = some q → vb.ownBlock = some q ∨ w.heap.size ≤ q) (h5 : ∀ q, v5.ownBlock = some q → vo.ownBlock = some q ∨ w.heap.size ≤ q) : BkP F J w base B C vb vo es a t u l w6 := by
  refine ⟨v3, v5, es ++ [⟨l, n, t + 1⟩], U, _, hB6, ?_, ?_, ?_, ?_, ?_, hK.add hc hd hn hU, by omega, hu, (((hk2.mono (fun k _ e => by rcases e with e | e; exact .inl e; exact .inr (.inr (.inr e)))).trans hk4 (fun k _ e => by rcases e with e | e; exact .inl e; exact .inr (.inl e))).trans hk6 (fun k _ e => by rcases e with e | e; exact .inl e; exact .inr (.inr (.inl e)))), fun k hf => ?_⟩
  · refine ⟨by simp, fun k hk => ?_⟩
    rw [get_set_ne (fun e => hk (.inr (.inl e))), get_set_ne (fun e => hk (.inl e)), get_set_ne (fun e => hk (.inr (.inr (.inr e)))), get_set_ne (fun e => hk (.inr (.inr (.inl e))))]
  · rw [get_set_ne (by omega), get_set (by simp; omega)]
  · rw [get_set (by simp; omega)]
  · rw [get_set_ne (by omega), get_set_ne (by omega), get_set_ne (by omega), get_set (by omega)]
  · rw [get_set_ne (by omega), get_set_ne (by omega), get_set (by simp; omega)]
  · rcases hf with h | h | ⟨x, hx, h⟩
    · rcases h3 k h with e | e
      · exact .inl (.inl e)
      · exact .inr (.inr e)
    · rcases h5 k h with e | e
      · exact .inl (.inr (.inl e))
      · exact .inr (.inr e)
    · rcases List.mem_append.1 hx with hx | hx
      · exact .inl (.inr (.inr ⟨x, hx, h⟩))
      · simp at hx; subst hx; exact .inr (.inl h)

/-! ### Texts -/
def tmk (m : Nat) : ByteArray := nstr [atv m 0, atv m 1, 33]
def KT : Knd := ⟨23, 9, 1, 6, 8000, fun m _ => [.string (tmk m)]⟩
theorem KT_ok : KT.Ok := ⟨by decide, by decide, by decide, by decide, by decide⟩
theorem infoS_ex : ∃ i, Tryz.prog.info? 23 = some i ∧ i.zero = some (.slice none 0 0) ∧ i.size = 1 ∧ i.bytes = 24 := by
  have h : (Tryz.prog.info? 23).map (fun i => (i.zero, i.size, i.bytes)) = some (some (.slice none 0 0), 1, 24) := by kernel_rfl
  cases hi : Tryz.prog.info? 23 with
  | none => rw [hi] at h; cases h
  | some i => rw [hi] at h; simp at h; exact ⟨i, rfl, h.1, h.2.1, h.2.2⟩
theorem splice_one (ys : List Value) (k : Nat) (z : Value) (h : k < ys.length) : splice ys (k * 1) [z] = ys.set k z := by
  unfold splice
  rw [Nat.mul_one, List.set_eq_take_append_cons_drop, if_pos h]
  rfl
set_option maxRecDepth 1000000 in
set_option maxHeartbeats 400000 in
theorem textsMark_any (m : Int) (w : World) (h0 : 0 ≤ m) (h1 : m < 1099511627776) : Calls Tryz.prog 97 #[.int .i64 m] w fun e w' => e = .returned (.string (tmk m.toNat)) ∧ Below w.heap.size w w' := by
  have HA0 := hide (fun W => at_any m 0 W h0 h1 (by omega) (by omega))
  have HA1 := hide (fun W => at_any m 1 W h0 h1 (by omega) (by omega))
  go_enter Tryz.func97, Tryz.ntmps97
  go_wp2_with fail
  refine (HA0.out _).mono ?_
  rintro e w1 ⟨rfl, rfl⟩
  go_wp2_with fail
  refine (HA1.out _).mono ?_
  rintro e w1 ⟨rfl, rfl⟩
  have hb : ∀ x ∈ [atv m.toNat 0, atv m.toNat 1, 33], x < 256 := by
    intro x hx
    simp only [List.mem_cons, List.not_mem_nil, or_false] at hx
    rcases hx with rfl | rfl | rfl
    · unfold atv; split <;> omega
    · unfold atv; split <;> omega
    · decide
  have tx : (convert 51 9 (.slice (some ⟨w1.heap.size, 0, none⟩) 3 3)).run Tryz.prog (w1.alloc (.cells #[.int .u8 ((atv m.toNat 0 : Nat) : Int), .int .u8 ((atv m.toNat 1 : Nat) : Int), .int .u8 33] 5)) = .ok (.string (tmk m.toNat)) (w1.alloc (.cells #[.int .u8 ((atv m.toNat 0 : Nat) : Int), .int .u8 ((atv m.toNat 1 : Nat) : Int), .int .u8 33] 5)) :=
    (bsl_block (xs := [atv m.toNat 0, atv m.toNat 1, 33]) (heap_alloc_new w1 (.cells #[.int .u8 ((atv m.toNat 0 : Nat) : Int), .int .u8 ((atv m.toNat 1 : Nat) : Int), .int .u8 33] 5)) hb (by simp)).text
  have HBL := hide (below_alloc4 w1 (.cells #[.int .u8 ((atv m.toNat 0 : Nat) : Int), .int .u8 ((atv m.toNat 1 : Nat) : Int), .int .u8 33] 5))
  clear hb
  go_wp2_with fail
  go_ret
  exact ⟨rfl, HBL.out⟩
end
section
open Go.ChangeShapes Go.WideShapes Go.ChangeAt Go.RowKit Go.Deep Go.Joins Go
theorem Tryz.cellsLink : Tryz.prog.cellsOf 53 = 4 := by kernel_rfl
theorem Tryz.cells_int : Tryz.prog.cellsOf 3 = 1 := by kernel_rfl
theorem Tryz.cells_u64 : Tryz.prog.cellsOf 50 = 1 := by kernel_rfl
theorem Tryz.cells_str : Tryz.prog.cellsOf 9 = 1 := by kernel_rfl
section
variable {H : Type} {enc : TypeId × Value → H} {P : Program} {w : World} {base : Nat} {spare : Nat → Bool} {held : Bool}
end
end
section
open Go.ChangeShapes Go.WideShapes Go.ChangeAt Go.RowKit Go

end
section
open Go.ChangeShapes Go.WideShapes Go.ChangeAt Go.RowKit Go.Deep Go.Joins Go

end
section
open Go.RowKit Go
set_option maxRecDepth 1000000 in
set_option maxHeartbeats 1000000 in
theorem check_any (w : World) (l : Lk) (hl : Lkb l) : Calls Tryz.prog 128 #[lkv l] w fun e w' => e = .returned (.int .i64 (if lok l then 0 else 40)) ∧ Below w.heap.size w w' := by
  generalize hR : (if lok l then (0 : Int) else 40) = R
  have HR := hide hR
  clear hR
  have HL := hide hl
  have HLO : Hid (∀ x ∈ (⟨0, 112, 18, l.d⟩ : Lk).d, x < 256) := hl.d
  have HOL : Hid (lcs ⟨0, 112, 18, l.d⟩ = #[.int .i64 0, .int .u64 112, .int .u64 18, .string (nstr l.d)]) := rfl
  have HT : Hid ((w.alloc (.cells #[.int .i64 l.v, .int .u64 (l.c : Nat), .int .u64 (l.h : Nat), .string (nstr l.d)] 53)).heap[w.heap.size]? = some (.cells (lcs l) 53 (0, 0))) := heap_alloc_new w _
  have HBQ := hide (below_alloc4 w (.cells #[.int .i64 l.v, .int .u64 (l.c : Nat), .int .u64 (l.h : Nat), .string (nstr l.d)] 53))
  simp only [lkv]
  go_enter Tryz.func128, Tryz.ntmps128
  go_wp2_with fail
  generalize w.alloc (.cells #[.int .i64 l.v, .int .u64 (l.c : Nat), .int .u64 (l.h : Nat), .string (nstr l.d)] 53) = w0 at *
  go_cut [3] (fun c wx => c = .bool (decide (l = ⟨0, 112, 18, l.d⟩) && decide (okd l.h l.d)) ∧ Hid (Below w0.heap.size w0 wx))
  case first => as_aux_lemma =>
    have q3 : ∀ t : Ext w0, t.w'.cell? ⟨w.heap.size, 3, none⟩ = some (.string (nstr l.d)) := fun t => Ext.cell (blk_cell HT.out rfl) t
    have HQ : Hid (∀ wx, (∃ t : Ext w0, wx = t.w') → wx.heap[w.heap.size]? = some (.cells (lcs l) 53 (0, 0))) := by
      rintro _ ⟨t, rfl⟩
      exact (t.h.block _ (blk_lt HT.out)).trans HT.out
    have HCO : Hid (∀ t : Ext w0, Calls Tryz.prog 150 #[.string (nstr l.d)] t.w' fun e w'' => e = .returned (.agg (lcs ⟨0, 112, 18, l.d⟩)) ∧ ∃ t' : Ext w0, w'' = t'.w') := fun t => Calls.ext_below (old_any t.w' (nstr l.d))
    have HCF : Hid (∀ t : Ext w0, Calls Tryz.prog 151 #[.agg (lcs l)] t.w' fun e w'' => e = .returned (.bool (decide (okd l.h l.d))) ∧ ∃ t' : Ext w0, w'' = t'.w') := fun t => Calls.ext_below (fits4_any t.w' l HL.out)
    have HEQ : Hid (∀ wx, (∃ t : Ext w0, wx = t.w') → (Op.equalIn 10000 53 (.agg (lcs l)) (.agg (lcs ⟨0, 112, 18, l.d⟩))).run Tryz.prog wx = .ok (decide (l = ⟨0, 112, 18, l.d⟩)) wx) := fun wx _ => eqlk wx HL.out.d HLO.out
    generalize hbb : decide (l = ⟨0, 112, 18, l.d⟩) = bb at *
    generalize lcs ⟨0, 112, 18, l.d⟩ = ol at *
    have HCN : Hid ((lcs l).size = 4) := rfl
    generalize lcs l = cl at *
    clear hbb
    cases bb
    · refine region_ext (by kernel_rfl) (by kernel_rfl) ?_
      repeat (
        refine wpQuiet_step (fun K hK => ?_)
        first
          | (refine qstep_link rfl rfl w.heap.size cl rfl HCN.out HQ.out (hK _ ?_); clear hK K)
          | (refine qstep_eqlk rfl rfl cl ol false rfl rfl HEQ.out (hK _ ?_); clear hK K)
          | (go_simp
             first
               | (refine hK _ ?_; clear hK K)
               | (apply Exists.intro
                  refine ⟨fun _ => ?_, hK _ ?_⟩
                  (first
                    | (go_at_call 150; exact HCO.out _)
                    | (go_at_call 151; exact HCF.out _))
                  clear hK K)))
      refine wpQuiet_nil ?_
      rintro _ ⟨tq, rfl⟩
      go_wp2_with fail
      go_meet
      case rel => exact ⟨rfl, tq.h⟩
    · refine region_ext (by kernel_rfl) (by kernel_rfl) ?_
      repeat (
        refine wpQuiet_step (fun K hK => ?_)
        first
          | (refine qstep_link rfl rfl w.heap.size cl rfl HCN.out HQ.out (hK _ ?_); clear hK K)
          | (refine qstep_eqlk rfl rfl cl ol true rfl rfl HEQ.out (hK _ ?_); clear hK K)
          | (go_simp
             first
               | (refine hK _ ?_; clear hK K)
               | (apply Exists.intro
                  refine ⟨fun _ => ?_, hK _ ?_⟩
                  (first
                    | (go_at_call 150; exact HCO.out _)
                    | (go_at_call 151; exact HCF.out _))
                  clear hK K)))
      refine wpQuiet_nil ?_
      rintro _ ⟨tq, rfl⟩
      go_wp2_with fail
      go_meet
      case rel => exact ⟨rfl, tq.h⟩
  case rest => as_aux_lemma =>
    obtain ⟨rfl, hb1⟩ := hcut
    have HT1 : Hid (wc.heap[w.heap.size]? = some (.cells (lcs l) 53 (0, 0))) := (hb1.out.block _ (blk_lt HT.out)).trans HT.out
    have HB1 : Hid (Below w.heap.size w wc) := HBQ.out.trans (hb1.out.mono HBQ.out.size)
    have HK : Hid (lok l ↔ (l = ⟨0, 112, 18, l.d⟩ ∧ okd l.h l.d) ∨ (l.v = 1 ∧ l.c < 9223372036854775808 ∧ okd l.h l.d)) := by
      show _ ↔ _
      unfold lok
      rw [lk_ext]
      constructor
      · rintro (⟨h1, h2, h3, h4⟩ | h)
        · exact .inl ⟨⟨h1, h2, h3, rfl⟩, .inl ⟨h3, h4⟩⟩
        · exact .inr h
      · rintro (⟨⟨h1, h2, h3, _⟩, h | h⟩ | h)
        · exact .inl ⟨h1, h2, h3, h.2⟩
        · simp only at h1 h2 h3
          omega
        · exact .inr h
    clear hb1 HT HBQ HOL HLO
    by_cases hc1 : l = ⟨0, 112, 18, l.d⟩ ∧ okd l.h l.d
    · as_aux_lemma =>
      have e1 : (decide (l = ⟨0, 112, 18, l.d⟩) && decide (okd l.h l.d)) = true := by rw [decide_eq_true hc1.1, decide_eq_true hc1.2]; rfl
      have HZ : Hid (R = 0) := by show _ = _; rw [← HR.out, if_pos (HK.out.2 (.inl hc1))]
      rw [e1]
      clear e1 hc1 HR HK
      go_wp2_with fail
      go_ret
      exact ⟨by rw [HZ.out]; rfl, HB1.out⟩
    · have e1 : (decide (l = ⟨0, 112, 18, l.d⟩) && decide (okd l.h l.d)) = false := by
        rw [Bool.and_eq_false_iff, decide_eq_false_iff_not, decide_eq_false_iff_not]
        exact Decidable.not_and_iff_or_not.1 hc1
      rw [e1]
      have HE : Hid (lok l ↔ (l.v = 1 ∧ l.c < 9223372036854775808 ∧ okd l.h l.d)) := HK.out.trans ⟨fun h => h.resolve_left hc1, .inr⟩
      have q0 : wc.cell? ⟨w.heap.size, 0, none⟩ = some (.int .i64 l.v) := blk_cell HT1.out rfl
      have q1 : wc.cell? ⟨w.heap.size, 1, none⟩ = some (.int .u64 (l.c : Nat)) := blk_cell HT1.out rfl
      have q2 : wc.cell? ⟨w.heap.size, 2, none⟩ = some (.int .u64 (l.h : Nat)) := blk_cell HT1.out rfl
      have q3 : wc.cell? ⟨w.heap.size, 3, none⟩ = some (.string (nstr l.d)) := blk_cell HT1.out rfl
      have HF := hide (fits4_any wc l HL.out)
      simp only [lkv] at HF
      have HCL := hide HL.out.c
      clear e1 hc1 HK HL hl HT1
      generalize nstr l.d = S at *
      obtain ⟨v, c, h, d⟩ := l
      simp only at *
      by_cases hv : v = 1
      · subst hv
        generalize hn : (c : Int) = n at *
        have HN := hide hn
        clear hn
        by_cases hc63 : n < 9223372036854775808
        · as_aux_lemma =>
          have HZ : Hid (R = if okd h d then 0 else 40) := by
            show _ = _
            rw [← HR.out]
            have := HN.out
            by_cases hk : okd h d
            · rw [if_pos hk, if_pos (HE.out.2 ⟨rfl, by omega, hk⟩)]
            · rw [if_neg hk, if_neg (fun e => hk (HE.out.1 e).2.2)]
          clear HE HR HN
          go_wp2_with fail
          refine HF.out.mono ?_
          rintro e w2 ⟨rfl, hb2⟩
          have HB2 : Hid (Below w.heap.size w w2) := HB1.out.trans (hb2.mono HB1.out.size)
          clear hb2 HF
          by_cases hk : okd h d
          · rw [decide_eq_true hk]
            rw [if_pos hk] at HZ
            go_wp2_with fail
            go_ret
            exact ⟨by rw [HZ.out]; rfl, HB2.out⟩
          · rw [decide_eq_false hk]
            rw [if_neg hk] at HZ
            go_wp2_with fail
            go_ret
            exact ⟨by rw [HZ.out]; rfl, HB2.out⟩
        · as_aux_lemma =>
          have g2' : (9223372036854775808 : Int) ≤ n := by omega
          have HZ : Hid (R = 40) := by show _ = _; rw [← HR.out, if_neg (fun e => hc63 (by have := (HE.out.1 e).2.1; have := HN.out; omega))]
          clear HE HR HN hc63
          go_wp2_with fail
          go_ret
          exact ⟨by rw [HZ.out]; rfl, HB1.out⟩
      · as_aux_lemma =>
        have g1 : (v == 1) = false := beq_eq_false_iff_ne.2 hv
        have HZ : Hid (R = 40) := by show _ = _; rw [← HR.out, if_neg (fun e => hv (HE.out.1 e).1)]
        clear HE HR hv
        go_wp2_with fail
        go_ret
        exact ⟨by rw [HZ.out]; rfl, HB1.out⟩
end
section
open Go.RowKit Go
/-- How a function ends whose first result is a struct. -/
theorem end_c2 {fn : Func} {p q : Tmp} {T : TypeId} {fs : Array Field} {wx : World} {R : Nat} {cs : Array Value} {x : Value} {tmps : Array Value} (hf : fn.results = #[.cell p T, .tmp q]) (hu : Tryz.prog.underlying T = some (.struct fs)) {n : Nat} (hi : (Tryz.prog.info? T).map (·.size) = some n) (hn : cs.size = n)
    (hr : wx.heap[R]? = some (.cells cs T (0, 0))) (hp : tmps.getD p undef = .pointer (some ⟨R, 0, none⟩)) (hx : tmps.getD q undef = x) : (results fn tmps).run Tryz.prog wx = .ok (.tuple #[.agg cs, x]) wx := by
  refine (results_cell_tmp hf _ _ _).trans ?_
  rw [hp, hx]
  have h1 := run_loadVar_row (P := Tryz.prog) wx R T T cs (0, 0) _ hr hu rfl (by rw [hn]; exact hi)
  simp [asAddr, h1, Result.andThen]
end
section
open Go.RowKit Go
/-- A base of the landed code. -/
structure Bs where
  l : ByteArray
  t : ByteArray
  n : Nat
def b0 : Bs := ⟨⟨#[]⟩, ⟨#[]⟩, 0⟩
end
section
open Go.RowKit Go
/-- Which digit each byte is, counted from 1, by the first k digits. -/
def plt (t : List Nat) : Nat → List Nat
  | 0 => List.replicate 256 0
  | k + 1 => (plt t k).set (t.getD k 0) (k + 1)
theorem sl_at (D : ByteArray) (k : Nat) (h : k < D.size) : (sl D).getD k 0 = D[k].toNat := by
  rw [sl_get]
  congr 1
  have h2 : k < D.data.toList.length := by rw [Array.length_toList]; exact h
  rw [List.getD_eq_getElem?_getD, List.getElem?_eq_getElem h2]
  rfl
end
section
open Go.RowKit Go
/-- Digits that the table tells. -/
def tells (t : List Nat) : Prop := ∀ c, c < 256 → (plt t t.length).getD c 0 = (match look t c with | some i => i + 1 | none => 0)
end
section
open Go.RowKit Go

end
section
open Go.RowKit Go
theorem take_at (xs : List Nat) (k : Nat) (h : k < xs.length) : xs.take (k + 1) = xs.take k ++ [xs.getD k 0] := by
  rw [List.take_succ_eq_append_getElem h, List.getD_eq_getElem?_getD, List.getElem?_eq_getElem h]
  rfl
end
section
open Go.RowKit Go

end
section
open Go.RowKit Go

end
section
open Go.RowKit Go

end
section
open Go.RowKit Go

end
section
open Go.RowKit Go

end
end Go.Proofs.YtgcccndbahphaaaGreatDoor
