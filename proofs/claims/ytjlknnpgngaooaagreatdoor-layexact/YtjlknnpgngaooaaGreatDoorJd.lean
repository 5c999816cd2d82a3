import Derived.Test.YtjlknnpgngaooaaGreatDoorJc
import Derived.Test.YtjlknnpgngaooaaGreatDoorJb
import Derived.Maps.AppendAt
import Derived.Lib.AppendStr
import Derived.Test.YtjlknnpgngaooaaGreatDoorJa
import Derived.DeepKeys
import Derived.Deep.RegionHeld
import Derived.Lib.SlBytesConst
import Derived.StillTailTactics
import Derived.BigQuiet
import Derived.Lib.BytesEntry
import Derived.Laws.Externs
import Derived.Lib.Bytealg
namespace Go.Proofs.YtjlknnpgngaooaaGreatDoor
section
open Go.RowKit Go
/-- What LendValue has in hand: its argument's block, the result's, the copy's. -/
structure Lw (w wx : World) (c0 c2 : Array Value) : Prop where
  a : wx.heap[w.heap.size]? = some (.cells c0 65 (0, 0))
  r : wx.heap[w.heap.size + 1]? = some (.cells zv 65 (0, 0))
  x : wx.heap[w.heap.size + 1 + 1]? = some (.cells c2 65 (0, 0))
  b : Below w.heap.size w wx
theorem Lw.start (w : World) (c : Array Value) : Lw w (((w.alloc (.cells c 65)).alloc (.cells zv 65)).alloc (.cells c 65)) c c := by
  have h1 := heap_alloc_new w (.cells c 65)
  have e1 : (w.alloc (.cells c 65)).heap.size = w.heap.size + 1 := by simp
  have h2 := heap_alloc_new (w.alloc (.cells c 65)) (.cells zv 65)
  have e2 : ((w.alloc (.cells c 65)).alloc (.cells zv 65)).heap.size = w.heap.size + 1 + 1 := by simp
  have h3 := heap_alloc_new ((w.alloc (.cells c 65)).alloc (.cells zv 65)) (.cells c 65)
  rw [e1] at h2
  rw [e2] at h3
  have b1 := below_alloc4 w (.cells c 65)
  have b2 := below_alloc4 (w.alloc (.cells c 65)) (.cells zv 65)
  have b3 := below_alloc4 ((w.alloc (.cells c 65)).alloc (.cells zv 65)) (.cells c 65)
  exact ⟨blk_alloc _ (blk_alloc _ h1), blk_alloc _ h2, h3, (b1.trans (b2.mono b1.size)).trans (b3.mono (Nat.le_trans b1.size b2.size))⟩
theorem Lw.next {w wx wy : World} {c0 c2 : Array Value} (h : Lw w wx c0 c2) (hb : Below wx.heap.size wx wy) : Lw w wy c0 c2 :=
  ⟨(hb.block _ (blk_lt h.a)).trans h.a, (hb.block _ (blk_lt h.r)).trans h.r, (hb.block _ (blk_lt h.x)).trans h.x, h.b.trans (hb.mono h.b.size)⟩
theorem Lw.set {w wx : World} {c0 c2 : Array Value} (h : Lw w wx c0 c2) (j : Nat) (v : Value) : Lw w (wx.setCell ⟨w.heap.size + 1 + 1, j, none⟩ v) c0 (c2.setIfInBounds j v) ∧ Kp (fun q => q = w.heap.size + 1 + 1) wx (wx.setCell ⟨w.heap.size + 1 + 1, j, none⟩ v) := by
  have hk : Kp (fun q => q = w.heap.size + 1 + 1) wx (wx.setCell ⟨w.heap.size + 1 + 1, j, none⟩ v) := (Kp.refl _ _).setCell _ _ (fun _ => rfl)
  exact ⟨⟨blk_other j v h.a (by omega), blk_other j v h.r (by omega), blk_set j v h.x, h.b.trans (hk.below h.b.size (fun q e => by omega))⟩, hk⟩
theorem sl_blk {g n c q : Nat} (h : (Value.slice (some ⟨g, 0, none⟩) n c).ownBlock = some q) : q = g := by
  injection h with h
  exact h.symm
theorem end_v1 {wx : World} {R : Nat} {c : Array Value} {tmps : Array Value} (hn : c.size = 13) (hr : wx.heap[R]? = some (.cells c 65 (0, 0))) (hp : tmps.getD 2 undef = .pointer (some ⟨R, 0, none⟩)) : (results Tryz.f7 tmps).run Tryz.prog wx = .ok (.agg c) wx := by
  refine (results_one (p := 2) (ty := 65) rfl _ _ _).trans ?_
  rw [hp]
  have h1 := run_loadVar_row (P := Tryz.prog) wx R 65 65 c (0, 0) _ hr Tryz.underlying65 rfl (by rw [hn]; exact infoV)
  simp [asAddr, h1, Result.andThen]
theorem setv (t : Tv) (vy vk vi x : Value) : (vcs t vy vk vi).setIfInBounds 6 x = vcs t x vk vi ∧ (vcs t vy vk vi).setIfInBounds 11 x = vcs t vy x vi ∧ (vcs t vy vk vi).setIfInBounds 12 x = vcs t vy vk x := ⟨rfl, rfl, rfl⟩
end
section
open Go.RowKit Go
theorem Tin.all1 {w : World} {t : Tv} {c : Array Value} (h : Tin w t c) : c.all (·.oneCell') = true := by
  obtain ⟨vy, vk, vi, rfl, hy, hk, hv, _⟩ := h.parts
  obtain ⟨⟨ay, cy, rfl, _, _⟩, _⟩ := hy
  obtain ⟨⟨ak, ck, rfl, _, _⟩, _, _⟩ := hk
  obtain ⟨⟨ai, ci, rfl, _, _⟩, _⟩ := hv
  kernel_rfl
theorem Tin.size13 {w : World} {t : Tv} {c : Array Value} (h : Tin w t c) : c.size = 13 := by
  obtain ⟨vy, vk, vi, rfl, _⟩ := h.parts
  rfl
/-- A range's item in a variable of its own. -/
structure Itm (w wi : World) (c : Array Value) : Prop where
  b : Below w.heap.size w wi
  r : wi.heap[w.heap.size]? = some (.cells c 65 (0, 0))
  z : wi.heap.size = w.heap.size + 1
theorem itm_mk (w : World) (c : Array Value) : Itm w ((w.alloc (.cells zv 65)).setRow w.heap.size c) c := by
  have h0 := heap_alloc_new w (.cells zv 65)
  have hk := row_kp (w.alloc (.cells zv 65)) w.heap.size c
  refine ⟨(below_alloc4 w _).trans (hk.below (by simp) (fun q e => by omega)), row_same h0, ?_⟩
  simp [World.setRow]
theorem Itm.cells {w wi : World} {c : Array Value} (h : Itm w wi c) : ∀ j u, c[j]? = some u → wi.cell? ⟨w.heap.size, 0 + j, none⟩ = some u := fun j u hu => by
  rw [Nat.zero_add]
  exact blk_cell h.r hu

set_option maxRecDepth 1000000 in
set_option maxHeartbeats 1000000 in
theorem nests_any (t : Tv) (w : World) (cs : Array Value) (ht : Tin w t cs) : Calls Tryz.prog 132 #[.agg cs] w fun e w' => e = .returned (.bool (decide (t.k = 8 ∨ t.k = 9))) ∧ Below w.heap.size w w' := by
  obtain ⟨vy, vk, vi, rfl, hy, hk, hv, hb⟩ := ht.parts
  obtain ⟨⟨ay, cy, rfl, _, _⟩, _⟩ := hy
  obtain ⟨⟨ak, ck, rfl, _, _⟩, _, _⟩ := hk
  obtain ⟨⟨ai, ci, rfl, _, _⟩, _⟩ := hv
  clear ht hb
  unfold vcs
  have HB0 := hide (below_alloc4 w (.cells #[.int .i64 t.k, .bool t.f, .bool t.g, .int .u64 (t.n : Nat), .int .u64 (t.b : Nat), .string t.s, .slice ay t.y.length cy, .int .i64 t.l.v, .int .u64 (t.l.c : Nat), .int .u64 (t.l.h : Nat), .string (nstr t.l.d), .slice ak t.ks.length ck, .slice ai t.is.length ci] 65))
  go_enter Tryz.func132, Tryz.ntmps132
  by_cases h8 : t.k = 8
  · as_aux_lemma =>
    have g8 : (t.k == 8) = true := by rw [h8]; rfl
    have HR : Hid (decide (t.k = 8 ∨ t.k = 9) = true) := decide_eq_true (.inl h8)
    clear h8
    go_wp2_with fail
    go_ret
    exact ⟨by rw [HR.out]; rfl, HB0.out⟩
  · have g8 : (t.k == 8) = false := by simpa using h8
    by_cases h9 : t.k = 9
    · as_aux_lemma =>
      have g9 : (t.k == 9) = true := by rw [h9]; rfl
      have HR : Hid (decide (t.k = 8 ∨ t.k = 9) = true) := decide_eq_true (.inr h9)
      clear h8 h9
      go_wp2_with fail
      go_ret
      exact ⟨by rw [HR.out]; rfl, HB0.out⟩
    · as_aux_lemma =>
      have g9 : (t.k == 9) = false := by simpa using h9
      have HR : Hid (decide (t.k = 8 ∨ t.k = 9) = false) := decide_eq_false (fun h => h.elim h8 h9)
      clear h8 h9
      go_wp2_with fail
      go_ret
      exact ⟨by rw [HR.out]; rfl, HB0.out⟩
end
section
open Go.RowKit Go
theorem cell_lt6 {w : World} {a : Addr} {v : Value} (h : w.cell? a = some v) : a.block < w.heap.size := by
  rcases Nat.lt_or_ge a.block w.heap.size with h1 | h1
  · exact h1
  · unfold World.cell? at h
    rw [Array.getElem?_eq_none h1] at h
    cases h
/-! A value in memory that does not lie in a set of blocks. -/
inductive Tis (w : World) (S : Nat → Prop) : Tv → Array Value → Prop
  | mk (t : Tv) (vy vk vi : Value) (hb : Tbd t) (hy : BSl w vy t.y) (hys : t.y ≠ [] → ∀ q, vy.ownBlock = some q → ¬ S q) (hk : SSl w vk t.ks) (hks : t.ks ≠ [] → ∀ q, vk.ownBlock = some q → ¬ S q)
      (cs : Nat → Array Value) (a : Option Addr) (cap : Nat) (hv : vi = .slice a t.is.length cap) (hc : t.is.length ≤ cap ∧ (a = none → cap = 0)) (hm : t.is.length ≤ 140737488351232) (hi : ∀ i u, t.is[i]? = some u → Tis w S u (cs i))
      (ha : t.is = [] ∨ ∃ b off, a = some ⟨b, off, none⟩ ∧ ¬ S b ∧ ∀ i, i < t.is.length → ∀ j u, (cs i)[j]? = some u → w.cell? ⟨b, off + i * 13 + j, none⟩ = some u) : Tis w S t (vcs t vy vk vi)
theorem Tis.tin {w : World} {S : Nat → Prop} {t : Tv} {c : Array Value} (h : Tis w S t c) : Tin w t c := by
  induction h with
  | mk t vy vk vi hb hy hys hk hks cs a cap hv hc hm hi ha ih =>
    subst hv
    refine Tin.mk t vy vk a cap cs hb.n hb.b hb.s hy hb.y hb.l hb.d hk hc hm ih ?_
    rcases ha with ha | ⟨b, off, e, _, ha⟩
    · exact .inl ha
    · exact .inr ⟨b, off, e, ha⟩
theorem bsl_nil6 {w w' : World} {v : Value} (h : BSl w v []) : BSl w' v [] := by
  obtain ⟨⟨a, c, hv, hn, hc⟩, h1, h2⟩ := h
  exact ⟨⟨a, c, hv, hn, .inl rfl⟩, h1, h2⟩
theorem ssl_nil6 {w w' : World} {v : Value} (h : SSl w v []) : SSl w' v [] := by
  obtain ⟨⟨a, c, hv, hn, hc⟩, h1, h2⟩ := h
  exact ⟨⟨a, c, hv, hn, .inl rfl⟩, h1, h2⟩
theorem Kp.ssl {S : Nat → Prop} {w w' : World} (h : Kp S w w') {v : Value} {ks : List ByteArray} (hb : SSl w v ks) (hs : ∀ k, v.ownBlock = some k → ¬ S k) : SSl w' v ks := by
  obtain ⟨⟨a, c, hv, hn, hc⟩, h1, h2⟩ := hb
  refine ⟨⟨a, c, hv, hn, ?_⟩, h1, h2⟩
  rcases hc with hc | ⟨b, off, ha, hc⟩
  · exact .inl hc
  · refine .inr ⟨b, off, ha, fun j s hj => h.cell (hc j s hj) (hs b ?_)⟩
    rw [hv, ha]
    rfl
theorem Tis.kp {w w' : World} {S : Nat → Prop} {t : Tv} {c : Array Value} (h : Tis w S t c) (hk : Kp S w w') : Tis w' S t c := by
  induction h with
  | mk t vy vk vi hb hy hys hkk hks cs a cap hv hc hm hi ha ih =>
    refine Tis.mk t vy vk vi hb ?_ hys ?_ hks cs a cap hv hc hm ih ?_
    · by_cases e : t.y = []
      · rw [e] at hy ⊢
        exact bsl_nil6 hy
      · exact hk.bsl hy (hys e)
    · by_cases e : t.ks = []
      · rw [e] at hkk ⊢
        exact ssl_nil6 hkk
      · exact hk.ssl hkk (hks e)
    · rcases ha with ha | ⟨b, off, e, hs, ha⟩
      · exact .inl ha
      · exact .inr ⟨b, off, e, hs, fun i hi j u hu => hk.cell (ha i hi j u hu) hs⟩
theorem Tis.mono {w : World} {S T : Nat → Prop} {t : Tv} {c : Array Value} (h : Tis w S t c) (hs : ∀ q, T q → S q) : Tis w T t c := by
  induction h with
  | mk t vy vk vi hb hy hys hk hks cs a cap hv hc hm hi ha ih =>
    refine Tis.mk t vy vk vi hb hy (fun e q hq h => hys e q hq (hs q h)) hk (fun e q hq h => hks e q hq (hs q h)) cs a cap hv hc hm ih ?_
    rcases ha with ha | ⟨b, off, e, h1, ha⟩
    · exact .inl ha
    · exact .inr ⟨b, off, e, fun h => h1 (hs b h), ha⟩
theorem Tis.of_tin {w : World} {S : Nat → Prop} {t : Tv} {c : Array Value} (h : Tin w t c) (hs : ∀ q, S q → w.heap.size ≤ q) : Tis w S t c := by
  induction h with
  | mk t vy vk a cap cs hn hb hsz hy hyl hl hld hk hc hm hi ha ih =>
    refine Tis.mk t vy vk _ ⟨hn, hb, hsz, hyl, hl, hld⟩ hy ?_ hk ?_ cs a cap rfl hc hm ih ?_
    · intro e q hq h
      obtain ⟨⟨a', c', hv, _, hcc⟩, _, _⟩ := hy
      obtain ⟨b, off, ha', hcd⟩ := hcc.resolve_left e
      subst hv
      subst ha'
      have e3 : b = q := by simpa [Value.ownBlock] using hq
      subst e3
      have hl : 0 < t.y.length := List.length_pos_iff.2 e
      have h1 := cell_lt6 (hcd 0 hl)
      have := hs _ h
      simp only at h1
      omega
    · intro e q hq h
      obtain ⟨⟨a', c', hv, _, hcc⟩, _, _⟩ := hk
      obtain ⟨b, off, ha', hcd⟩ := hcc.resolve_left e
      subst hv
      subst ha'
      have e3 : b = q := by simpa [Value.ownBlock] using hq
      subst e3
      obtain ⟨s, hs0⟩ : ∃ s, t.ks[0]? = some s := by
        cases hks : t.ks with
        | nil => exact absurd hks e
        | cons s r => exact ⟨s, rfl⟩
      have h1 := cell_lt6 (hcd 0 s hs0)
      have := hs _ h
      simp only at h1
      omega
    · rcases ha with ha | ⟨b, off, e, ha⟩
      · exact .inl ha
      · by_cases e2 : t.is = []
        · exact .inl e2
        · refine .inr ⟨b, off, e, fun h => ?_, ha⟩
          have hl : 0 < t.is.length := List.length_pos_iff.2 e2
          have hz := (hi 0 _ (List.getElem?_eq_getElem hl)).size13
          have h1 := cell_lt6 (ha 0 hl 0 ((cs 0)[0]'(by omega)) (Array.getElem?_eq_getElem (by omega)))
          have := hs _ h
          simp only at h1
          omega
/-- Nor does it lie in what is made later. -/
theorem Tis.widen {w : World} {S : Nat → Prop} {t : Tv} {c : Array Value} (h : Tis w S t c) : Tis w (fun q => S q ∨ w.heap.size ≤ q) t c := by
  induction h with
  | mk t vy vk vi hb hy hys hk hks cs a cap hv hc hm hi ha ih =>
    have hi2 := hi
    refine Tis.mk t vy vk vi hb hy ?_ hk ?_ cs a cap hv hc hm ih ?_
    · intro e q hq h
      rcases h with h | h
      · exact hys e q hq h
      · obtain ⟨⟨a', c', hv', _, hcc⟩, _, _⟩ := hy
        obtain ⟨b, off, ha', hcd⟩ := hcc.resolve_left e
        subst hv'
        subst ha'
        have e3 : b = q := by simpa [Value.ownBlock] using hq
        subst e3
        have hl : 0 < t.y.length := List.length_pos_iff.2 e
        have h1 := cell_lt6 (hcd 0 hl)
        simp only at h1
        omega
    · intro e q hq h
      rcases h with h | h
      · exact hks e q hq h
      · obtain ⟨⟨a', c', hv', _, hcc⟩, _, _⟩ := hk
        obtain ⟨b, off, ha', hcd⟩ := hcc.resolve_left e
        subst hv'
        subst ha'
        have e3 : b = q := by simpa [Value.ownBlock] using hq
        subst e3
        obtain ⟨s, hs0⟩ : ∃ s, t.ks[0]? = some s := by
          cases hks' : t.ks with
          | nil => exact absurd hks' e
          | cons s r => exact ⟨s, rfl⟩
        have h1 := cell_lt6 (hcd 0 s hs0)
        simp only at h1
        omega
    · rcases ha with ha | ⟨b, off, e, hs, ha⟩
      · exact .inl ha
      · by_cases e2 : t.is = []
        · exact .inl e2
        · refine .inr ⟨b, off, e, fun h => ?_, ha⟩
          rcases h with h | h
          · exact hs h
          · have hl : 0 < t.is.length := List.length_pos_iff.2 e2
            have hz := (hi2 0 _ (List.getElem?_eq_getElem hl)).tin.size13
            have h1 := cell_lt6 (ha 0 hl 0 ((cs 0)[0]'(by omega)) (Array.getElem?_eq_getElem (by omega)))
            simp only at h1
            omega
end
section
open Go.RowKit Go
/-! ### The parts of a form, plainly -/
inductive Prt where
  | null
  | truth (b : Bool)
  | whole (g : Bool) (n : Nat)
  | float (b : Nat)
  | text (s : ByteArray)
  | octets (y : List Nat)
  | name (y : List Nat)
  | list (is : List Tv)
  | entries (ks : List ByteArray) (is : List Tv)
def prt (t : Tv) : Prt :=
  if t.k = 2 then .truth t.f else if t.k = 3 then .whole t.g t.n else if t.k = 4 then .float t.b else if t.k = 5 then .text t.s else if t.k = 6 then .octets t.y
  else if t.k = 7 then .name (0 :: lrow t.l) else if t.k = 8 then .list t.is else if t.k = 9 then .entries t.ks t.is else .null
/-- A part's own bytes. -/
def pfm : Prt → List Nat
  | .null => [246]
  | .truth b => [if b = true then 245 else 244]
  | .whole g n => hl (if g = true then 1 else 0) n
  | .float b => 251 :: be 8 b
  | .text s => kfm s
  | .octets y => hl 2 y.length ++ y
  | .name y => hl 6 42 ++ (hl 2 y.length ++ y)
  | .list is => hl 4 is.length
  | .entries ks _ => hl 5 ks.length
/-- Those below it. -/
def pbl : Prt → List Prt
  | .list is => is.map prt
  | .entries ks is => (ks.zip is).flatMap fun x => [.text x.1, prt x.2]
  | _ => []
/-- Its bytes with those below. -/
def pall : Prt → List Nat
  | .list is => hl 4 is.length ++ tfmL is
  | .entries ks is => hl 5 ks.length ++ tfmK ks is
  | p => pfm p
/-- A tree of which parts are made: kinds that are, links that may be, as many keys as items. -/
inductive Ptr : Tv → Prop
  | mk (t : Tv) (hk : 1 ≤ t.k ∧ t.k ≤ 9) (h7 : t.k = 7 → lok t.l) (h9 : t.k = 9 → t.ks.length = t.is.length) (hi : ∀ u ∈ t.is, Ptr u) : Ptr t
theorem Ptr.i {t : Tv} (h : Ptr t) : ∀ u ∈ t.is, Ptr u := by
  cases h with
  | mk _ a b c d => exact d
theorem lrow_ok {l : Lk} (h : lok l) : lrow l = lbytes l := by
  unfold lrow
  rw [if_pos h]
theorem pall_prt {t : Tv} (h : Ptr t) : pall (prt t) = tfm t := by
  cases h with
  | mk _ hk h7 h9 hi =>
    obtain ⟨k, f, g, n, b, s, y, l, ks, is⟩ := t
    simp only [Tv.k, Tv.l, Tv.ks, Tv.is] at hk h7 h9
    have hc : k = 1 ∨ k = 2 ∨ k = 3 ∨ k = 4 ∨ k = 5 ∨ k = 6 ∨ k = 7 ∨ k = 8 ∨ k = 9 := by omega
    unfold prt tfm
    simp only [Tv.k, Tv.f, Tv.g, Tv.n, Tv.b, Tv.s, Tv.y, Tv.l, Tv.ks, Tv.is]
    rcases hc with rfl | rfl | rfl | rfl | rfl | rfl | rfl | rfl | rfl
    · rfl
    · rfl
    · rfl
    · rfl
    · rfl
    · rfl
    · rw [lrow_ok (h7 rfl)]
      simp [pall, pfm, Nat.add_comm]
    · rfl
    · simp [pall, h9 rfl]
/-- How many bytes a part has by itself. -/
def psz : Prt → Nat
  | .null => 1
  | .truth _ => 1
  | .whole _ n => hsize n
  | .float _ => 9
  | .text s => hsize s.size + s.size
  | .octets y => hsize y.length + y.length
  | .name y => hsize 42 + (hsize y.length + y.length)
  | .list is => hsize is.length
  | .entries ks _ => hsize ks.length
theorem hl_len7 (m n : Nat) : (hl m n).length = hsize n := by
  unfold hl hsize
  rw [List.length_cons, be_len]
  omega
theorem sl_len7 (s : ByteArray) : (sl s).length = s.size := by
  unfold sl
  simp
theorem psz_len (p : Prt) : (pfm p).length = psz p := by
  cases p with
  | null => rfl
  | truth b => rfl
  | whole g n => exact hl_len7 _ _
  | float b => show (251 :: be 8 b).length = 9; rw [List.length_cons, be_len]
  | text s => show (kfm s).length = _; unfold kfm psz; rw [List.length_append, hl_len7, sl_len7]
  | octets y => show (hl 2 y.length ++ y).length = _; unfold psz; rw [List.length_append, hl_len7]
  | name y => show (hl 6 42 ++ (hl 2 y.length ++ y)).length = _; unfold psz; rw [List.length_append, List.length_append, hl_len7, hl_len7]
  | list is => exact hl_len7 _ _
  | entries ks is => exact hl_len7 _ _
end
section
open Go.RowKit Go
/-! ### Appending to a row of the call's own: where the new one lies -/
/-- What laying tells: these bytes behind a row. -/
def LayP (w : World) (B : Nat) (v : Value) (n : Nat) (ds xs : List Nat) (e : Ending) (w' : World) : Prop :=
  ∃ v', e = .returned v' ∧ w'.ownsRow B 5 1 v' (n + xs.length) (bv (ds ++ xs)) ∧ v' ≠ .slice none 0 0 ∧ Kp (fun q => v.ownBlock = some q) w w' ∧ (v'.ownBlock = v.ownBlock ∨ ∀ q, v'.ownBlock = some q → w.heap.size ≤ q)
/-- Where the new row lies. -/
def At7 (w : World) (v v' : Value) : Prop := v'.ownBlock = v.ownBlock ∨ ∀ q, v'.ownBlock = some q → w.heap.size ≤ q
theorem append_tu {t u ty : TypeId} {e e' : TypeId} (ht : Tryz.prog.underlying t = some (.slice e)) (hu : Tryz.prog.underlying u = some (.slice e')) (b : Option Addr) (n c : Nat) (x : Value) (w : World) : (Builtin.append_ #[t, u] ty #[.slice b n c, x]).run Tryz.prog w = (Builtin.append_ #[t, t] ty #[.slice b n c, x]).run Tryz.prog w := by
  have h1 : ∀ w, (underlying t).run Tryz.prog w = .ok (.slice e) w := fun w => run_underlying ht w
  have h2 : ∀ w, (underlying u).run Tryz.prog w = .ok (.slice e') w := fun w => run_underlying hu w
  simp [Builtin.append_, Sem.run_bind, h1, h2]
theorem own_slice7 {w : World} {B e s n : Nat} {v : Value} {xs : List Value} (h : w.ownsRow B e s v n xs) : ∃ a c, v = .slice a n c := by
  rcases h.2 with ⟨e, h0⟩ | ⟨g, c, cur, e, _⟩
  · exact ⟨none, 0, by rw [e, h0]⟩
  · exact ⟨_, c, e⟩
theorem append_bytes {ops : Array Oper} {rest : List Oper} {o : Oper} {a : Act} {Q : Exit → Act → World → Prop} {w : World} (hgd : o.guard = none) (s x : Operand) (t u : TypeId)
    (ho : o.op = .call { callee := .builtin .append, args := #[s, x], argTypes := #[t, u] }) (ht : Tryz.prog.underlying t = some (.slice 5)) (hu : Tryz.prog.underlying u = some (.slice 5)) (B : Nat) (v : Value) (n : Nat) (ds : List Nat) (hs : a.eval s = v) (hown : w.ownsRow B 5 1 v n (bv ds)) (hnn : v ≠ .slice none 0 0)
    (uv : Value) (xs : List Nat) (hx : a.eval x = uv) (hsl : BSl w uv xs) (hlen : n + xs.length ≤ 140737488355328) (hbase : B ≤ w.heap.size)
    (h : ∀ v' w', w'.ownsRow B 5 1 v' (n + xs.length) (bv (ds ++ xs)) → w.grownBy w' v.ownBlock → v' ≠ .slice none 0 0 → At7 w v v' → wpList Tryz.prog ops Q rest (a.put o.dst v') w') : wpList Tryz.prog ops Q (o :: rest) a w := by
  obtain ⟨i5, hi, hz0, hz1, hz2⟩ := info5_ex
  obtain ⟨⟨ad, cap, rfl, hn, hc⟩, hmax, hb⟩ := id hsl
  refine wpList_plain hgd fun K hK => ?_
  cases ad with
  | none =>
    rcases hc with rfl | ⟨_, _, e, _⟩
    · have := hn.2 rfl
      subst this
      have hrun := run_append_owned_none (P := Tryz.prog) (w := w) B t o.type 5 i5 1 ht hi v n (bv ds) hown
      obtain ⟨av, cv, hvv⟩ := own_slice7 hown
      rw [hvv] at hrun hs
      rw [← append_tu ht hu] at hrun
      unfold Oper.wp
      simp only [List.length_nil] at hx
      simp [execOp, ho, resolve, invoke, builtin, hs, hx, hrun, Result.andThen]
      have h9 := h v w (by simpa using hown) ⟨rfl, rfl, rfl, Nat.le_refl _, fun _ _ _ => rfl⟩ hnn (.inl rfl)
      rw [hvv] at h9
      exact hK _ _ h9
    · cases e
  | some ad =>
    obtain ⟨v', w', hrun, r1, r2, r3, r4⟩ := run_append_own_at (P := Tryz.prog) w B t o.type 5 i5 (.int .u8 0) 1 1 ht hi hz0 hz1 hz2 rfl (by decide) v n (bv ds) hown ad xs.length cap (bv xs) (by simp [bv]) hsl.src.2 (bv_one xs) (by unfold maxLen; omega) (by omega) hbase
    obtain ⟨av, cv, hvv⟩ := own_slice7 hown
    rw [hvv] at hrun hs
    rw [← append_tu ht hu] at hrun
    unfold Oper.wp
    simp [execOp, ho, resolve, invoke, builtin, hs, hx, hrun, Result.andThen]
    refine hK _ _ (h v' w' (by rw [bv_app]; exact r1) r2 (fun e => hnn (r3.1 e).1) ?_)
    rcases r4 with e | e
    · exact .inl e
    · exact .inr (fun q hq => by rw [e] at hq; injection hq with hq; omega)
theorem strCells_bv (s : ByteArray) : Lib.strCells s = bv (sl s) := by
  unfold Lib.strCells bv sl
  simp
theorem append_text {ops : Array Oper} {rest : List Oper} {o : Oper} {a : Act} {Q : Exit → Act → World → Prop} {w : World} (hgd : o.guard = none) (s x : Operand) (t u : TypeId)
    (ho : o.op = .call { callee := .builtin .append, args := #[s, x], argTypes := #[t, u] }) (ht : Tryz.prog.underlying t = some (.slice 5)) (hu : Tryz.prog.underlying u = some .string) (B : Nat) (v : Value) (n : Nat) (ds : List Nat) (hs : a.eval s = v) (hown : w.ownsRow B 5 1 v n (bv ds)) (hnn : v ≠ .slice none 0 0)
    (str : ByteArray) (hx : a.eval x = .string str) (hlen : n + str.size ≤ 140737488355328) (hbase : B ≤ w.heap.size)
    (h : ∀ v' w', w'.ownsRow B 5 1 v' (n + str.size) (bv (ds ++ sl str)) → w.grownBy w' v.ownBlock → v' ≠ .slice none 0 0 → At7 w v v' → wpList Tryz.prog ops Q rest (a.put o.dst v') w') : wpList Tryz.prog ops Q (o :: rest) a w := by
  obtain ⟨i5, hi, hz0, hz1, hz2⟩ := info5_ex
  refine wpList_plain hgd fun K hK => ?_
  obtain ⟨v', w', hrun, r1, r2, r3⟩ := Lib.run_append_own_string (P := Tryz.prog) w B t u o.type 5 i5 ht hu hi hz0 hz1 hz2 v n (bv ds) hown str (by unfold maxLen; omega) hlen hbase
  have hat : v'.ownBlock = v.ownBlock ∨ ∀ q, v'.ownBlock = some q → w.heap.size ≤ q := by
    rcases hown.2 with ⟨e, _⟩ | ⟨g, cap, cur, rfl, hbg, hg, hnc, hcm, hcs, htake⟩
    · exact absurd e hnn
    · by_cases hroom : n + str.size ≤ cap
      · have hr := Lib.run_append_room_string (P := Tryz.prog) w t u o.type 5 i5 ht hu hi hz1 g n cap cur hg str hroom (by rw [hcs]; omega)
        rw [hrun] at hr
        injection hr with hr _
        rw [hr]
        exact .inl rfl
      · have holds : ∀ j x, (bv ds)[j]? = some x → w.cell? ((⟨g, 0, none⟩ : Addr).add j) = some x := hown.cells (g := g) rfl
        have hr := Lib.run_append_grow_string (P := Tryz.prog) w t u o.type 5 i5 (.int .u8 0) ht hu hi hz0 ⟨g, 0, none⟩ n cap (bv ds) (by rw [hz1]; exact hown.1) holds str (by omega) (by omega) (by rw [hz2]; exact growslice_fits (by omega) (by omega))
        rw [hrun] at hr
        injection hr with hr _
        rw [hr]
        exact .inr (fun q hq => Nat.le_of_eq (Option.some.inj hq))
  unfold Oper.wp
  simp [execOp, ho, resolve, invoke, builtin, hs, hx, hrun, Result.andThen]
  exact hK _ _ (h v' w' (by rw [bv_app, ← strCells_bv]; exact r1) r2 (fun e => hnn (r3.1 e).1) hat)
end
section
open Go.RowKit Go
theorem LayP.mk {w : World} {B : Nat} {v : Value} {n : Nat} {ds xs : List Nat} {w0 w' v' : _} {k : Nat} (hb : Below w.heap.size w w0) (hk : k = n + xs.length) (h1 : w'.ownsRow B 5 1 v' k (bv (ds ++ xs))) (h2 : w0.grownBy w' v.ownBlock) (h3 : v' ≠ .slice none 0 0) (h4 : v'.ownBlock = v.ownBlock ∨ ∀ q, v'.ownBlock = some q → w0.heap.size ≤ q) : LayP w B v n ds xs (.returned v') w' := by
  subst hk
  refine ⟨v', rfl, h1, h3, (Kp.of_below hb).grown h2 (fun _ _ e => e), ?_⟩
  rcases h4 with e | e
  · exact .inl e
  · exact .inr (fun q hq => Nat.le_trans hb.size (e q hq))
theorem LayP.step {w : World} {B : Nat} {v : Value} {n : Nat} {ds xs : List Nat} {w0 w' v' : _} (hb : Below w.heap.size w w0) (h1 : w'.ownsRow B 5 1 v' (n + xs.length) (bv (ds ++ xs))) (h2 : Kp (fun q => v.ownBlock = some q) w0 w') (h3 : v' ≠ .slice none 0 0) (h4 : v'.ownBlock = v.ownBlock ∨ ∀ q, v'.ownBlock = some q → w0.heap.size ≤ q) : LayP w B v n ds xs (.returned v') w' := by
  refine ⟨v', rfl, h1, h3, (Kp.of_below hb).trans h2 (fun _ _ e => e), ?_⟩
  rcases h4 with e | e
  · exact .inl e
  · exact .inr (fun q hq => Nat.le_trans hb.size (e q hq))
theorem hlay_hl (m n : Nat) (hm : m ≤ 7) : hlay (m : Int) n = hl m n := by
  unfold hlay
  rw [if_pos (by omega), Int.toNat_natCast]
theorem hl_byte7 (m n : Nat) (hm : m ≤ 7) : ∀ x ∈ hl m n, x < 256 := by
  intro x hx
  unfold hl at hx
  rcases List.mem_cons.1 hx with e | e
  · rcases hinfo_cases n with h | h | h | h | h <;> omega
  · exact be_byte _ _ x e
theorem hsize_le7 (n : Nat) : hsize n ≤ 9 := by
  unfold hsize
  have := hwide_le (hinfo n)
  omega
set_option maxRecDepth 1000000 in
theorem withHead_any (w : World) (B : Nat) (v : Value) (n : Nat) (ds : List Nat) (hown : w.ownsRow B 5 1 v n (bv ds)) (hnn : v ≠ .slice none 0 0) (hB : B ≤ w.heap.size) (hn : n ≤ 140737488350000) (m N : Nat) (hm : m ≤ 7) (hN : N < 18446744073709551616) :
    Calls Tryz.prog 202 #[v, .int .i64 (m : Nat), .int .u64 (N : Nat)] w (LayP w B v n ds (hl m N)) := by
  have HO := hide hown
  have HNN := hide hnn
  obtain ⟨a, c, hv⟩ := own_slice7 hown
  subst hv
  have HB := hide hB
  have HN := hide hn
  clear hown hnn hB hn
  go_enter Tryz.func202, Tryz.ntmps202
  go_wp2_with fail
  refine (lay_any (m : Int) N w (by omega) hN).mono ?_
  rintro e w1 ⟨v1, rfl, ho1, hb1⟩
  rw [hlay_hl m N hm] at ho1
  have HS1 := hide (BSl.own ho1 (hl_byte7 m N hm))
  have HO1 : Hid (w1.ownsRow B 5 1 (.slice a n c) n (bv ds)) := (Kp.of_below (S := fun _ => False) hb1).owns HO.out (fun _ _ h => h)
  have HB1 := hide hb1
  have HL : Hid (n + (hl m N).length ≤ 140737488355328) := by show _ ≤ _; rw [hl_len7]; have := hsize_le7 N; have := HN.out; omega
  clear ho1 hb1
  go_wp2_with (at_builtin; refine append_bytes rfl _ _ 23 23 rfl Tryz.underlying23 Tryz.underlying23 B _ n ds rfl HO1.out HNN.out _ (hl m N) rfl HS1.out HL.out (Nat.le_trans HB.out HB1.out.size) ?_)
  intro v2 w2 h1 h2 h3 h4
  have HF : Hid (LayP w B (.slice a n c) n ds (hl m N) (.returned v2) w2) := LayP.mk HB1.out rfl h1 h2 h3 h4
  clear h1 h2 h3 h4
  go_wp2_with fail
  go_ret
  exact HF.out
theorem lit1_bsl (w : World) (x : Nat) (z : Int) (hz : z = ((x : Nat) : Int)) (hx : x < 256) : Below w.heap.size w (w.alloc (.cells #[.int .u8 z] 5)) ∧ BSl (w.alloc (.cells #[.int .u8 z] 5)) (.slice (some ⟨w.heap.size, 0, none⟩) 1 1) [x] := by
  subst hz
  exact ⟨below_alloc4 w _, one_bsl w x hx⟩
set_option maxRecDepth 1000000 in
theorem nullLay_any (w : World) (B : Nat) (v : Value) (n : Nat) (ds : List Nat) (hown : w.ownsRow B 5 1 v n (bv ds)) (hnn : v ≠ .slice none 0 0) (hB : B ≤ w.heap.size) (hn : n ≤ 140737488350000) :
    Calls Tryz.prog 215 #[.agg #[], v] w (LayP w B v n ds [246]) := by
  have HO := hide hown
  have HNN := hide hnn
  obtain ⟨a, c, hv⟩ := own_slice7 hown
  subst hv
  have HB := hide hB
  have HN := hide hn
  clear hown hnn hB hn
  have hb0 : Below w.heap.size w (w.alloc (.cells #[] 131)) := below_alloc4 w _
  have hl1 := lit1_bsl (w.alloc (.cells #[] 131)) 246 246 rfl (by decide)
  have hsz : (w.alloc (.cells #[] 131)).heap.size = w.heap.size + 1 := by simp
  have HB1 : Hid (Below w.heap.size w ((w.alloc (.cells #[] 131)).alloc (.cells #[.int .u8 246] 5))) := hb0.trans (hl1.1.mono hb0.size)
  have HS1 : Hid (BSl ((w.alloc (.cells #[] 131)).alloc (.cells #[.int .u8 246] 5)) (.slice (some ⟨w.heap.size + 1, 0, none⟩) 1 1) [246]) := by have h := hl1.2; rw [hsz] at h; exact h
  have HO1 : Hid (((w.alloc (.cells #[] 131)).alloc (.cells #[.int .u8 246] 5)).ownsRow B 5 1 (.slice a n c) n (bv ds)) := (Kp.of_below (S := fun _ => False) HB1.out).owns HO.out (fun _ _ h => h)
  clear hb0 hl1 hsz
  go_enter Tryz.func215, Tryz.ntmps215
  go_wp2_with (at_builtin; refine append_bytes rfl _ _ 23 23 rfl Tryz.underlying23 Tryz.underlying23 B _ n ds rfl HO1.out HNN.out _ [246] rfl HS1.out (by have := HN.out; show n + 1 ≤ _; omega) (Nat.le_trans HB.out HB1.out.size) ?_)
  intro v2 w2 h1 h2 h3 h4
  have HF : Hid (LayP w B (.slice a n c) n ds [246] (.returned v2) w2) := LayP.mk HB1.out rfl h1 h2 h3 h4
  clear h1 h2 h3 h4
  go_wp2_with fail
  go_ret
  exact HF.out
set_option maxRecDepth 1000000 in
theorem trueLay_any (w : World) (B : Nat) (v : Value) (n : Nat) (ds : List Nat) (hown : w.ownsRow B 5 1 v n (bv ds)) (hnn : v ≠ .slice none 0 0) (hB : B ≤ w.heap.size) (hn : n ≤ 140737488350000) :
    Calls Tryz.prog 198 #[.bool true, v] w (LayP w B v n ds [245]) := by
  have HO := hide hown
  have HNN := hide hnn
  obtain ⟨a, c, hv⟩ := own_slice7 hown
  subst hv
  have HB := hide hB
  have HN := hide hn
  clear hown hnn hB hn
  have hb0 : Below w.heap.size w w := Below.refl _ _
  have hl1 := lit1_bsl w 245 245 rfl (by decide)
  have HB1 : Hid (Below w.heap.size w (w.alloc (.cells #[.int .u8 245] 5))) := hb0.trans (hl1.1.mono hb0.size)
  have HS1 := hide hl1.2
  have HO1 : Hid ((w.alloc (.cells #[.int .u8 245] 5)).ownsRow B 5 1 (.slice a n c) n (bv ds)) := (Kp.of_below (S := fun _ => False) HB1.out).owns HO.out (fun _ _ h => h)
  clear hb0 hl1
  go_enter Tryz.func198, Tryz.ntmps198
  go_wp2_with (at_builtin; refine append_bytes rfl _ _ 23 23 rfl Tryz.underlying23 Tryz.underlying23 B _ n ds rfl HO1.out HNN.out _ [245] rfl HS1.out (by have := HN.out; show n + 1 ≤ _; omega) (Nat.le_trans HB.out HB1.out.size) ?_)
  intro v2 w2 h1 h2 h3 h4
  have HF : Hid (LayP w B (.slice a n c) n ds [245] (.returned v2) w2) := LayP.mk HB1.out rfl h1 h2 h3 h4
  clear h1 h2 h3 h4
  go_wp2_with fail
  go_ret
  exact HF.out
set_option maxRecDepth 1000000 in
theorem falseLay_any (w : World) (B : Nat) (v : Value) (n : Nat) (ds : List Nat) (hown : w.ownsRow B 5 1 v n (bv ds)) (hnn : v ≠ .slice none 0 0) (hB : B ≤ w.heap.size) (hn : n ≤ 140737488350000) :
    Calls Tryz.prog 198 #[.bool false, v] w (LayP w B v n ds [244]) := by
  have HO := hide hown
  have HNN := hide hnn
  obtain ⟨a, c, hv⟩ := own_slice7 hown
  subst hv
  have HB := hide hB
  have HN := hide hn
  clear hown hnn hB hn
  have hb0 : Below w.heap.size w w := Below.refl _ _
  have hl1 := lit1_bsl w 244 244 rfl (by decide)
  have HB1 : Hid (Below w.heap.size w (w.alloc (.cells #[.int .u8 244] 5))) := hb0.trans (hl1.1.mono hb0.size)
  have HS1 := hide hl1.2
  have HO1 : Hid ((w.alloc (.cells #[.int .u8 244] 5)).ownsRow B 5 1 (.slice a n c) n (bv ds)) := (Kp.of_below (S := fun _ => False) HB1.out).owns HO.out (fun _ _ h => h)
  clear hb0 hl1
  go_enter Tryz.func198, Tryz.ntmps198
  go_wp2_with (at_builtin; refine append_bytes rfl _ _ 23 23 rfl Tryz.underlying23 Tryz.underlying23 B _ n ds rfl HO1.out HNN.out _ [244] rfl HS1.out (by have := HN.out; show n + 1 ≤ _; omega) (Nat.le_trans HB.out HB1.out.size) ?_)
  intro v2 w2 h1 h2 h3 h4
  have HF : Hid (LayP w B (.slice a n c) n ds [244] (.returned v2) w2) := LayP.mk HB1.out rfl h1 h2 h3 h4
  clear h1 h2 h3 h4
  go_wp2_with fail
  go_ret
  exact HF.out
set_option maxRecDepth 1000000 in
theorem wholeLay_any (w : World) (B : Nat) (v : Value) (n : Nat) (ds : List Nat) (hown : w.ownsRow B 5 1 v n (bv ds)) (hnn : v ≠ .slice none 0 0) (hB : B ≤ w.heap.size) (hn : n ≤ 140737488350000) (g : Bool) (N : Nat) (hN : N < 18446744073709551616) :
    Calls Tryz.prog 200 #[.agg #[.bool g, .int .u64 (N : Nat)], v] w (LayP w B v n ds (hl (if g = true then 1 else 0) N)) := by
  have HO := hide hown
  have HNN := hide hnn
  obtain ⟨a, c, hv⟩ := own_slice7 hown
  subst hv
  have HB := hide hB
  have HN := hide hn
  clear hown hnn hB hn
  have hb0 := below_alloc4 w (.cells #[.bool g, .int .u64 (N : Nat)] 122)
  have HB1 := hide hb0
  have HO1 : Hid ((w.alloc (.cells #[.bool g, .int .u64 (N : Nat)] 122)).ownsRow B 5 1 (.slice a n c) n (bv ds)) := (Kp.of_below (S := fun _ => False) hb0).owns HO.out (fun _ _ h => h)
  have HFN : Hid (∀ m : Nat, m ≤ 7 → Calls Tryz.prog 202 #[.slice a n c, .int .i64 (m : Nat), .int .u64 (N : Nat)] (w.alloc (.cells #[.bool g, .int .u64 (N : Nat)] 122)) (LayP (w.alloc (.cells #[.bool g, .int .u64 (N : Nat)] 122)) B (.slice a n c) n ds (hl m N))) := fun m hm => withHead_any _ B _ n ds HO1.out HNN.out (Nat.le_trans HB.out hb0.size) HN.out m N hm hN
  clear hb0
  cases g with
  | true =>
    go_enter Tryz.func200, Tryz.ntmps200
    go_wp2_with fail
    refine (HFN.out 1 (by decide)).mono ?_
    rintro e w2 ⟨v2, rfl, h1, h3, h2, h4⟩
    have HF : Hid (LayP w B (.slice a n c) n ds (hl 1 N) (.returned v2) w2) := LayP.step HB1.out h1 h2 h3 h4
    clear h1 h2 h3 h4
    go_wp2_with fail
    go_ret
    exact HF.out
  | false =>
    go_enter Tryz.func200, Tryz.ntmps200
    go_wp2_with fail
    refine (HFN.out 0 (by decide)).mono ?_
    rintro e w2 ⟨v2, rfl, h1, h3, h2, h4⟩
    have HF : Hid (LayP w B (.slice a n c) n ds (hl 0 N) (.returned v2) w2) := LayP.step HB1.out h1 h2 h3 h4
    clear h1 h2 h3 h4
    go_wp2_with fail
    go_ret
    exact HF.out
end
section
open Go.RowKit Go
theorem LayP.two {w : World} {B : Nat} {v : Value} {n k : Nat} {ds xs ys : List Nat} {w1 w2 : World} {v2 v3 : Value} (hk : Kp (fun q => v.ownBlock = some q) w w1) (ha : At7 w v v2) (h0 : k = n + xs.length + ys.length) (h1 : w2.ownsRow B 5 1 v3 k (bv (ds ++ (xs ++ ys)))) (h2 : Kp (fun q => v2.ownBlock = some q) w1 w2) (h3 : v3 ≠ .slice none 0 0) (h4 : At7 w1 v2 v3) : LayP w B v n ds (xs ++ ys) (.returned v3) w2 := by
  subst h0
  refine ⟨v3, rfl, by rw [List.length_append, ← Nat.add_assoc]; exact h1, h3, hk.trans h2 (fun q hq e => ?_), ?_⟩
  · rcases ha with e2 | e2
    · rw [← e2]; exact e
    · have := e2 q e
      omega
  · rcases h4 with e | e
    · rcases ha with e2 | e2
      · exact .inl (e.trans e2)
      · exact .inr (fun q hq => e2 q (by rw [← e]; exact hq))
    · exact .inr (fun q hq => Nat.le_trans hk.size (e q hq))
theorem kp_grown {w1 w2 : World} {v2 : Value} (h : w1.grownBy w2 v2.ownBlock) : Kp (fun q => v2.ownBlock = some q) w1 w2 := (Kp.refl _ _).grown h (fun _ _ e => e)
set_option maxRecDepth 1000000 in
theorem textLay_any (w : World) (B : Nat) (v : Value) (n : Nat) (ds : List Nat) (hown : w.ownsRow B 5 1 v n (bv ds)) (hnn : v ≠ .slice none 0 0) (hB : B ≤ w.heap.size) (hn : n ≤ 140737488350000) (s : ByteArray) (hs : n + s.size ≤ 140737488350000) :
    Calls Tryz.prog 206 #[.string s, v] w (LayP w B v n ds (kfm s)) := by
  have HSZ := hide hs
  have hs2 : s.size < 9223372036854775808 := by omega
  have HO := hide hown
  have HNN := hide hnn
  obtain ⟨a, c, hv⟩ := own_slice7 hown
  subst hv
  have HB := hide hB
  have HN := hide hn
  clear hown hnn hB hn
  have HWH := hide (withHead_any w B _ n ds HO.out HNN.out HB.out HN.out 3 s.size (by decide) (by omega))
  clear hs
  go_enter Tryz.func206, Tryz.ntmps206
  go_wp2_with fail
  refine HWH.out.mono ?_
  rintro e w1 ⟨v2, rfl, h1, h3, h2, h4⟩
  have HO1 := hide h1
  have HNN1 := hide h3
  have HKP := hide h2
  have HAT : Hid (At7 w (.slice a n c) v2) := h4
  have HB1 : Hid (B ≤ w1.heap.size) := Nat.le_trans HB.out h2.size
  have HLN : Hid (n + (hl 3 s.size).length + s.size ≤ 140737488355328) := by show _ ≤ _; rw [hl_len7]; have := hsize_le7 s.size; have := HSZ.out; omega
  clear h1 h2 h3 h4 HWH
  go_wp2_with (at_builtin; refine append_text rfl _ _ 23 124 rfl Tryz.underlying23 Tryz.underlying124 B _ (n + (hl 3 s.size).length) (ds ++ hl 3 s.size) rfl HO1.out HNN1.out s rfl HLN.out HB1.out ?_)
  intro v3 w2 h1 h2 h3 h4
  have HF : Hid (LayP w B (.slice a n c) n ds (kfm s) (.returned v3) w2) := by
    show LayP w B _ n ds _ _ _
    unfold kfm
    rw [sl_len7]
    exact LayP.two HKP.out HAT.out (by rw [sl_len7]) h1 (kp_grown h2) h3 h4
  clear h1 h2 h3 h4
  go_wp2_with fail
  go_ret
  exact HF.out
theorem bsl_kp7 {w w' : World} {vb v : Value} {y : List Nat} (h : BSl w vb y) (hv : y ≠ [] → ∀ q, vb.ownBlock = some q → v.ownBlock ≠ some q) (hk : Kp (fun q => v.ownBlock = some q) w w') : BSl w' vb y := by
  by_cases e : y = []
  · rw [e] at h ⊢
    exact bsl_nil6 h
  · exact hk.bsl h (hv e)
set_option maxRecDepth 1000000 in
theorem octetsLay_any (w : World) (B : Nat) (v : Value) (n : Nat) (ds : List Nat) (hown : w.ownsRow B 5 1 v n (bv ds)) (hnn : v ≠ .slice none 0 0) (hB : B ≤ w.heap.size) (hn : n ≤ 140737488350000) (vb : Value) (y : List Nat) (hy : BSl w vb y) (hyv : y ≠ [] → ∀ q, vb.ownBlock = some q → v.ownBlock ≠ some q) (hs : n + y.length ≤ 140737488350000) :
    Calls Tryz.prog 209 #[vb, v] w (LayP w B v n ds (hl 2 y.length ++ y)) := by
  have HSZ := hide hs
  have HY := hide hy
  have HYV := hide hyv
  have hs2 : y.length < 9223372036854775808 := by omega
  have HO := hide hown
  have HNN := hide hnn
  obtain ⟨a, c, hv⟩ := own_slice7 hown
  subst hv
  have HB := hide hB
  have HN := hide hn
  clear hown hnn hB hn
  obtain ⟨⟨ab, cb, hvb, _, _⟩, _, _⟩ := hy
  subst hvb
  have HWH := hide (withHead_any w B _ n ds HO.out HNN.out HB.out HN.out 2 y.length (by decide) (by omega))
  clear hs hyv
  go_enter Tryz.func209, Tryz.ntmps209
  go_wp2_with fail
  refine HWH.out.mono ?_
  rintro e w1 ⟨v2, rfl, h1, h3, h2, h4⟩
  have HO1 := hide h1
  have HNN1 := hide h3
  have HKP := hide h2
  have HAT : Hid (At7 w (.slice a n c) v2) := h4
  have HB1 : Hid (B ≤ w1.heap.size) := Nat.le_trans HB.out h2.size
  have HLN : Hid (n + (hl 2 y.length).length + y.length ≤ 140737488355328) := by show _ ≤ _; rw [hl_len7]; have := hsize_le7 y.length; have := HSZ.out; omega
  have HY1 := hide (bsl_kp7 HY.out HYV.out h2)
  clear h1 h2 h3 h4 HWH
  go_wp2_with (at_builtin; refine append_bytes rfl _ _ 23 125 rfl Tryz.underlying23 Tryz.underlying125 B _ (n + (hl 2 y.length).length) (ds ++ hl 2 y.length) rfl HO1.out HNN1.out _ y rfl HY1.out HLN.out HB1.out ?_)
  intro v3 w2 h1 h2 h3 h4
  have HF : Hid (LayP w B (.slice a n c) n ds (hl 2 y.length ++ y) (.returned v3) w2) := LayP.two HKP.out HAT.out rfl h1 (kp_grown h2) h3 h4
  clear h1 h2 h3 h4
  go_wp2_with fail
  go_ret
  exact HF.out
set_option maxRecDepth 1000000 in
theorem listLay_any (w : World) (B : Nat) (v : Value) (n : Nat) (ds : List Nat) (hown : w.ownsRow B 5 1 v n (bv ds)) (hnn : v ≠ .slice none 0 0) (hB : B ≤ w.heap.size) (hn : n ≤ 140737488350000) (ai : Option Addr) (k ci : Nat) (hk : k ≤ 140737488351232) :
    Calls Tryz.prog 211 #[.slice ai k ci, v] w (LayP w B v n ds (hl 4 k)) := by
  have HO := hide hown
  have HNN := hide hnn
  obtain ⟨a, c, hv⟩ := own_slice7 hown
  subst hv
  have HB := hide hB
  have HN := hide hn
  clear hown hnn hB hn
  have HWH := hide (withHead_any w B _ n ds HO.out HNN.out HB.out HN.out 4 k (by decide) (by omega))
  go_enter Tryz.func211, Tryz.ntmps211
  go_wp2_with fail
  refine HWH.out.mono ?_
  rintro e w1 ⟨v2, rfl, h1, h3, h2, h4⟩
  have HF : Hid (LayP w B (.slice a n c) n ds (hl 4 k) (.returned v2) w1) := ⟨v2, rfl, h1, h3, h2, h4⟩
  clear h1 h2 h3 h4 HWH
  go_wp2_with fail
  go_ret
  exact HF.out
set_option maxRecDepth 1000000 in
theorem entriesLay_any (w : World) (B : Nat) (v : Value) (n : Nat) (ds : List Nat) (hown : w.ownsRow B 5 1 v n (bv ds)) (hnn : v ≠ .slice none 0 0) (hB : B ≤ w.heap.size) (hn : n ≤ 140737488350000) (ak : Option Addr) (k ck : Nat) (vi : Value) (hk : k ≤ 140737488351232) :
    Calls Tryz.prog 213 #[.agg #[.slice ak k ck, vi], v] w (LayP w B v n ds (hl 5 k)) := by
  have HO := hide hown
  have HNN := hide hnn
  obtain ⟨a, c, hv⟩ := own_slice7 hown
  subst hv
  have HB := hide hB
  have HN := hide hn
  clear hown hnn hB hn
  have hb0 := below_alloc4 w (.cells #[.slice ak k ck, vi] 129)
  have HB1 := hide hb0
  have HWH := hide (withHead_any (w.alloc (.cells #[.slice ak k ck, vi] 129)) B _ n ds ((Kp.of_below (S := fun _ => False) hb0).owns HO.out (fun _ _ h => h)) HNN.out (Nat.le_trans HB.out hb0.size) HN.out 5 k (by decide) (by omega))
  clear hb0
  go_enter Tryz.func213, Tryz.ntmps213
  go_wp2_with fail
  refine HWH.out.mono ?_
  rintro e w1 ⟨v2, rfl, h1, h3, h2, h4⟩
  have HF : Hid (LayP w B (.slice a n c) n ds (hl 5 k) (.returned v2) w1) := LayP.step HB1.out h1 h2 h3 h4
  clear h1 h2 h3 h4 HWH
  go_wp2_with fail
  go_ret
  exact HF.out
end
section
open Go.RowKit Go
theorem LayP.out {w w' : World} {B : Nat} {v v2 : Value} {n : Nat} {ds xs : List Nat} (h : LayP w B v n ds xs (.returned v2) w') : w'.ownsRow B 5 1 v2 (n + xs.length) (bv (ds ++ xs)) ∧ v2 ≠ .slice none 0 0 ∧ Kp (fun q => v.ownBlock = some q) w w' ∧ At7 w v v2 := by
  obtain ⟨v', e, h1, h2, h3, h4⟩ := h
  injection e with e
  subst e
  exact ⟨h1, h2, h3, h4⟩
set_option maxRecDepth 1000000 in
set_option maxHeartbeats 1000000 in
theorem floatLay_any (w : World) (B : Nat) (v : Value) (n : Nat) (ds : List Nat) (hown : w.ownsRow B 5 1 v n (bv ds)) (hnn : v ≠ .slice none 0 0) (hB : B ≤ w.heap.size) (hn : n ≤ 140737488350000) (b : Nat) (hb : b < 18446744073709551616) :
    Calls Tryz.prog 204 #[.int .u64 (b : Nat), v] w (LayP w B v n ds (251 :: be 8 b)) := by
  have HBB := hide hb
  have HO := hide hown
  have HNN := hide hnn
  obtain ⟨a, c, hv⟩ := own_slice7 hown
  subst hv
  have HB := hide hB
  have HN := hide hn
  clear hown hnn hB hn
  have hl1 := lit1_bsl w 251 251 rfl (by decide)
  have HB1 := hide hl1.1
  have HS1 := hide hl1.2
  have HO1 : Hid ((w.alloc (.cells #[.int .u8 251] 5)).ownsRow B 5 1 (.slice a n c) n (bv ds)) := (Kp.of_below (S := fun _ => False) HB1.out).owns HO.out (fun _ _ h => h)
  clear hl1 hb
  go_enter Tryz.func204, Tryz.ntmps204
  go_wp2_with (at_builtin; refine append_bytes rfl _ _ 23 23 rfl Tryz.underlying23 Tryz.underlying23 B _ n ds rfl HO1.out HNN.out _ [251] rfl HS1.out (by have := HN.out; show n + 1 ≤ _; omega) (Nat.le_trans HB.out HB1.out.size) ?_)
  intro v2 w2 h1 h2 h3 h4
  have HF : Hid (LayP w B (.slice a n c) n ds [251] (.returned v2) w2) := LayP.mk HB1.out rfl h1 h2 h3 h4
  clear h1 h2 h3 h4
  go_wp2_with fail
  go_loopw [1, 9] (fun bb q wr => ∃ (k : Nat) (L : List Nat), k ≤ 8 ∧ q = .int .i64 (k : Nat) ∧ Hid (L = 251 :: (be 8 b).take k) ∧ Hid (LayP w B (.slice a n c) n ds L (.returned bb) wr)) (fun _ q _ => 8 - (intOf q).toNat)
  case atStart => exact ⟨0, [251], by omega, rfl, hide rfl, HF⟩
  case round =>
    rename World => wr
    obtain ⟨k, L, hk, rfl, HLL, HL⟩ := hrel
    clear HF
    by_cases hlt : k < 8
    · have hlt' : (k : Int) < 8 := by omega
      have e7 : IntKind.i64.wrap (7 - (k : Int)) = ((7 - k : Nat) : Int) := by rw [IntKind.wrap_i64]; omega
      have HTK : Hid ((be 8 b).take (k + 1) = (be 8 b).take k ++ [b / 256 ^ (7 - k) % 256]) := by
        show _ = _
        rw [show 7 - k = 8 - 1 - k by omega, ← be_get 8 b k hlt]
        exact take_snoc _ _ (by rw [be_len]; exact hlt)
      have hq8 : 7 - k < 8 := by omega
      have HK := hide hk
      have HLT := hide hlt
      clear hk hlt
      generalize 7 - k = q at *
      have hc : ((b / 256 ^ q % 256 : Nat) : Int) = (b : Int) / 2 ^ (8 * q) % 256 := by rw [pow_int8]; omega
      have hl2 := lit1_bsl wr (b / 256 ^ q % 256) ((b : Int) / 2 ^ (8 * q) % 256) hc.symm (Nat.mod_lt _ (by decide))
      obtain ⟨o1, o2, o3, o4⟩ := HL.out.out
      obtain ⟨ar, cr, hvr⟩ := own_slice7 o1
      subst hvr
      have HBR := hide hl2.1
      have HSR := hide hl2.2
      have HOR : Hid ((wr.alloc (.cells #[.int .u8 ((b : Int) / 2 ^ (8 * q) % 256)] 5)).ownsRow B 5 1 (.slice ar (n + L.length) cr) (n + L.length) (bv (ds ++ L))) := (Kp.of_below (S := fun _ => False) HBR.out).owns o1 (fun _ _ h => h)
      have HNR := hide o2
      have HKR : Hid (Kp (fun q => (Value.slice a n c).ownBlock = some q) w (wr.alloc (.cells #[.int .u8 ((b : Int) / 2 ^ (8 * q) % 256)] 5))) := o3.trans (Kp.of_below (S := fun q => (Value.slice a n c).ownBlock = some q) HBR.out) (fun _ _ e => e)
      have HAR := hide o4
      have HBz : Hid (B ≤ (wr.alloc (.cells #[.int .u8 ((b : Int) / 2 ^ (8 * q) % 256)] 5)).heap.size) := Nat.le_trans HB.out (Nat.le_trans o3.size HBR.out.size)
      have HLZ : Hid (n + L.length + 1 ≤ 140737488355328) := by show _ ≤ _; rw [HLL.out, List.length_cons, List.length_take]; have := HN.out; have := HLT.out; omega
      have e8 : IntKind.i64.wrap (8 * (q : Int)) = 8 * (q : Int) := by rw [IntKind.wrap_i64]; omega
      clear hl2 o1 o2 o3 o4 hc
      go_wp2_with (at_builtin; refine append_bytes rfl _ _ 23 23 rfl Tryz.underlying23 Tryz.underlying23 B _ (n + L.length) (ds ++ L) rfl HOR.out HNR.out _ [b / 256 ^ q % 256] rfl HSR.out HLZ.out HBz.out ?_)
      intro v3 w3 h1 h2 h3 h4
      have HF3 : Hid (LayP w B (.slice a n c) n ds (L ++ [b / 256 ^ q % 256]) (.returned v3) w3) := LayP.two HKR.out HAR.out rfl (by simpa using h1) (kp_grown h2) h3 h4
      have HL3 : Hid (L ++ [b / 256 ^ q % 256] = 251 :: (be 8 b).take (k + 1)) := by show _ = _; rw [HTK.out, HLL.out]; rfl
      clear h1 h2 h3 h4 HOR HNR HKR HAR HBz HLZ HBR HSR
      go_wp2_with fail
      go_roundw
      case rel => exact ⟨k + 1, _, by have := HLT.out; omega, by go_num, HL3, HF3⟩
      case measure => have := HLT.out; simp [intOf]; omega
    · have hlt' : ¬ (k : Int) < 8 := by omega
      have HE : Hid (LayP w B (.slice a n c) n ds (251 :: be 8 b) (.returned u1) wr) := by
        have h := HL.out
        rw [HLL.out, show k = 8 by omega, List.take_of_length_le (by rw [be_len]; exact Nat.le_refl _)] at h
        exact h
      clear hlt
      go_wp2_with fail
      go_ret
      exact HE.out
end
section
open Go.RowKit
theorem hstep_yes {n j s : Nat} (h24 : 24 ≤ n) (hj : j ≤ 3) (hs : s = 2 ^ j) (hi : 24 + j ≤ hinfo n) (h : n < 256 ^ s) : hinfo n = 24 + j ∧ hwide (24 + j) = s := by
  match j, hj with
  | 0, _ => subst hs; refine ⟨?_, rfl⟩; simp at h; have := hinfo_cases n; omega
  | 1, _ => subst hs; refine ⟨?_, rfl⟩; simp at h; have := hinfo_cases n; omega
  | 2, _ => subst hs; refine ⟨?_, rfl⟩; simp at h; have := hinfo_cases n; omega
  | 3, _ => subst hs; refine ⟨?_, rfl⟩; simp at h; have := hinfo_cases n; omega
theorem hstep_no {n j s : Nat} (h24 : 24 ≤ n) (hn : n < 18446744073709551616) (hj : j ≤ 3) (hs : s = 2 ^ j) (hi : 24 + j ≤ hinfo n) (h : ¬ n < 256 ^ s) : j < 3 ∧ 24 + (j + 1) ≤ hinfo n := by
  match j, hj with
  | 0, _ => subst hs; refine ⟨by omega, ?_⟩; simp at h; have := hinfo_cases n; omega
  | 1, _ => subst hs; refine ⟨by omega, ?_⟩; simp at h; have := hinfo_cases n; omega
  | 2, _ => subst hs; refine ⟨by omega, ?_⟩; simp at h; have := hinfo_cases n; omega
  | 3, _ => subst hs; simp at h; omega
theorem pow_le8g {j s : Nat} (hj : j ≤ 3) (hs : s = 2 ^ j) : s ≤ 8 := by
  subst hs
  exact Nat.pow_le_pow_right (by decide) hj

set_option maxRecDepth 1000000 in
set_option maxHeartbeats 400000 in
theorem refLay_any (m : Int) (n : Nat) (w : World) (hm : -9223372036854775808 ≤ m ∧ m ≤ 9223372036854775807) (hn : n < 18446744073709551616) :
    Calls Tryz.prog 95 #[.int .i64 m, .int .u64 (n : Nat)] w fun e w' => ∃ v, e = .returned v ∧ w'.ownsRow w.heap.size 5 1 v (hlay m n).length (bv (hlay m n)) ∧ Below w.heap.size w w' := by
  by_cases h0 : 0 ≤ m ∧ m ≤ 7
  · have e : hlay m n = hl m.toNat n := by unfold hlay; rw [if_pos h0]
    rw [e]
    obtain ⟨M, rfl⟩ := Int.eq_ofNat_of_zero_le h0.1
    rw [Int.toNat_natCast]
    have h1 := h0.1
    have h2 := h0.2
    have hM : M ≤ 7 := by omega
    clear e h0 hm
    by_cases h24 : n < 24
    · have h24' : (n : Int) < 24 := by omega
      go_enter Tryz.func95, Tryz.ntmps95
      go_wp2
      go_ret
      have e : hl M n = [32 * M + n] := by simp [hl, hinfo, h24, hwide_small h24, be]
      rw [e]
      refine ⟨_, rfl, ?_, (Below.refl _ _).alloc (Nat.le_refl _) _⟩
      have := own_one w (32 * M + n)
      simpa using this
    · have h24' : ¬ (n : Int) < 24 := by omega
      have HN := hide hn
      generalize hB : w.heap.size = B
      have HB := hide hB
      clear hn hB
      go_enter Tryz.func95, Tryz.ntmps95
      go_wp2
      go_loopw [6, 7] (fun sz i wr => ∃ j s : Nat, j ≤ 3 ∧ Hid (s = 2 ^ j) ∧ i = .int .i64 (24 + (j : Int)) ∧ sz = .int .i64 (s : Int) ∧ Hid (24 + j ≤ hinfo n) ∧ Below B w wr) (fun _ i _ => (28 - intOf i).toNat)
      case atStart => exact ⟨0, 1, by omega, rfl, rfl, rfl, by show _ ≤ _; have := hinfo_cases n; omega, Below.refl _ _⟩
      case round =>
        obtain ⟨j, s, hj, hs, rfl, rfl, hi, hbel⟩ := hrel
        have HBL := hide hbel
        clear hbel
        have hs8 := pow_le8g hj hs.out
        go_wp2_with fail
        refine (fixed_any n s _ HN.out hs8).mono ?_
        rintro e w1 ⟨v, rfl, hown, hb1⟩
        have HO := hide hown
        have HB1 := hide hb1
        clear hown hb1
        by_cases hok : n < 256 ^ s
        · rw [decide_eq_true hok]
          obtain ⟨hx1, hx2⟩ := hstep_yes (by omega) hj hs.out hi.out hok
          have HX : Hid (hl M n = [32 * M + (24 + j)] ++ be s n) := by show _ = _; unfold hl; rw [hx1, hx2]; rfl
          have HSL := hide ((BSl.own HO.out (be_byte s n)).move (keep_alloc w1 (.cells #[.int .u8 (((32 * M + (24 + j) : Nat)) : Int)] 5)))
          have hc : (((32 * M + (24 + j) : Nat)) : Int) = 32 * (M : Int) + (24 + (j : Int)) := by omega
          rw [hc] at HSL
          have HOW := hide (own_one w1 (32 * M + (24 + j)))
          rw [hc] at HOW
          clear hc hx1 hx2 hok
          go_wp2_with (at_builtin; refine append_bsl rfl _ _ rfl w1.heap.size _ 1 [32 * M + (24 + j)] rfl HOW.out _ (be s n) rfl HSL.out ?b1 ?b2 ?_)
          case b1 => rw [be_len]; omega
          case b2 => simp
          intro v2 w2 hown2 hgr2
          go_wp2
          go_ret
          have hsz := HBL.out.size
          have hsz1 := HB1.out.size
          rw [HB.out] at hsz
          refine ⟨_, rfl, ?_, ((HBL.out.trans (HB1.out.mono hsz)).alloc (by omega) _).grown hgr2 (by simp; omega) (fun q hq => by simp [Value.ownBlock] at hq; omega)⟩
          rw [HX.out]
          have e : ([32 * M + (24 + j)] ++ be s n).length = 1 + (be s n).length := by simp; omega
          rw [e]
          exact own_mono hown2 (by omega)
        · rw [decide_eq_false hok]
          obtain ⟨hj3, hi3⟩ := hstep_no (by omega) HN.out hj hs.out hi.out hok
          have HS2 : Hid (2 * s = 2 ^ (j + 1)) := by show _ = _; rw [hs.out, Nat.pow_succ]; omega
          have HI3 := hide hi3
          clear hok hi3 HO
          go_wp2
          go_roundw
          case rel => exact ⟨j + 1, 2 * s, by omega, HS2, by go_num, by go_num, HI3, HBL.out.trans (HB1.out.mono (by have := HBL.out.size; have := HB.out; omega))⟩
          case measure => simp [intOf]; omega
  · have e : hlay m n = [] := by unfold hlay; rw [if_neg h0]
    rw [e]
    by_cases hneg : m < 0
    · go_enter Tryz.func95, Tryz.ntmps95
      go_wp2
      go_ret
      exact ⟨_, rfl, World.ownsRow_nil _ _ _ _, Below.refl _ _⟩
    · have h7 : 7 < m := by omega
      have hneg' : ¬ m < 0 := hneg
      go_enter Tryz.func95, Tryz.ntmps95
      go_wp2
      go_ret
      exact ⟨_, rfl, World.ownsRow_nil _ _ _ _, Below.refl _ _⟩
end
section
open Go.RowKit Go

end
section
open Go.RowKit Go
section
variable {P : Program} {Q : Exit → Act → World → Prop} {S : World → Prop} {l : List Oper} {fuel : Nat} {listed : Array Bool} {a : Act} {w : World}
/-- A region that draws its order, by hand: begin. -/
theorem heldStart {id : Nat} (hm : P.follows .mixedOrders = true) (h : wpAnyH P .any l.toArray Q S l.length (Array.replicate l.length false) a w.drew) : (Code.region id l.toArray true).wp P Q a w :=
  wp_region_held (S := S) hm (by simpa using h)
/-- Take one first that reads alone. -/
theorem heldTake (i : Nat) {oi : Oper} (v : Value) (hi : l[i]? = some oi) (hs : Region.noSelect l.toArray = true) (hf : Region.free .any l.toArray listed i = true) (hr : (Region.ready .any l.toArray listed).contains i = true)
    (hQ : ∀ c a w, Q (.panic c) (a.put oi.dst v) w → Q (.panic c) a w) (hw : Region.wanted oi (yielded l.toArray a.tmps) = true) (hS : S w) (hy : ∀ w, S w → (execOp a.eval oi).run P w = .ok (.value v) w)
    (h : wpAnyH P .any l.toArray Q S fuel (listed.setIfInBounds i true) (a.put oi.dst v) w) : wpAnyH P .any l.toArray Q S (fuel + 1) listed a w :=
  wpAnyH_take (by simpa using hi) hs hf hr hQ (.inl ⟨hw, hy⟩) hS h
/-- The only one that may come up. -/
theorem heldStep (i : Nat) {oi : Oper} (hi : l[i]? = some oi) (hr : Region.ready .any l.toArray listed = [i])
    (h : ∀ K : Act → World → Prop, Hid (∀ a w, S w → (S w → wpAnyH P .any l.toArray Q S fuel (listed.setIfInBounds i true) a w) → K a w) → if Region.wanted oi (yielded l.toArray a.tmps) = true then Oper.wp P oi a w K Q else K (a.put oi.dst undef) w) : wpAnyH P .any l.toArray Q S (fuel + 1) listed a w :=
  wpAnyH_ready hr (by simp) (AllReadyH.cons (by simpa using hi) (fun K hK => h K hK) AllReadyH.nil)
theorem heldDone (hr : Region.ready .any l.toArray listed = []) (h : Q .normal a w) : wpAnyH P .any l.toArray Q S fuel listed a w := wpAnyH_done hr h fuel
end
end
section
open Go.RowKit Go

end
section
open Go.RowKit Go
theorem own_blk (a : Option Addr) (n m c d : Nat) : (Value.slice a n c).ownBlock = (Value.slice a m d).ownBlock := by cases a <;> rfl
theorem own_zero {w : World} {B : Nat} {e : TypeId} {a : Option Addr} {n c : Nat} {xs : List Value} (h : w.ownsRow B e 1 (.slice a n c) n xs) : w.ownsRow B e 1 (.slice a 0 c) 0 [] := by
  refine ⟨rfl, ?_⟩
  rcases h.2 with ⟨hv, _⟩ | ⟨g, cap, cur, hv, hb, hg, h1, h2, h3, h4⟩
  · injection hv with e1 e2 e3
    subst e1
    subst e3
    exact .inl ⟨rfl, rfl⟩
  · injection hv with e1 e2 e3
    subst e1
    subst e3
    exact .inr ⟨g, c, cur, rfl, hb, hg, Nat.zero_le _, h2, h3, by simp⟩
/-- append of bytes, and where they lie. -/
theorem append_bsl_at {ops : Array Oper} {rest : List Oper} {o : Oper} {a : Act} {Q : Exit → Act → World → Prop} {w : World} (hgd : o.guard = none) (s x : Operand)
    (ho : o.op = .call { callee := .builtin .append, args := #[s, x], argTypes := #[23, 23] }) (B : Nat) (v : Value) (n : Nat) (ds : List Nat) (hs : a.eval s = v) (hown : w.ownsRow B 5 1 v n (bv ds))
    (u : Value) (xs : List Nat) (hx : a.eval x = u) (hsl : BSl w u xs) (hlen : n + xs.length ≤ 140737488355328) (hbase : B ≤ w.heap.size)
    (h : ∀ v' w', w'.ownsRow B 5 1 v' (n + xs.length) (bv (ds ++ xs)) → w.grownBy w' v.ownBlock → (v'.ownBlock = v.ownBlock ∨ v'.ownBlock = some w.heap.size) → wpList Tryz.prog ops Q rest (a.put o.dst v') w') : wpList Tryz.prog ops Q (o :: rest) a w := by
  obtain ⟨i5, hi, hz0, hz1, hz2⟩ := info5_ex
  obtain ⟨⟨ad, cap, rfl, hn, hc⟩, hmax, hb⟩ := id hsl
  cases ad with
  | none =>
    rcases hc with rfl | ⟨_, _, e, _⟩
    · have := hn.2 rfl
      subst this
      refine wpList_append_own_none hgd s x 23 ho B 5 i5 1 Tryz.underlying23 hi v n (bv ds) hs hown hx (h v w ?_ ⟨rfl, rfl, rfl, Nat.le_refl _, fun _ _ _ => rfl⟩ (.inl rfl))
      simpa using hown
    · cases e
  | some ad =>
    refine wpList_append_own_at w hgd s x 23 ho B 5 i5 (.int .u8 0) 1 1 Tryz.underlying23 hi hz0 hz1 hz2 rfl (by decide) v n (bv ds) hs hown ad xs.length cap (bv xs) hx (by simp [bv]) hsl.src.2 (bv_one xs) (by unfold maxLen; omega) (by omega) hbase fun v' w' h1 h2 _ h4 => ?_
    exact h v' w' (by rw [bv_app]; exact h1) h2 h4
end
section
open Go.RowKit Go
set_option maxRecDepth 1000000 in
set_option maxHeartbeats 1000000 in
/-- The reference's text: a head, and bytes behind it. -/
theorem rtext_any (m : Nat) (hm : m ≤ 7) (w : World) (v : Value) (xs : List Nat) (hv : BSl w v xs) (hl' : xs.length ≤ 140737488351232) :
    Calls Tryz.prog 97 #[.int .i64 (m : Nat), v] w fun e w' => ∃ v', e = .returned v' ∧ w'.ownsRow w.heap.size 5 1 v' (hl m xs.length ++ xs).length (bv (hl m xs.length ++ xs)) ∧ Below w.heap.size w w' := by
  have HV := hide hv
  have HL := hide hl'
  obtain ⟨⟨a, c, rfl, _, _⟩, _, _⟩ := hv
  have hx : xs.length < 18446744073709551616 := by omega
  have HM := hide hm
  clear hm
  go_enter Tryz.func97, Tryz.ntmps97
  go_wp2_with fail
  refine (refLay_any (m : Int) xs.length w (by have := HM.out; omega) hx).mono ?_
  rintro e w1 ⟨v1, rfl, ho1, hb1⟩
  have eh : hlay (m : Int) xs.length = hl m xs.length := by unfold hlay; rw [if_pos (by have := HM.out; omega), Int.toNat_natCast]
  rw [eh] at ho1
  have HO1 := hide ho1
  have HB1 := hide hb1
  have HV1 := hide (HV.out.move (keep_below hb1))
  have HHL : Hid ((hl m xs.length).length ≤ 9) := by
    have := hlay_len (m : Int) xs.length
    rw [eh] at this
    exact this
  clear ho1 hb1 eh
  go_wp2_with (at_builtin; refine append_bsl_at rfl _ _ rfl w.heap.size _ (hl m xs.length).length (hl m xs.length) rfl HO1.out _ xs rfl HV1.out ?b1 ?b2 ?_)
  case b1 => have := HHL.out; have := HL.out; omega
  case b2 => exact HB1.out.size
  intro v2 w2 ho2 hg2 _
  rw [← List.length_append] at ho2
  have HO2 := hide ho2
  have HB2 : Hid (Below w.heap.size w w2) := HB1.out.trans (((Kp.refl (fun q => _ = some q) w1).grown hg2 (fun k _ e => e)).below HB1.out.size (fun q e => (HO1.out.lt q e).1))
  clear ho2 hg2
  go_wp2_with fail
  go_ret
  exact ⟨_, rfl, HO2.out, HB2.out⟩
set_option maxRecDepth 1000000 in
set_option maxHeartbeats 1000000 in
/-- The reference's eight: 64 bits, the highest first. -/
theorem reight_any (b : Nat) (hb : b < 18446744073709551616) (w : World) : Calls Tryz.prog 96 #[.int .u64 (b : Nat)] w fun e w' => ∃ v', e = .returned v' ∧ w'.ownsRow w.heap.size 5 1 v' (be 8 b).length (bv (be 8 b)) ∧ Below w.heap.size w w' := by
  have HBB := hide hb
  clear hb
  go_enter Tryz.func96, Tryz.ntmps96
  go_wp2_with fail
  go_loopw [3, 4] (fun bb q wr => ∃ (k : Nat), k ≤ 8 ∧ q = .int .i64 (56 - 8 * (k : Int)) ∧ Hid (wr.ownsRow w.heap.size 5 1 bb k (bv ((be 8 b).take k)) ∧ Below w.heap.size w wr)) (fun _ q _ => (intOf q + 8).toNat)
  case atStart => exact ⟨0, by omega, rfl, World.ownsRow_nil _ _ _ _, Below.refl _ _⟩
  case round =>
    rename World => wr
    obtain ⟨k, hk, rfl, HR⟩ := hrel
    by_cases hlt : k < 8
    · have HTK : Hid ((be 8 b).take (k + 1) = (be 8 b).take k ++ [b / 256 ^ (7 - k) % 256]) := by
        show _ = _
        rw [show 7 - k = 8 - 1 - k by omega, ← be_get 8 b k hlt]
        exact take_snoc _ _ (by rw [be_len]; exact hlt)
      have e7 : (56 - 8 * (k : Int)) = 8 * ((7 - k : Nat) : Int) := by omega
      have e9 : IntKind.i64.wrap (8 * ((7 - k : Nat) : Int) - 8) = 56 - 8 * ((k + 1 : Nat) : Int) := by rw [IntKind.wrap_i64]; omega
      have hq8 : 7 - k < 8 := by omega
      have HK := hide hlt
      rw [e7]
      clear hk hlt e7
      generalize hq : 7 - k = q at *
      have HQ := hide hq
      clear hq
      have g1 : (0 : Int) ≤ 8 * (q : Int) := by omega
      have hc : ((b / 256 ^ q % 256 : Nat) : Int) = (b : Int) / 2 ^ (8 * q) % 256 := by rw [pow_int8]; omega
      have hl2 := lit1_bsl wr (b / 256 ^ q % 256) ((b : Int) / 2 ^ (8 * q) % 256) hc.symm (Nat.mod_lt _ (by decide))
      have HBR := hide hl2.1
      have HSR := hide hl2.2
      have HOR := hide ((Kp.of_below (S := fun _ => False) hl2.1).owns HR.out.1 (fun _ _ h => h))
      have HZR : Hid (w.heap.size ≤ (wr.alloc (.cells #[.int .u8 ((b : Int) / 2 ^ (8 * q) % 256)] 5)).heap.size) := Nat.le_trans HR.out.2.size hl2.1.size
      clear hl2 hc
      go_wp2_with (at_builtin; refine append_bsl_at rfl _ _ rfl w.heap.size _ k ((be 8 b).take k) rfl HOR.out _ [b / 256 ^ q % 256] rfl HSR.out ?b1 ?b2 ?_)
      case b1 => have := HK.out; show k + 1 ≤ _; omega
      case b2 => exact HZR.out
      intro v2 w2 ho2 hg2 _
      rw [← HTK.out] at ho2
      have HR2 : Hid (w2.ownsRow w.heap.size 5 1 v2 (k + 1) (bv ((be 8 b).take (k + 1))) ∧ Below w.heap.size w w2) := ⟨ho2, (HR.out.2.trans (HBR.out.mono HR.out.2.size)).trans (((Kp.refl (fun q => _ = some q) _).grown hg2 (fun k _ e => e)).below HZR.out (fun q e => (HOR.out.lt q e).1))⟩
      clear ho2 hg2 HOR HSR HBR HZR HR
      go_wp2_with fail
      go_roundw
      case rel => exact ⟨k + 1, by have := HK.out; omega, by first | rfl | (go_num) | (rw [e9]), HR2⟩
      case measure => have := HK.out; have := HQ.out; simp [intOf]; omega
    · have hke : k = 8 := by omega
      subst hke
      have HF : Hid (wr.ownsRow w.heap.size 5 1 u3 (be 8 b).length (bv (be 8 b)) ∧ Below w.heap.size w wr) := by
        have h := HR.out
        rw [List.take_of_length_le (by rw [be_len]; exact Nat.le_refl _)] at h
        rw [be_len]
        exact h
      clear HR hlt hk
      go_wp2_with fail
      go_ret
      exact ⟨_, rfl, HF.out.1, HF.out.2⟩
end
section
open Go.RowKit Go
set_option maxRecDepth 1000000 in
set_option maxHeartbeats 1000000 in
theorem nameLay_any (w : World) (B : Nat) (v : Value) (n : Nat) (ds : List Nat) (hown : w.ownsRow B 5 1 v n (bv ds)) (hnn : v ≠ .slice none 0 0) (hB : B ≤ w.heap.size) (hn : n ≤ 140737488350000) (vb : Value) (y : List Nat) (hy : BSl w vb y) (hy0 : y ≠ []) (hyv : ∀ q, vb.ownBlock = some q → v.ownBlock ≠ some q) (hs : n + 10 + y.length ≤ 140737488350000) :
    Calls Tryz.prog 217 #[.agg #[vb], v] w (LayP w B v n ds (hl 6 42 ++ (hl 2 y.length ++ y))) := by
  have HSZ := hide hs
  have HY := hide hy
  have HYV := hide hyv
  have HO := hide hown
  have HNN := hide hnn
  obtain ⟨a, c, hv⟩ := own_slice7 hown
  subst hv
  have HB := hide hB
  have HN := hide hn
  clear hown hnn hB hn
  obtain ⟨⟨ab, cb, hvb, _, _⟩, _, _⟩ := hy
  subst hvb
  have hb0 := below_alloc4 w (.cells #[.slice ab y.length cb] 193)
  have HB0 := hide hb0
  have HG0 := hide (heap_alloc_new w (.cells #[.slice ab y.length cb] 193))
  have HVL : Hid (∀ q, (Value.slice a n c).ownBlock = some q → q < w.heap.size) := fun q hq => (HO.out.lt q hq).2
  clear hs hyv hb0
  go_enter Tryz.func217, Tryz.ntmps217
  go_upto_region 1 with fail
  generalize w.alloc (.cells #[.slice ab y.length cb] 193) = w0 at *
  have HO0 : Hid (w0.ownsRow B 5 1 (.slice a n c) n (bv ds)) := (Kp.of_below (S := fun _ => False) HB0.out).owns HO.out (fun _ _ h => h)
  have HBz : Hid (B ≤ w0.heap.size) := Nat.le_trans HB.out HB0.out.size
  refine heldStart (S := fun wy => wy.heap[w.heap.size]? = some (.cells #[.slice ab y.length cb] 193 (0, 0))) (by kernel_rfl) ?_
  have hS : w0.drew.heap[w.heap.size]? = some (.cells #[.slice ab y.length cb] 193 (0, 0)) := HG0.out
  refine heldTake 0 _ rfl (by kernel_rfl) (by kernel_rfl) (by kernel_rfl) (fun _ _ _ h => h) rfl hS (fun wy hy => by first | (go_simp; done) | (go_simp; rfl) | rfl) ?_
  (try simp only [Act.put]); (try simp only [List.setIfInBounds_toArray, List.set_cons_zero, List.set_cons_succ])
  refine heldTake 1 _ rfl (by kernel_rfl) (by kernel_rfl) (by kernel_rfl) (fun _ _ _ h => h) rfl hS (fun wy hy => by have h0 := blk_cell (j := 0) (v := .slice ab y.length cb) hy rfl; first | (go_simp; done) | (go_simp; rfl) | rfl) ?_
  (try simp only [Act.put]); (try simp only [List.setIfInBounds_toArray, List.set_cons_zero, List.set_cons_succ])
  refine heldTake 2 _ rfl (by kernel_rfl) (by kernel_rfl) (by kernel_rfl) (fun _ _ _ h => h) rfl hS (fun wy hy => by first | (go_simp; done) | (go_simp; rfl) | rfl) ?_
  (try simp only [Act.put]); (try simp only [List.setIfInBounds_toArray, List.set_cons_zero, List.set_cons_succ])
  refine heldStep 3 rfl (by kernel_rfl) (fun K hK => ?_)
  go_simp
  refine (withHead_any w0.drew B _ n ds ((Kp.of_below (S := fun _ => False) (by refine Below.drew ?_; exact Below.refl _ _ : Below w0.heap.size w0 w0.drew)).owns HO0.out (fun _ _ h => h)) HNN.out HBz.out HN.out 6 42 (by decide) (by decide)).mono ?_
  rintro e w2 ⟨v2, rfl, h1, h3, h2, h4⟩
  have hkw : Kp (fun q => (Value.slice a n c).ownBlock = some q) w w2 := ((Kp.of_below (S := fun q => (Value.slice a n c).ownBlock = some q) HB0.out).drew).trans h2 (fun _ _ e => e)
  have haw : At7 w (.slice a n c) v2 := by
    rcases h4 with e | e
    · exact .inl e
    · exact .inr (fun q hq => Nat.le_trans HB0.out.size (e q hq))
  have HNB : Hid (v2.ownBlock ≠ some w.heap.size) := fun e => by
    rcases h4 with e2 | e2
    · exact Nat.lt_irrefl _ (HVL.out _ (e2.symm.trans e))
    · have h6 := e2 _ e
      have h7 := blk_lt HG0.out
      exact Nat.lt_irrefl _ (Nat.lt_of_lt_of_le h7 h6)
  refine (Hid.out hK) _ _ ((h2.block _ (blk_lt HG0.out) (fun e => Nat.lt_irrefl _ (HVL.out _ e))).trans HG0.out) (fun hS2 => ?_)
  clear hK K hS
  have hS := hS2
  clear hS2
  (try simp only [Act.put]); (try simp only [List.setIfInBounds_toArray, List.set_cons_zero, List.set_cons_succ])
  have HO2 := hide h1
  have HN2 := hide h3
  have HK2 := hide hkw
  have HA2 := hide haw
  have HL6 : Hid ((hl 6 42).length = 2) := rfl
  clear h1 h2 h3 h4 hkw haw
  obtain ⟨a2, c2, hv2⟩ := own_slice7 HO2.out
  subst hv2
  have HY2 := hide (HK2.out.bsl HY.out (fun k hk e => HYV.out k hk e))
  have HYV2 : Hid (∀ q, (Value.slice ab y.length cb).ownBlock = some q → (Value.slice a2 (n + (hl 6 42).length) c2).ownBlock ≠ some q) := fun q hq e => by
    rcases HA2.out with e2 | e2
    · exact HYV.out q hq (e2.symm.trans e)
    · have h5 := own_lt HY.out hy0 hq
      have := e2 q e
      omega
  have HB2 : Hid (B ≤ w2.heap.size) := Nat.le_trans HB.out HK2.out.size
  refine heldStep 4 rfl (by kernel_rfl) (fun K hK => ?_)
  go_simp
  refine (octetsLay_any w2 B _ (n + (hl 6 42).length) (ds ++ hl 6 42) HO2.out HN2.out HB2.out (by have := HSZ.out; have := HL6.out; omega) _ y HY2.out (fun _ => HYV2.out) (by have := HSZ.out; have := HL6.out; omega)).mono ?_
  rintro e w3 ⟨v3, rfl, h1, h3, h2, h4⟩
  refine (Hid.out hK) _ _ ((h2.block _ (blk_lt hS) HNB.out).trans hS) (fun hS2 => ?_)
  clear hK K hS
  have hS := hS2
  clear hS2
  (try simp only [Act.put]); (try simp only [List.setIfInBounds_toArray, List.set_cons_zero, List.set_cons_succ])
  have HF : Hid (LayP w B (.slice a n c) n ds (hl 6 42 ++ (hl 2 y.length ++ y)) (.returned v3) w3) := LayP.two HK2.out HA2.out rfl (by rw [← List.append_assoc]; exact h1) h2 h3 h4
  clear h1 h2 h3 h4
  refine heldTake 5 _ rfl (by kernel_rfl) (by kernel_rfl) (by kernel_rfl) (fun _ _ _ h => h) rfl hS (fun wy hy => by first | (go_simp; done) | (go_simp; rfl) | rfl) ?_
  (try simp only [Act.put]); (try simp only [List.setIfInBounds_toArray, List.set_cons_zero, List.set_cons_succ])
  refine heldDone (by kernel_rfl) ?_
  clear hS
  go_wp2_with fail
  go_ret
  exact HF.out
end
section
open Go.RowKit Go
set_option maxRecDepth 1000000 in
theorem sizeOf7_any (k : Nat) (hk : k < 9223372036854775808) (w : World) : Calls Tryz.prog 208 #[.int .i64 (k : Nat)] w fun e w' => e = .returned (.int .i64 (hsize k : Nat)) ∧ w' = w := by
  go_enter Tryz.func208, Tryz.ntmps208
  go_wp2_with fail
  refine (size_any k w (by omega)).mono ?_
  rintro e w1 ⟨rfl, hw1⟩
  have hw1 := hw1.symm
  subst hw1
  go_wp2_with fail
  go_ret
  exact ⟨rfl, rfl⟩
set_option maxRecDepth 1000000 in
theorem nullSize_any (w : World) : Calls Tryz.prog 216 #[.agg #[]] w fun e w' => e = .returned (.int .i64 ((1 : Nat) : Int)) ∧ Below w.heap.size w w' := by
  have HB := hide (below_alloc4 w (.cells #[] 131))
  go_enter Tryz.func216, Tryz.ntmps216
  go_wp2_with fail
  go_ret
  exact ⟨rfl, HB.out⟩
set_option maxRecDepth 1000000 in
theorem truthSize_any (b : Bool) (w : World) : Calls Tryz.prog 199 #[.bool b] w fun e w' => e = .returned (.int .i64 ((1 : Nat) : Int)) ∧ Below w.heap.size w w' := by
  go_enter Tryz.func199, Tryz.ntmps199
  go_wp2_with fail
  go_ret
  exact ⟨rfl, Below.refl _ _⟩
set_option maxRecDepth 1000000 in
theorem floatSize_any (b : Nat) (w : World) : Calls Tryz.prog 205 #[.int .u64 (b : Nat)] w fun e w' => e = .returned (.int .i64 ((9 : Nat) : Int)) ∧ Below w.heap.size w w' := by
  go_enter Tryz.func205, Tryz.ntmps205
  go_wp2_with fail
  go_ret
  exact ⟨rfl, Below.refl _ _⟩
set_option maxRecDepth 1000000 in
theorem wholeSize_any (g : Bool) (N : Nat) (hN : N < 18446744073709551616) (w : World) : Calls Tryz.prog 201 #[.agg #[.bool g, .int .u64 (N : Nat)]] w fun e w' => e = .returned (.int .i64 (hsize N : Nat)) ∧ Below w.heap.size w w' := by
  have HB := hide (below_alloc4 w (.cells #[.bool g, .int .u64 (N : Nat)] 122))
  have HSZ := hide (size_any N (w.alloc (.cells #[.bool g, .int .u64 (N : Nat)] 122)) hN)
  clear hN
  go_enter Tryz.func201, Tryz.ntmps201
  go_wp2_with fail
  refine HSZ.out.mono ?_
  rintro e w1 ⟨rfl, hw1⟩
  subst hw1
  go_wp2_with fail
  go_ret
  exact ⟨rfl, HB.out⟩
set_option maxRecDepth 1000000 in
theorem textSize_any (s : ByteArray) (hs : s.size ≤ 140737488351232) (w : World) : Calls Tryz.prog 207 #[.string s] w fun e w' => e = .returned (.int .i64 ((hsize s.size + s.size : Nat) : Int)) ∧ Below w.heap.size w w' := by
  have HSZ := hide (sizeOf7_any s.size (by omega) w)
  have hle := hsize_le7 s.size
  have e1 : IntKind.i64.wrap ((hsize s.size : Int) + (s.size : Int)) = ((hsize s.size + s.size : Nat) : Int) := by rw [IntKind.wrap_i64]; omega
  clear hle
  go_enter Tryz.func207, Tryz.ntmps207
  go_wp2_with fail
  refine HSZ.out.mono ?_
  rintro e w1 ⟨rfl, hw1⟩
  have hw1 := hw1.symm
  subst hw1
  go_wp2_with fail
  go_ret
  exact ⟨by simp, Below.refl _ _⟩
set_option maxRecDepth 1000000 in
theorem octetsSize_any (av : Option Addr) (k cv : Nat) (hk : k ≤ 140737488351232) (w : World) : Calls Tryz.prog 210 #[.slice av k cv] w fun e w' => e = .returned (.int .i64 ((hsize k + k : Nat) : Int)) ∧ w' = w := by
  have HSZ := hide (sizeOf7_any k (by omega) w)
  have hle := hsize_le7 k
  have e1 : IntKind.i64.wrap ((hsize k : Int) + (k : Int)) = ((hsize k + k : Nat) : Int) := by rw [IntKind.wrap_i64]; omega
  clear hle
  go_enter Tryz.func210, Tryz.ntmps210
  go_wp2_with fail
  refine HSZ.out.mono ?_
  rintro e w1 ⟨rfl, hw1⟩
  have hw1 := hw1.symm
  subst hw1
  go_wp2_with fail
  go_ret
  exact ⟨by simp, rfl⟩
set_option maxRecDepth 1000000 in
theorem listSize_any (av : Option Addr) (k cv : Nat) (hk : k ≤ 140737488351232) (w : World) : Calls Tryz.prog 212 #[.slice av k cv] w fun e w' => e = .returned (.int .i64 (hsize k : Nat)) ∧ Below w.heap.size w w' := by
  have HSZ := hide (sizeOf7_any k (by omega) w)
  go_enter Tryz.func212, Tryz.ntmps212
  go_wp2_with fail
  refine HSZ.out.mono ?_
  rintro e w1 ⟨rfl, hw1⟩
  have hw1 := hw1.symm
  subst hw1
  go_wp2_with fail
  go_ret
  exact ⟨rfl, Below.refl _ _⟩
set_option maxRecDepth 1000000 in
theorem entriesSize_any (ak : Option Addr) (k ck : Nat) (vi : Value) (hk : k ≤ 140737488351232) (w : World) : Calls Tryz.prog 214 #[.agg #[.slice ak k ck, vi]] w fun e w' => e = .returned (.int .i64 (hsize k : Nat)) ∧ Below w.heap.size w w' := by
  have HB := hide (below_alloc4 w (.cells #[.slice ak k ck, vi] 129))
  have HSZ := hide (sizeOf7_any k (by omega) (w.alloc (.cells #[.slice ak k ck, vi] 129)))
  go_enter Tryz.func214, Tryz.ntmps214
  go_wp2_with fail
  refine HSZ.out.mono ?_
  rintro e w1 ⟨rfl, hw1⟩
  subst hw1
  go_wp2_with fail
  go_ret
  exact ⟨rfl, HB.out⟩
set_option maxRecDepth 1000000 in
theorem nameSize_any (av : Option Addr) (k cv : Nat) (hk : k ≤ 140737488351232) (w : World) : Calls Tryz.prog 218 #[.agg #[.slice av k cv]] w fun e w' => e = .returned (.int .i64 ((hsize 42 + (hsize k + k) : Nat) : Int)) ∧ Below w.heap.size w w' := by
  have HB := hide (below_alloc4 w (.cells #[.slice av k cv] 193))
  have HK := hide hk
  have hle := hsize_le7 k
  have e1 : IntKind.i64.wrap ((hsize 42 : Int) + ((hsize k + k : Nat) : Int)) = ((hsize 42 + (hsize k + k) : Nat) : Int) := by rw [IntKind.wrap_i64]; have : hsize 42 = 2 := rfl; omega
  generalize hz : hsize k + k = z at *
  have HZ := hide hz
  generalize h42 : hsize 42 = z2 at *
  have H42 := hide h42
  have HC1 : Hid (∀ W, Calls Tryz.prog 208 #[.int .i64 42] W fun e w' => e = .returned (.int .i64 (z2 : Nat)) ∧ w' = W) := fun W => by rw [← H42.out]; exact sizeOf7_any 42 (by decide) W
  have HC2 : Hid (∀ W, Calls Tryz.prog 210 #[.slice av k cv] W fun e w' => e = .returned (.int .i64 (z : Nat)) ∧ w' = W) := fun W => by rw [← HZ.out]; exact octetsSize_any av k cv HK.out W
  clear hle hz h42 hk
  go_enter Tryz.func218, Tryz.ntmps218
  go_wp2_with fail
  go_quiet (first
    | (go_at_call 208; exact Calls.quiet_of_same (HC1.out _))
    | (go_at_call 210; exact Calls.quiet_of_same (HC2.out _)))
  go_wp2_with fail
  go_ret
  exact ⟨by simp, below_drewN HB.out _⟩
end
section
open Go.RowKit Go
theorem wpList_exec {ops : Array Oper} {rest : List Oper} {o : Oper} {a : Act} {Q : Exit → Act → World → Prop} {w : World} {v : Value} (hgd : o.guard = none) (hr : (execOp a.eval o).run Tryz.prog w = .ok (.value v) w) (h : wpList Tryz.prog ops Q rest (a.put o.dst v) w) : wpList Tryz.prog ops Q (o :: rest) a w := by
  refine wpList_plain hgd fun K hK => ?_
  unfold Oper.wp
  rw [hr]
  exact hK _ _ h
end
section
open Go.RowKit Go
/-! ### Parts in memory, none of which lies in S -/
structure Vis (w : World) (S : Nat → Prop) (vi : Value) (is : List Tv) : Prop where
  form : ∃ (a : Option Addr) (cap : Nat) (cs : Nat → Array Value), vi = .slice a is.length cap ∧ (is.length ≤ cap ∧ (a = none → cap = 0)) ∧ (∀ i u, is[i]? = some u → Tis w S u (cs i)) ∧ (is = [] ∨ ∃ b off, a = some ⟨b, off, none⟩ ∧ ¬ S b ∧ ∀ i, i < is.length → ∀ j u, (cs i)[j]? = some u → w.cell? ⟨b, off + i * 13 + j, none⟩ = some u)
  max : is.length ≤ 140737488351232
def Pis (w : World) (S : Nat → Prop) : Prt → Value → Prop
  | .null, v => v = .iface 131 (.agg #[])
  | .truth b, v => v = .iface 120 (.bool b)
  | .whole g n, v => v = .iface 122 (.agg #[.bool g, .int .u64 (n : Nat)]) ∧ n < 18446744073709551616
  | .float b, v => v = .iface 123 (.int .u64 (b : Nat)) ∧ b < 18446744073709551616
  | .text s, v => v = .iface 124 (.string s) ∧ s.size ≤ 140737488351232
  | .octets y, v => ∃ vb, v = .iface 125 vb ∧ BSl w vb y ∧ (y ≠ [] → ∀ q, vb.ownBlock = some q → ¬ S q) ∧ y.length ≤ 140737488351232
  | .name y, v => ∃ vb, v = .iface 193 (.agg #[vb]) ∧ BSl w vb y ∧ y ≠ [] ∧ (∀ q, vb.ownBlock = some q → ¬ S q) ∧ y.length ≤ 1000
  | .list is, v => ∃ vi, v = .iface 127 vi ∧ Vis w S vi is
  | .entries ks is, v => ∃ vk vi, v = .iface 129 (.agg #[vk, vi]) ∧ SSl w vk ks ∧ (ks ≠ [] → ∀ q, vk.ownBlock = some q → ¬ S q) ∧ Vis w S vi is
theorem tis_live7 {w w' : World} {S T : Nat → Prop} {u : Tv} {c : Array Value} (h : Tis w S u c) (hk : Kp S w w') (ht : ∀ q, T q → S q ∨ w.heap.size ≤ q) : Tis w' T u c :=
  (h.widen.kp (hk.mono (fun _ _ e => .inl e))).mono ht
theorem Vis.live {w w' : World} {S T : Nat → Prop} {vi : Value} {is : List Tv} (h : Vis w S vi is) (hk : Kp S w w') (ht : ∀ q, T q → S q ∨ w.heap.size ≤ q) : Vis w' T vi is := by
  obtain ⟨⟨a, cap, cs, h1, h2, h3, h4⟩, h5⟩ := h
  refine ⟨⟨a, cap, cs, h1, h2, fun i u hu => tis_live7 (h3 i u hu) hk ht, ?_⟩, h5⟩
  by_cases e0 : is = []
  · exact .inl e0
  rcases h4 with e | ⟨b, off, e1, e2, e3⟩
  · exact .inl e
  · refine .inr ⟨b, off, e1, fun hT => ?_, fun i hi j u hu => hk.cell (e3 i hi j u hu) e2⟩
    rcases ht b hT with e | e
    · exact e2 e
    · have hl : 0 < is.length := List.length_pos_iff.2 e0
      have hz := (h3 0 _ (List.getElem?_eq_getElem hl)).tin.size13
      have hc := e3 0 hl 0 _ (Array.getElem?_eq_getElem (by omega))
      have := cell_lt6 hc
      simp only at this
      omega
theorem Pis.live {w w' : World} {S T : Nat → Prop} {p : Prt} {v : Value} (h : Pis w S p v) (hk : Kp S w w') (ht : ∀ q, T q → S q ∨ w.heap.size ≤ q) : Pis w' T p v := by
  cases p with
  | null => exact h
  | truth b => exact h
  | whole g n => exact h
  | float b => exact h
  | text s => exact h
  | octets y =>
    obtain ⟨vb, h1, h2, h3, h4⟩ := h
    by_cases e0 : y = []
    · refine ⟨vb, h1, ?_, fun e => absurd e0 e, h4⟩
      rw [e0] at h2 ⊢
      exact bsl_nil6 h2
    · refine ⟨vb, h1, hk.bsl h2 (h3 e0), fun _ q hq hT => ?_, h4⟩
      rcases ht q hT with e | e
      · exact h3 e0 q hq e
      · have := own_lt h2 e0 hq
        omega
  | name y =>
    obtain ⟨vb, h1, h2, e0, h3, h4⟩ := h
    refine ⟨vb, h1, hk.bsl h2 h3, e0, fun q hq hT => ?_, h4⟩
    rcases ht q hT with e | e
    · exact h3 q hq e
    · have := own_lt h2 e0 hq
      omega
  | list is =>
    obtain ⟨vi, h1, h2⟩ := h
    exact ⟨vi, h1, h2.live hk ht⟩
  | entries ks is =>
    obtain ⟨vk, vi, h1, h2, h3, h4⟩ := h
    by_cases e0 : ks = []
    · refine ⟨vk, vi, h1, ?_, fun e => absurd e0 e, h4.live hk ht⟩
      rw [e0] at h2 ⊢
      exact ssl_nil6 h2
    · refine ⟨vk, vi, h1, hk.ssl h2 (h3 e0), fun _ q hq hT => ?_, h4.live hk ht⟩
      rcases ht q hT with e | e
      · exact h3 e0 q hq e
      · obtain ⟨⟨a, c, hv, _, hc⟩, _, _⟩ := h2
        obtain ⟨b, off, ha, hcc⟩ := hc.resolve_left e0
        subst hv
        subst ha
        have e3 : b = q := by simpa [Value.ownBlock] using hq
        subst e3
        have hl : 0 < ks.length := List.length_pos_iff.2 e0
        have := cell_lt6 (hcc 0 _ (List.getElem?_eq_getElem hl))
        simp only at this
        omega
theorem own_zero7 (w : World) : (w.alloc (.cells #[.int .u8 0] 5)).ownsRow w.heap.size 5 1 (.slice (some ⟨w.heap.size, 0, none⟩) 1 1) 1 (bv [0]) :=
  ⟨rfl, .inr ⟨w.heap.size, 1, _, rfl, Nat.le_refl _, heap_alloc_new w _, Nat.le_refl _, by decide, rfl, rfl⟩⟩
theorem lrow_len7 (l : Lk) : (lrow l).length ≤ 999 := by
  unfold lrow
  split
  · rename_i h
    have h1 := lbytes_len h
    omega
  · exact Nat.zero_le _
end
section
open Go.RowKit Go
set_option maxRecDepth 1000000 in
set_option maxHeartbeats 1000000 in
/-- slices.Concat. -/
theorem concat7_any (w : World) (g n : Nat) (vs : List Value) (xss : List (List Nat)) (hr : Rws w g vs xss) (hn : vs.length = n) (hn0 : n ≤ 100) (h0 : 0 < fln xss n) (hl : fln xss n ≤ 1000) :
    Calls Tryz.prog 154 #[.slice (some ⟨g, 0, none⟩) n n] w fun e w' => ∃ v, e = .returned v ∧ w'.ownsRow w.heap.size 5 1 v (fln xss n) (bv (fla xss n)) ∧ Below w.heap.size w w' := by
  have HR := hide hr
  have HN := hide hn
  have HL := hide hl
  have H0 := hide h0
  have HX : Hid (xss.length = n) := by have := hr.n; show _ = _; omega
  clear hr hn hl h0
  go_enter Tryz.func154, Tryz.ntmps154
  go_wp2_with fail
  go_loopw [3, 11] (fun ss ii wx => wx = w ∧ ∃ k : Nat, k ≤ n ∧ ii = .int .i64 (k : Nat) ∧ ss = .int .i64 (fln xss k : Nat)) (fun _ ii _ => n - (intOf ii).toNat)
  case atStart => exact ⟨rfl, 0, by omega, rfl, rfl⟩
  case round =>
    obtain ⟨rfl, k, hk, rfl, rfl⟩ := hrel
    by_cases hlt : k < n
    · have g1 : (k : Int) < (n : Int) := by omega
      have q1 := HR.out.c k (by have := HN.out; omega)
      have HB1 := hide (HR.out.b k (by have := HN.out; omega))
      have HF := hide (fln_succ xss k (by have := HX.out; omega))
      have HF2 := hide (fln_le xss (k + 1))
      obtain ⟨⟨a, cap, hv, _⟩, _, _⟩ := HB1.out
      rw [hv] at q1
      have g3 : fln xss k + (xss.getD k []).length ≤ 1000 := by have := HF2.out; rw [HF.out, HX.out] at this; have := HL.out; omega
      have HSU : Hid (fln xss k + (xss.getD k []).length = fln xss (k + 1)) := HF.out.symm
      clear hv HF HF2
      generalize fln xss k = s1 at *
      generalize (xss.getD k []).length = s3 at *
      have g2 : ¬ ((s1 : Int) + (s3 : Int) < 0) := by omega
      go_wp2_with fail
      go_roundw
      case rel => exact ⟨trivial, k + 1, by omega, by go_num, by have := HSU.out; congr 1; omega⟩
      case measure => simp [intOf]; omega
    · have hkn : k = n := by omega
      subst hkn
      have g1 : ¬ (k : Int) < (k : Int) := by omega
      generalize hS : fln xss k = S at *
      have HS := hide hS
      clear hS hlt
      have h1 := H0.out
      have h2 := HL.out
      go_wp2_with fail
      refine (grow_any wr S h1 h2).mono ?_
      rintro e w1 ⟨v1, rfl, ho1, hb1⟩
      have HO1 := hide ho1
      have HB1 := hide hb1
      clear ho1 hb1
      obtain ⟨a1, c1, hv1, _⟩ := own_form HO1.out
      subst hv1
      go_wp2_with fail
      go_loopw [6, 27] (fun vv ii wx => ∃ j : Nat, j ≤ k ∧ ii = .int .i64 (j : Nat) ∧ Hid (wx.ownsRow wr.heap.size 5 1 vv (fln xss j) (bv (fla xss j))) ∧ Hid (Below wr.heap.size wr wx)) (fun _ ii _ => k - (intOf ii).toNat)
      case atStart => exact ⟨0, by omega, rfl, HO1, HB1⟩
      case round => as_aux_lemma =>
        rename World => wz
        obtain ⟨j, hj, rfl, HO, HBq⟩ := hrel
        clear HO1 HB1
        by_cases hjl : j < k
        · have g5 : (j : Int) < (k : Int) := by omega
          have HR2 := hide (HR.out.below HBq.out)
          have q1 := HR2.out.c j (by have := HN.out; omega)
          have HBL := hide (HR2.out.b j (by have := HN.out; omega))
          have HF := hide (fln_succ xss j (by have := HX.out; omega))
          have HFA := hide (fla_succ xss j (by have := HX.out; omega))
          have HF2 : Hid (fln xss (j + 1) ≤ 1000) := by have := fln_le xss (j + 1); rw [HX.out, HS.out] at this; exact Nat.le_trans this HL.out
          obtain ⟨⟨a, cap, hv, _⟩, _, _⟩ := HBL.out
          rw [hv] at q1 HBL
          obtain ⟨a2, c2, hv2, _⟩ := own_form HO.out
          subst hv2
          have HZ : Hid (fln xss j + (xss.getD j []).length ≤ 140737488355328) := by have := HF2.out; rw [HF.out] at this; show _ ≤ _; omega
          clear hv HR2
          go_wp2_with (at_builtin; refine append_bsl rfl _ _ rfl wr.heap.size _ (fln xss j) (fla xss j) rfl HO.out _ (xss.getD j []) rfl HBL.out HZ.out HBq.out.size ?_)
          intro v7 w7 ho7 hg7
          have HB7 : Hid (Below wr.heap.size wr w7) := HBq.out.grown hg7 HBq.out.size (fun g hg => (HO.out.lt g hg).1)
          have HO7 : Hid (w7.ownsRow wr.heap.size 5 1 v7 (fln xss (j + 1)) (bv (fla xss (j + 1)))) := by show World.ownsRow _ _ _ _ _ _ _; rw [HF.out, HFA.out]; exact ho7
          clear ho7 hg7 HO HBq HBL HF HFA HF2 HZ
          go_wp2_with fail
          go_roundw
          case rel => exact ⟨j + 1, by omega, by go_num, HO7, HB7⟩
          case measure => simp [intOf]; omega
        · have hjk : j = k := by omega
          subst hjk
          have g5 : ¬ (j : Int) < (j : Int) := by omega
          have ho := HO.out
          rw [HS.out] at ho
          obtain ⟨a2, c2, hv2, _⟩ := own_form ho
          subst hv2
          have HO2 := hide ho
          clear ho HO
          go_wp2_with fail
          go_ret
          exact ⟨_, rfl, by rw [HS.out]; exact HO2.out, HBq.out⟩
set_option maxRecDepth 1000000 in
set_option maxHeartbeats 1000000 in
theorem bytes7_any (w : World) (l : Lk) (hl : Lkb l) :
    Calls Tryz.prog 125 #[lkv l] w fun e w' => ∃ v', e = .returned (.tuple #[v', .int .i64 (if lok l then 0 else 40)]) ∧ w'.ownsRow w.heap.size 5 1 v' (lrow l).length (bv (lrow l)) ∧ Below w.heap.size w w' := by
  have HL := hide hl
  have HT : Hid ((w.alloc (.cells #[.int .i64 l.v, .int .u64 (l.c : Nat), .int .u64 (l.h : Nat), .string (nstr l.d)] 63)).heap[w.heap.size]? = some (.cells (lcs l) 63 (0, 0))) := heap_alloc_new w _
  have HBq := hide (below_alloc4 w (.cells #[.int .i64 l.v, .int .u64 (l.c : Nat), .int .u64 (l.h : Nat), .string (nstr l.d)] 63))
  simp only [lkv]
  by_cases hlk : lok l
  · have HLR : Hid (lrow l = lbytes l) := by show _ = _; unfold lrow; rw [if_pos hlk]
    rw [if_pos hlk, HLR.out]
    have HLK := hide hlk
    clear hlk hl
    go_enter Tryz.func125, Tryz.ntmps125
    go_wp2_with fail
    generalize w.alloc (.cells #[.int .i64 l.v, .int .u64 (l.c : Nat), .int .u64 (l.h : Nat), .string (nstr l.d)] 63) = w0 at *
    refine (check_any w0 l HL.out).mono ?_
    rintro e w1 ⟨rfl, hb1⟩
    rw [if_pos HLK.out]
    have q0 : w1.heap[w.heap.size]? = some (.cells (lcs l) 63 (0, 0)) := (hb1.block _ (blk_lt HT.out)).trans HT.out
    have HB1 : Hid (Below w.heap.size w w1) := HBq.out.trans (hb1.mono HBq.out.size)
    have c2 : w1.cell? ⟨w.heap.size, 2, none⟩ = some (.int .u64 (l.h : Nat)) := blk_cell q0 rfl
    have c3 : w1.cell? ⟨w.heap.size, 3, none⟩ = some (.string (nstr l.d)) := blk_cell q0 rfl
    have cv := conv_sb w1 (nstr l.d)
    go_wp2_with fail
    have HS1 : Hid (BSl (Lib.bytesWorld w1 5 (nstr l.d)) (.slice (some ⟨w1.heap.size, 0, none⟩) (nstr l.d).size (grownCap w1 (nstr l.d).size 0 5)) l.d) := by
      have h := conv_sb_bsl w1 (nstr l.d) (by rw [HL.out.size]; have := HL.out.n; omega)
      rw [sl_nstr HL.out.d] at h
      exact h
    have HB2 : Hid (Below w.heap.size w (Lib.bytesWorld w1 5 (nstr l.d))) := HB1.out.trans ((conv_sb_below w1 _).mono HB1.out.size)
    have HT2 : Hid ((Lib.bytesWorld w1 5 (nstr l.d)).heap[w.heap.size]? = some (.cells (lcs l) 63 (0, 0))) := (Lib.bytesWorld_at_old w1 5 _ _ (blk_lt q0)).trans q0
    clear cv c2 c3 q0 hb1
    generalize grownCap w1 (nstr l.d).size 0 5 = G at *
    generalize w1.heap.size = gg at *
    generalize Lib.bytesWorld w1 5 (nstr l.d) = w2 at *
    refine (dlay_any w2 l.h _ l.d HL.out.h HS1.out).mono ?_
    rintro e w3 ⟨vd, rfl, ho3, hb3⟩
    have HDL := hide (dlay_ok (lok_okd HLK.out))
    rw [HDL.out] at ho3 ⊢
    have HO3 := hide ho3
    have HB3 : Hid (Below w.heap.size w w3) := HB2.out.trans (hb3.mono HB2.out.size)
    have q3 : w3.heap[w.heap.size]? = some (.cells (lcs l) 63 (0, 0)) := (hb3.block _ (blk_lt HT2.out)).trans HT2.out
    have HWB : Hid (w.heap.size ≤ w2.heap.size) := HB2.out.size
    have c0 : w3.cell? ⟨w.heap.size, 0, none⟩ = some (.int .i64 l.v) := blk_cell q3 rfl
    have c1 : w3.cell? ⟨w.heap.size, 1, none⟩ = some (.int .u64 (l.c : Nat)) := blk_cell q3 rfl
    clear ho3 hb3 q3 HS1 HT2 HB2 HDL
    obtain ⟨ad, cd, hvd, _⟩ := own_form HO3.out
    subst hvd
    have HBYT : Hid (∀ x ∈ l.h :: l.d.length :: l.d, x < 256) := by
      have hk := lok_okd HLK.out
      intro x hx
      unfold okd at hk
      simp only [List.mem_cons] at hx
      rcases hx with e | e | e
      · omega
      · omega
      · exact HL.out.d x e
    have HRL : Hid ((l.h :: l.d.length :: l.d).length ≤ 66) := by
      have hk := lok_okd HLK.out
      unfold okd at hk
      show _ ≤ _
      simp
      omega
    by_cases hv0 : l.v = 0
    · as_aux_lemma =>
      have HBY : Hid (lbytes l = l.h :: l.d.length :: l.d) := by show _ = _; unfold lbytes; rw [if_pos hv0]
      rw [hv0] at c0 ⊢
      generalize l.h :: l.d.length :: l.d = rw3 at *
      go_wp2_with fail
      go_ret2
      exact ⟨_, rfl, by rw [HBY.out]; exact own_mono4 HO3.out HWB.out, HB3.out⟩
    · as_aux_lemma =>
      have hv1 : l.v = 1 := by
        rcases HLK.out with h1 | h1
        · exact absurd h1.1 hv0
        · exact h1.1
      have HC : Hid (l.c < 9223372036854775808) := by
        rcases HLK.out with h1 | h1
        · exact absurd h1.1 hv0
        · exact h1.2.1
      have HBY : Hid (lbytes l = 1 :: digs 9 l.c ++ (l.h :: l.d.length :: l.d)) := by show _ = _; unfold lbytes; rw [if_neg hv0]
      have HDB : Hid (∀ x ∈ digs 9 l.c, x < 256) := fun x hx => lbytes_byte HLK.out HL.out.d x (by rw [HBY.out]; simp [hx])
      rw [hv1] at c0 ⊢
      clear hv0 hv1
      generalize l.h :: l.d.length :: l.d = rw3 at *
      go_wp2_with fail
      refine (vlay_any (l.c : Nat) w3 (by omega) (by have := HC.out; omega)).mono ?_
      rintro e w4 ⟨vc, rfl, ho4, hb4⟩
      rw [Int.toNat_natCast] at ho4
      have HV4 := hide (BSl.own ho4 HDB.out)
      have HD4 := hide (BSl.own (own_below4 HO3.out hb4) HBYT.out)
      have HB4 : Hid (Below w.heap.size w w4) := HB3.out.trans (hb4.mono HB3.out.size)
      obtain ⟨ac, cc, hvc, _⟩ := own_form ho4
      subst hvc
      clear ho4 hb4 HO3 HB3 c0 c1
      have HDN := hide (digs_len 9 l.c)
      have hb5 := below_alloc4 w4 (.cells #[.int .u8 1] 5)
      have hb6 := hb5.trans ((below_alloc4 (w4.alloc (.cells #[.int .u8 1] 5)) (.cells #[.slice (some ⟨w4.heap.size, 0, none⟩) 1 1, .slice ac (digs 9 l.c).length cc, .slice ad rw3.length cd] 23)).mono hb5.size)
      have HRW : Hid (Rws ((w4.alloc (.cells #[.int .u8 1] 5)).alloc (.cells #[.slice (some ⟨w4.heap.size, 0, none⟩) 1 1, .slice ac (digs 9 l.c).length cc, .slice ad rw3.length cd] 23)) (w4.heap.size + 1) [.slice (some ⟨w4.heap.size, 0, none⟩) 1 1, .slice ac (digs 9 l.c).length cc, .slice ad rw3.length cd] [[1], digs 9 l.c, rw3]) := by
        have h1 := heap_alloc_new (w4.alloc (.cells #[.int .u8 1] 5)) (.cells #[.slice (some ⟨w4.heap.size, 0, none⟩) 1 1, .slice ac (digs 9 l.c).length cc, .slice ad rw3.length cd] 23)
        have e : (w4.alloc (.cells #[.int .u8 1] 5)).heap.size = w4.heap.size + 1 := by simp
        rw [e] at h1
        refine ⟨rfl, fun i hi => ?_, fun i hi => ?_⟩
        · match i, hi with
          | 0, _ => exact blk_cell h1 rfl
          | 1, _ => exact blk_cell h1 rfl
          | 2, _ => exact blk_cell h1 rfl
        · match i, hi with
          | 0, _ => exact (one_bsl w4 1 (by decide)).move (keep_alloc _ _)
          | 1, _ => exact HV4.out.move (keep_below hb6)
          | 2, _ => exact HD4.out.move (keep_below hb6)
      have HB6 : Hid (Below w.heap.size w ((w4.alloc (.cells #[.int .u8 1] 5)).alloc (.cells #[.slice (some ⟨w4.heap.size, 0, none⟩) 1 1, .slice ac (digs 9 l.c).length cc, .slice ad rw3.length cd] 23))) := HB4.out.trans (hb6.mono HB4.out.size)
      have HF3 : Hid (fla [[1], digs 9 l.c, rw3] 3 = lbytes l) := by show _ = _; rw [HBY.out]; unfold fla; simp
      have HN3 : Hid (fln [[1], digs 9 l.c, rw3] 3 = (lbytes l).length) := by show _ = _; rw [← fla_len, HF3.out]
      have HLN : Hid (0 < (lbytes l).length ∧ (lbytes l).length ≤ 1000) := by
        have h1 := lbytes_len HLK.out
        show _ ∧ _
        rw [HBY.out] at h1 ⊢
        refine ⟨by simp, by omega⟩
      clear hb5 hb6 HV4 HD4 HB4
      go_wp2_with fail
      generalize (w4.alloc (.cells #[.int .u8 1] 5)).alloc (.cells #[.slice (some ⟨w4.heap.size, 0, none⟩) 1 1, .slice ac (digs 9 l.c).length cc, .slice ad rw3.length cd] 23) = w6 at *
      refine (concat7_any w6 (w4.heap.size + 1) 3 _ _ HRW.out rfl (by decide) (by rw [HN3.out]; exact HLN.out.1) (by rw [HN3.out]; exact HLN.out.2)).mono ?_
      rintro e w7 ⟨v7, rfl, ho7, hb7⟩
      rw [HF3.out, HN3.out] at ho7
      have HO7 := hide (own_mono4 ho7 HB6.out.size)
      have HB7 : Hid (Below w.heap.size w w7) := HB6.out.trans (hb7.mono HB6.out.size)
      obtain ⟨a7, c7, hv7, _⟩ := own_form ho7
      subst hv7
      clear ho7 hb7 HRW HB6
      go_wp2_with fail
      go_ret2
      exact ⟨_, rfl, HO7.out, HB7.out⟩
  · have HLR : Hid (lrow l = []) := by show _ = _; unfold lrow; rw [if_neg hlk]
    rw [if_neg hlk, HLR.out]
    have HLK := hide hlk
    clear hlk
    go_enter Tryz.func125, Tryz.ntmps125
    go_wp2_with fail
    generalize w.alloc (.cells #[.int .i64 l.v, .int .u64 (l.c : Nat), .int .u64 (l.h : Nat), .string (nstr l.d)] 63) = w0 at *
    refine (check_any w0 l HL.out).mono ?_
    rintro e w1 ⟨rfl, hb1⟩
    rw [if_neg HLK.out]
    have HB1 : Hid (Below w.heap.size w w1) := HBq.out.trans (hb1.mono HBq.out.size)
    clear hb1
    go_wp2_with fail
    go_ret2
    exact ⟨_, rfl, ⟨rfl, .inl ⟨rfl, rfl⟩⟩, HB1.out⟩
end
section
open Go.RowKit Go
theorem infoL7 : (Tryz.prog.info? 63).map (·.size) = some 4 := by kernel_rfl
theorem exec_lkAt7 {o : Oper} {a : Act} {p : Operand} {g off : Nat} {cs : Array Value} {w : World} (ho : o.op = .load 63 p) (hp : a.eval p = .pointer (some ⟨g, off, none⟩)) (hn : cs.size = 4) (hc : ∀ j u, cs[j]? = some u → w.cell? ⟨g, off + j, none⟩ = some u) : (execOp a.eval o).run Tryz.prog w = .ok (.value (.agg cs)) w := by
  unfold execOp
  have hr : (Instr.loadAt 63 (.pointer (some ⟨g, off, none⟩))).run Tryz.prog w = .ok (.agg cs) w := by
    have hl := run_loadCells_list (P := Tryz.prog) (w := w) ⟨g, off, none⟩ cs.toList (fun j v hv => by rw [addr_add]; exact hc j v (by simpa using hv))
    have hi := infoL7
    simp only [Instr.loadAt, Instr.sureAddr, Sem.run_bind, Sem.run_pure, Result.andThen]
    cases hq : Tryz.prog.info? 63 with
    | none => simp [hq] at hi
    | some i =>
      have hs : i.size = 4 := by simpa [hq] using hi
      have hn2 : cs.toList.length = 4 := by simpa using hn
      rw [hn2] at hl
      have ha : (isAgg 63).run Tryz.prog w = .ok true w := by
        unfold isAgg
        rw [Sem.run_bind, run_underlying Tryz.underlying63 w]
        simp
      simp [loadVar, ha, sizeOf, typeInfo, hq, hs, hl]
  simp only [ho, Sem.run_bind, hp, hr, Result.andThen_ok]
  rfl
def PartP (w : World) (S : Nat → Prop) (p : Prt) (e : Ending) (w' : World) : Prop := ∃ v, e = .returned v ∧ Below w.heap.size w w' ∧ Pis w' S p v
set_option maxRecDepth 1000000 in
set_option maxHeartbeats 1000000 in
theorem nameOf_any (w : World) (S : Nat → Prop) (hS : ∀ q, S q → q < w.heap.size) (l : Lk) (hl : Lkb l) :
    Calls Tryz.prog 93 #[.agg #[.int .i64 l.v, .int .u64 (l.c : Nat), .int .u64 (l.h : Nat), .string (nstr l.d)]] w (PartP w S (.name (0 :: lrow l))) := by
  have HL := hide hl
  have HSq := hide hS
  have HB0 := hide (below_alloc4 w (.cells #[.int .i64 l.v, .int .u64 (l.c : Nat), .int .u64 (l.h : Nat), .string (nstr l.d)] 63))
  have HG0 := hide (heap_alloc_new w (.cells #[.int .i64 l.v, .int .u64 (l.c : Nat), .int .u64 (l.h : Nat), .string (nstr l.d)] 63))
  clear hl hS
  go_enter Tryz.func93, Tryz.ntmps93
  go_upto_region 1 with fail
  generalize w.alloc (.cells #[.int .i64 l.v, .int .u64 (l.c : Nat), .int .u64 (l.h : Nat), .string (nstr l.d)] 63) = w0 at *
  have HLC : Hid (∀ j u, (#[.int .i64 l.v, .int .u64 (l.c : Nat), .int .u64 (l.h : Nat), .string (nstr l.d)] : Array Value)[j]? = some u → w0.cell? ⟨w.heap.size, 0 + j, none⟩ = some u) := fun j u hu => by rw [Nat.zero_add]; exact blk_cell HG0.out hu
  go_wp2_with (refine wpList_exec rfl (exec_lkAt7 (g := w.heap.size) (off := 0) (cs := #[.int .i64 l.v, .int .u64 (l.c : Nat), .int .u64 (l.h : Nat), .string (nstr l.d)]) rfl rfl rfl HLC.out) ?_)
  refine (bytes7_any w0 l HL.out).mono ?_
  rintro e w1 ⟨v1, rfl, ho1, hb1⟩
  generalize (if lok l then (0 : Int) else 40) = cd
  have HS1 := hide (BSl.own ho1 (lrow_byte HL.out.d))
  have HB1 : Hid (Below w.heap.size w w1) := HB0.out.trans (hb1.mono HB0.out.size)
  obtain ⟨a1, c1, hv1⟩ := own_slice7 ho1
  subst hv1
  have hb2 := below_alloc4 w1 (.cells #[.int .u8 0] 5)
  have HO2 := hide (own_zero7 w1)
  have HS2 := hide (HS1.out.move (keep_below hb2))
  have HB2 : Hid (Below w.heap.size w (w1.alloc (.cells #[.int .u8 0] 5))) := HB1.out.trans (hb2.mono HB1.out.size)
  have HLR := hide (lrow_len7 l)
  generalize hR : lrow l = R at *
  have HRE := hide hR
  have HLB : Hid (1 + R.length ≤ 140737488355328) := by show _ ≤ _; have := HLR.out; omega
  clear ho1 hb1 hb2 hR
  go_wp2_with (at_builtin; refine append_bytes rfl _ _ 125 23 rfl Tryz.underlying125 Tryz.underlying23 w1.heap.size _ 1 [0] rfl HO2.out (fun h => by cases h) _ R rfl HS2.out HLB.out (by simp) ?_)
  intro v3 w3 h1 h2 h3 h4
  have HB3 : Hid (Below w.heap.size w w3) := HB2.out.grown h2 HB2.out.size (fun q hq => by have h5 := (HO2.out.lt q hq).1; exact Nat.le_trans HB1.out.size h5)
  have HP3 : Hid (Pis w3 S (.name (0 :: R)) (.iface 193 (.agg #[v3]))) := by
    refine ⟨v3, rfl, BSl.own h1 ?_, by simp, fun q hq hs => ?_, ?_⟩
    · intro x hx
      rcases List.mem_cons.1 hx with e | e
      · rw [e]; decide
      · exact HS1.out.byte x e
    · have h5 := (h1.lt q hq).1
      have h6 := HSq.out q hs
      have h7 := HB1.out.size
      omega
    · show R.length + 1 ≤ 1000
      have := HLR.out
      omega
  obtain ⟨a3, c3, hv3⟩ := own_slice7 h1
  subst hv3
  clear h1 h2 h3 h4
  go_wp2_with fail
  go_ret
  exact ⟨_, rfl, HB3.out, HP3.out⟩
end
section
open Go.RowKit Go
theorem blt_self : ∀ x, blt x x = false
  | [] => rfl
  | x :: r => by rw [blt, if_pos rfl, blt_self r]
end
section
open Go.RowKit Go
theorem blt_tr : ∀ (x y z : List Nat), x.length = y.length → y.length = z.length → blt x y = true → blt y z = true → blt x z = true
  | [], _, _, _, _, h, _ => by simp [blt] at h
  | _ :: _, [], _, h, _, _, _ => by simp at h
  | _ :: _, _ :: _, [], _, h, _, _ => by simp at h
  | a :: x, b :: y, c :: z, h1, h2, h3, h4 => by
    have ih := blt_tr x y z (by simpa using h1) (by simpa using h2)
    simp only [blt] at *
    by_cases e1 : a = b
    · by_cases e2 : b = c
      · rw [if_pos e1] at h3
        rw [if_pos e2] at h4
        rw [if_pos (by omega)]
        exact ih h3 h4
      · rw [if_neg e2] at h4
        rw [if_neg (by omega)]
        simp at *
        omega
    · rw [if_neg e1] at h3
      by_cases e2 : b = c
      · rw [if_neg (by omega)]
        simp at *
        omega
      · rw [if_neg e2] at h4
        simp at h3 h4
        rw [if_neg (by omega)]
        simp
        omega
theorem blt_nt : ∀ (x y z : List Nat), x.length = y.length → y.length = z.length → blt x y = false → blt y z = false → blt x z = false
  | [], _, _, _, _, _, _ => by simp [blt]
  | _ :: _, [], _, h, _, _, _ => by simp at h
  | _ :: _, _ :: _, [], _, h, _, _ => by simp at h
  | a :: x, b :: y, c :: z, h1, h2, h3, h4 => by
    have ih := blt_nt x y z (by simpa using h1) (by simpa using h2)
    simp only [blt] at *
    by_cases e1 : a = b
    · by_cases e2 : b = c
      · rw [if_pos e1] at h3
        rw [if_pos e2] at h4
        rw [if_pos (by omega)]
        exact ih h3 h4
      · rw [if_neg e2] at h4
        rw [if_neg (by omega)]
        simp at *
        omega
    · rw [if_neg e1] at h3
      by_cases e2 : b = c
      · rw [if_neg (by omega)]
        simp at *
        omega
      · rw [if_neg e2] at h4
        simp at h3 h4
        rw [if_neg (by omega)]
        simp
        omega
theorem bfr_self (x : List Nat) : bfr x x = false := by
  unfold bfr
  rw [if_pos rfl]
  exact blt_self x
theorem bfr_tr (x y z : List Nat) (h1 : bfr x y = true) (h2 : bfr y z = true) : bfr x z = true := by
  unfold bfr at *
  by_cases e1 : x.length = y.length
  · rw [if_pos e1] at h1
    by_cases e2 : y.length = z.length
    · rw [if_pos e2] at h2
      rw [if_pos (by omega)]
      exact blt_tr x y z e1 e2 h1 h2
    · rw [if_neg e2] at h2
      rw [if_neg (by omega)]
      simp at *
      omega
  · rw [if_neg e1] at h1
    by_cases e2 : y.length = z.length
    · rw [if_neg (by omega)]
      simp at *
      omega
    · rw [if_neg e2] at h2
      simp at h1 h2
      rw [if_neg (by omega)]
      simp
      omega
theorem bfr_nt (x y z : List Nat) (h1 : bfr x y = false) (h2 : bfr y z = false) : bfr x z = false := by
  unfold bfr at *
  by_cases e1 : x.length = y.length
  · rw [if_pos e1] at h1
    by_cases e2 : y.length = z.length
    · rw [if_pos e2] at h2
      rw [if_pos (by omega)]
      exact blt_nt x y z e1 e2 h1 h2
    · rw [if_neg e2] at h2
      rw [if_neg (by omega)]
      simp at *
      omega
  · rw [if_neg e1] at h1
    by_cases e2 : y.length = z.length
    · rw [if_neg (by omega)]
      simp at *
      omega
    · rw [if_neg e2] at h2
      simp at h1 h2
      rw [if_neg (by omega)]
      simp
      omega
end
section
open Go.RowKit Go
theorem look_fit {want : Nat} {r : List Nat} (h : rlook want r = 0) : rfit want (hrd r) (rbody r) = true := by
  unfold rlook at h
  by_cases h20 : (hrd r).e = 20
  · rw [if_pos h20] at h; cases h
  rw [if_neg h20] at h
  by_cases h2 : (hrd r).e ≠ 0 ∨ (hrd r).i = 31
  · rw [if_pos h2] at h; cases h
  rw [if_neg h2] at h
  by_cases h3 : ((hrd r).m = 2 ∨ (hrd r).m = 3) ∧ r.length - (hrd r).u < (hrd r).n
  · rw [if_pos h3] at h; cases h
  rw [if_neg h3] at h
  by_cases h4 : rmay (hrd r) (rbody r) = false ∨ rfit want (hrd r) (rbody r) = false
  · rw [if_pos h4] at h; cases h
  rcases Bool.eq_false_or_eq_true (rfit want (hrd r) (rbody r)) with e | e
  · exact e
  · exact absurd (.inr e) h4
theorem fit_key {r : List Nat} (h : rlook 1 r = 0) : (hrd r).m = 3 ∧ badb (nstr (rbody r)) = false := by
  have h1 := look_fit h
  unfold rfit at h1
  rw [if_pos rfl] at h1
  have h3 : (hrd r).m = 3 := by simpa using h1
  have h2 := look_may h
  unfold rmay at h2
  rw [if_pos h3] at h2
  exact ⟨h3, by simpa using h2⟩
theorem fit_name {r : List Nat} (h : rlook 2 r = 0) : (hrd r).m = 2 ∧ (rbody r).head? = some 0 ∧ (lparse (rbody r).tail).2 = 0 := by
  have h1 := look_fit h
  unfold rfit at h1
  rw [if_neg (by decide), if_pos rfl] at h1
  simpa using h1
theorem take_rise {full : Bool} {ks : List ByteArray} {r : List Nat} (h : rtake 1 full ks r = 0) : rrise ks (nstr (rbody r)) = true := by
  obtain ⟨hl, hn⟩ := rtake_look h
  unfold rtake at h
  rw [if_neg hn, if_neg (fun e => e hl)] at h
  by_cases h2 : (hrd r).s = false ∨ ((1 : Nat) = 1 ∧ rrise ks (nstr (rbody r)) = false)
  · rw [if_pos h2] at h; cases h
  rcases Bool.eq_false_or_eq_true (rrise ks (nstr (rbody r))) with e | e
  · exact e
  · exact absurd (.inr ⟨rfl, e⟩) h2
/-- Rising keys are all unlike. -/
theorem rise_lt {ks : List ByteArray} (h : ∀ (i : Nat) (s s' : ByteArray), ks[i]? = some s → ks[i + 1]? = some s' → bfr (sl s) (sl s') = true) : ∀ (j i : Nat) (s s' : ByteArray), ks[i]? = some s → ks[i + j + 1]? = some s' → bfr (sl s) (sl s') = true
  | 0, i, s, s', h1, h2 => h i s s' h1 h2
  | j + 1, i, s, s', h1, h2 => by
    have hlt : i + (j + 1) + 1 < ks.length := (List.getElem?_eq_some_iff.1 h2).1
    have e := List.getElem?_eq_getElem (show i + j + 1 < ks.length by omega)
    exact bfr_tr _ _ _ (rise_lt h j i s _ h1 e) (h (i + j + 1) _ s' e h2)
theorem rise_nodup {ks : List ByteArray} (h : ∀ (i : Nat) (s s' : ByteArray), ks[i]? = some s → ks[i + 1]? = some s' → bfr (sl s) (sl s') = true) : ks.Nodup := by
  unfold List.Nodup
  rw [List.pairwise_iff_getElem]
  intro i j hi hj hij e
  have e1 := List.getElem?_eq_getElem hi
  have e2 := List.getElem?_eq_getElem hj
  have h1 := rise_lt h (j - i - 1) i _ _ e1 (by rw [show i + (j - i - 1) + 1 = j by omega]; exact e2)
  rw [e, bfr_self] at h1
  cases h1
theorem Bk8.step {b : List Nat} {d : Nat} {s s' : Mst} (hb : ∀ x ∈ b, x < 256) (hd : d ≤ 1024) (hi : Inv8 b d s) (h : Bk8 b d s) (hs : mstep b d s = .inl s') : Bk8 b d s' := by
  obtain ⟨lab, p, st⟩ := s
  obtain ⟨ip, id, ik, it, ih, io, ii⟩ := hi
  obtain ⟨ht, hg, hv⟩ := h
  simp only at ip id ik it ih io ii ht hg hv
  have hby : ∀ x ∈ b.drop p, x < 256 := fun x hx => hb x (List.mem_of_mem_drop hx)
  have htk : b.take (p + rused (b.drop p)) = b.take p ++ (b.drop p).take (rused (b.drop p)) := List.take_add
  cases lab with
  | plain =>
    unfold mstep at hs
    dsimp only at hs
    by_cases h0 : rtake 0 (decide (st.length = d)) [] (b.drop p) ≠ 0
    · rw [if_pos h0] at hs; cases hs
    rw [if_neg h0] at hs
    have h1 : rtake 0 (decide (st.length = d)) [] (b.drop p) = 0 := Decidable.not_not.1 h0
    obtain ⟨hlk, hfull⟩ := rtake_look h1
    rw [ht, item_back hby h1] at htk
    simp only [lpre, List.append_nil] at htk
    have hlt : (hrd (b.drop p)).m = 4 ∨ (hrd (b.drop p)).m = 5 → st.length < d := fun hm => by
      have h2 := rnest_of (rlook_e hlk) hm
      have h3 : ¬ st.length = d := fun e => hfull ⟨h2, decide_eq_true e⟩
      omega
    by_cases m6 : (hrd (b.drop p)).m = 6
    · rw [if_pos m6] at hs
      injection hs with hs
      subst hs
      refine ⟨?_, hg, fun v e => by cases e⟩
      have hn := look_may hlk
      unfold rmay at hn
      rw [if_neg (by omega), if_pos m6] at hn
      rw [htk, if_neg (by omega), body_none (by omega), List.append_nil, m6, show (hrd (b.drop p)).n = 42 by simpa using hn]
      rfl
    rw [if_neg m6] at hs
    by_cases m4 : (hrd (b.drop p)).m = 4
    · rw [if_pos m4] at hs
      injection hs with hs
      subst hs
      refine ⟨?_, ⟨⟨hlt (.inl m4), .inl rfl, fun _ => rfl, fun e => (by cases e), fun u hu => (by cases hu), fun i a b e => (by simp at e), fun a e => (by cases e)⟩, hg⟩, fun v e => by cases e⟩
      show b.take (p + rused (b.drop p)) = (spre st ++ npre ⟨8, [], [], (hrd (b.drop p)).n⟩) ++ []
      rw [htk, if_neg (by omega), body_none (by omega), m4, List.append_nil, List.append_nil]
      simp [npre, tfmL]
    rw [if_neg m4] at hs
    by_cases m5 : (hrd (b.drop p)).m = 5
    · rw [if_pos m5] at hs
      injection hs with hs
      subst hs
      refine ⟨?_, ⟨⟨hlt (.inr m5), .inr rfl, fun _ => rfl, fun _ => rfl, fun u hu => (by cases hu), fun i a b e => (by simp at e), fun a e => (by cases e)⟩, hg⟩, fun v e => by cases e⟩
      show b.take (p + rused (b.drop p)) = (spre st ++ npre ⟨9, [], [], (hrd (b.drop p)).n⟩) ++ []
      rw [htk, if_neg (by omega), body_none (by omega), m5, List.append_nil, List.append_nil]
      simp [npre, tfmK]
    rw [if_neg m5] at hs
    injection hs with hs
    subst hs
    obtain ⟨l1, l2⟩ := leaf_kind hby hlk m4 m5 m6 st.length d id
    refine ⟨?_, hg, fun v e => ?_⟩
    · show _ = spre st ++ tfm _
      rw [htk, l1]
    · injection e with e
      subst e
      exact l2
  | name =>
    unfold mstep at hs
    dsimp only at hs
    by_cases h0 : rtake 2 (decide (st.length = d)) [] (b.drop p) ≠ 0
    · rw [if_pos h0] at hs; cases hs
    rw [if_neg h0] at hs
    have h1 : rtake 2 (decide (st.length = d)) [] (b.drop p) = 0 := Decidable.not_not.1 h0
    obtain ⟨hlk, -⟩ := rtake_look h1
    obtain ⟨n1, n2, n3⟩ := fit_name hlk
    have hbl := body_len hlk (.inl n1)
    have hbb := body_byte hby
    rw [ht, item_back hby h1] at htk
    injection hs with hs
    subst hs
    generalize rbody (b.drop p) = y at *
    obtain ⟨tl, hy⟩ : ∃ tl, y = 0 :: tl := by
      cases y with
      | nil => cases n2
      | cons z q =>
        injection n2 with n2
        exact ⟨q, by rw [n2]⟩
    subst hy
    have hlb := lparse_back (b := tl) (l := (lparse tl).1) (fun x hx => hbb x (List.mem_cons_of_mem _ hx)) (by rw [← n3]; rfl)
    have eln : 1 + (lbytes (lparse tl).1).length = (hrd (b.drop p)).n := by rw [hlb.2, ← hbl, List.length_cons]; omega
    refine ⟨?_, hg, fun v e => ?_⟩
    · show _ = spre st ++ tfm (.mk 7 false false 0 0 ⟨#[]⟩ [] (lparse tl).1 [] [])
      unfold tfm
      simp only [lpre] at htk
      rw [if_neg (by decide), if_neg (by decide), if_neg (by decide), if_neg (by decide), if_neg (by decide), if_neg (by decide), if_pos rfl, eln, hlb.2, htk, if_neg (by omega), n1, List.append_assoc]
    · injection e with e
      subst e
      refine ⟨?_, ?_, Rsn.mk _ (fun i a b e => by simp [Tv.ks] at e) (fun u hu => by cases hu)⟩
      · rw [chkf_eq]
        have ho : onef (.mk 7 false false 0 0 ⟨#[]⟩ [] (lparse tl).1 [] []) st.length = 0 := by
          unfold onef tidyf Tv.zr Tv.cl
          simp [Tv.k, Tv.f, Tv.g, Tv.n, Tv.b, Tv.s, Tv.y, Tv.l, Tv.ks, Tv.is, fin0, bad0, hlb.1]
        have ho2 : onef (.mk 7 false false 0 0 ⟨#[]⟩ [] (lparse (List.tail (0 :: tl))).1 [] []) st.length = 0 := ho
        rw [if_pos ho2]
        show chkL [] _ = 0
        rw [chkL]
      · rw [tdepth_eq, if_neg (by show ¬ ((7 : Int) = 8 ∨ (7 : Int) = 9); decide), Nat.zero_add]
        exact id
  | done v =>
    cases st with
    | nil => cases hs
    | cons x q =>
      injection hs with hs
      subst hs
      obtain ⟨hx, hq⟩ := hg
      have hn : 0 < x.n := by
        rcases (ih x rfl).2 with e | e
        · cases e
        · exact e
      refine ⟨?_, ⟨⟨hx.lt, hx.k, hx.l, fun e => ?_, fun u hu => ?_, hx.r, hx.b⟩, hq⟩, fun v e => by cases e⟩
      · show b.take p = (spre q ++ npre ⟨x.k, x.ks, x.is ++ [v], x.n - 1⟩) ++ []
        rw [ht, List.append_nil]
        show (spre q ++ npre x) ++ tfm v = _
        rw [List.append_assoc]
        congr 1
        unfold npre
        dsimp only
        rw [List.length_append, List.length_singleton, show x.is.length + 1 + (x.n - 1) = x.is.length + x.n by omega, List.append_assoc]
        congr 1
        rcases hx.k with e | e
        · rw [if_pos e, if_pos e, tfmL_app]
        · rw [if_neg (by omega), if_neg (by omega), tfmK_item v (hx.m e)]
      · show x.ks.length = (x.is ++ [v]).length + 0
        rw [hx.m e, List.length_append, List.length_singleton]
        rfl
      · rcases List.mem_append.1 hu with e | e
        · exact hx.i u e
        · simp only [List.mem_singleton] at e
          rw [e]
          exact hv v rfl
  | inside =>
    cases st with
    | nil => cases hs
    | cons x q =>
      obtain ⟨hx, hq⟩ := hg
      unfold mstep at hs
      dsimp only at hs
      by_cases hn : x.n = 0
      · rw [if_pos hn] at hs
        injection hs with hs
        subst hs
        refine ⟨?_, hq, fun v e => ?_⟩
        · show b.take p = spre q ++ tfm x.val
          rw [ht]
          show (spre q ++ npre x) ++ [] = _
          rw [List.append_nil]
          congr 1
          unfold npre Nst.val tfm
          rw [hn, Nat.add_zero]
          rcases hx.k with e | e
          · rw [e]; simp
          · rw [e]; simp
        · injection e with e
          subst e
          refine ⟨?_, ?_, Rsn.mk _ hx.r (fun u hu => (hx.i u hu).r)⟩
          · have ho : onef x.val q.length = 0 := by
              have hlen : x.k = 9 → x.ks.length = x.is.length := fun e => by have := hx.m e; simpa [lmore] using this
              have hnd := rise_nodup hx.r
              have hbd : x.ks.any badb = false := by
                rw [List.any_eq_false]
                intro s hs2
                rw [hx.b s hs2]
                decide
              have hlt := hx.lt
              have hl8 := hx.l
              have hkk := hx.k
              clear ht hx hq
              obtain ⟨k, ks, is, n⟩ := x
              simp only at *
              unfold onef tidyf Tv.zr Tv.cl Nst.val
              rcases hkk with e | e
              · subst e
                have e2 := hl8 rfl
                subst e2
                simp [Tv.k, Tv.f, Tv.g, Tv.n, Tv.b, Tv.s, Tv.y, Tv.l, Tv.ks, Tv.is, fin0, bad0]
                omega
              · subst e
                have e2 := hlen rfl
                simp [Tv.k, Tv.f, Tv.g, Tv.n, Tv.b, Tv.s, Tv.y, Tv.l, Tv.ks, Tv.is, fin0, bad0, hbd, hnd, e2]
                omega
            rw [chkf_eq, if_pos ho]
            exact chkL_none (fun u hu => (hx.i u hu).c)
          · rw [tdepth_eq, if_pos (show x.val.k = 8 ∨ x.val.k = 9 from hx.k)]
            have hlt := hx.lt
            have h3 := tdepthL_le (l := x.is) (n := d - (q.length + 1)) (fun u hu => by have := (hx.i u hu).d; omega)
            show tdepthL x.is + 1 + q.length ≤ d
            omega
      rw [if_neg hn] at hs
      by_cases h8 : x.k = 8
      · rw [if_pos h8] at hs
        injection hs with hs
        subst hs
        exact ⟨ht, ⟨⟨hx.lt, hx.k, hx.l, (fun e => by rw [h8] at e; cases e), hx.i, hx.r, hx.b⟩, hq⟩, fun v e => by cases e⟩
      rw [if_neg h8] at hs
      have h9 : x.k = 9 := hx.k.resolve_left h8
      by_cases h0 : rtake 1 (decide ((x :: q).length = d)) x.ks (b.drop p) ≠ 0
      · rw [if_pos h0] at hs; cases hs
      rw [if_neg h0] at hs
      have h1 : rtake 1 (decide ((x :: q).length = d)) x.ks (b.drop p) = 0 := Decidable.not_not.1 h0
      obtain ⟨hlk, -⟩ := rtake_look h1
      obtain ⟨m3, hbd⟩ := fit_key hlk
      have hri := take_rise h1
      have hbl := body_len hlk (.inr m3)
      have hbb := body_byte hby
      rw [ht, item_back hby h1] at htk
      injection hs with hs
      subst hs
      refine ⟨?_, ⟨⟨hx.lt, hx.k, fun e => absurd e h8, fun e => ?_, hx.i, fun i s s' e1 e2 => ?_, fun s hs2 => ?_⟩, hq⟩, fun v e => by cases e⟩
      · show b.take (p + rused (b.drop p)) = (spre q ++ npre ⟨x.k, x.ks ++ [nstr (rbody (b.drop p))], x.is, x.n⟩) ++ []
        rw [htk, if_neg (by omega), m3, ← hbl, List.append_nil]
        show ((spre q ++ npre x) ++ []) ++ _ = _
        rw [List.append_nil, List.append_assoc]
        congr 1
        unfold npre
        dsimp only
        rw [if_neg h8, if_neg h8, if_neg h8, List.append_assoc, tfmK_key _ (by simpa [lmore] using hx.m h9)]
        congr 2
        unfold kfm
        rw [sl_nstr hbb]
      · show (x.ks ++ [nstr (rbody (b.drop p))]).length = x.is.length + 1
        have := hx.m h9
        rw [List.length_append, List.length_singleton, this]
        rfl
      · have hlt := (List.getElem?_eq_some_iff.1 e2).1
        dsimp only at e1 e2 hlt
        rw [List.length_append, List.length_singleton] at hlt
        rw [List.getElem?_append_left (by omega)] at e1
        by_cases hj : i + 1 < x.ks.length
        · rw [List.getElem?_append_left hj] at e2
          exact hx.r i s s' e1 e2
        · have hj2 : i + 1 = x.ks.length := by omega
          have e3 : s' = nstr (rbody (b.drop p)) := by
            rw [hj2] at e2
            simpa using e2.symm
          unfold rrise at hri
          rw [List.getLast?_eq_getElem?, show x.ks.length - 1 = i by omega, e1] at hri
          rw [e3]
          exact hri
      · rcases List.mem_append.1 hs2 with e | e
        · exact hx.b s e
        · simp only [List.mem_singleton] at e
          rw [e]
          exact hbd
end
section
open Go.RowKit Go
/-- How the one key stands to the other, by its sign. -/
def agn (s t : ByteArray) : Int := if s.size = t.size then Lib.compareBytes s.data.toList t.data.toList else if s.size < t.size then -1 else 1
theorem cmpB_blt : ∀ (x y : List UInt8), x.length = y.length → (Lib.compareBytes x y < 0 ↔ blt (x.map UInt8.toNat) (y.map UInt8.toNat) = true)
  | [], [], _ => by simp [Lib.compareBytes, blt]
  | [], _ :: _, h => by simp at h
  | _ :: _, [], h => by simp at h
  | a :: x, b :: y, h => by
    have ih := cmpB_blt x y (by simpa using h)
    simp only [Lib.compareBytes, List.map_cons, blt]
    by_cases h1 : a < b
    · have h2 : a.toNat < b.toNat := h1
      rw [if_pos h1, if_neg (by omega)]
      simp [h2]
    · rw [if_neg h1]
      by_cases h2 : b < a
      · have h3 : b.toNat < a.toNat := h2
        rw [if_pos h2, if_neg (by omega)]
        simp
        omega
      · have h3 : a.toNat = b.toNat := by
          have e1 : ¬ a.toNat < b.toNat := h1
          have e2 : ¬ b.toNat < a.toNat := h2
          omega
        rw [if_neg h2, if_pos h3]
        exact ih
theorem agn_bfr (s t : ByteArray) : agn s t < 0 ↔ bfr (sl s) (sl t) = true := by
  unfold agn bfr
  rw [sl_len, sl_len]
  by_cases h : s.size = t.size
  · rw [if_pos h, if_pos h]
    exact cmpB_blt _ _ (by rw [Array.length_toList, Array.length_toList]; exact h)
  · rw [if_neg h, if_neg h]
    by_cases h2 : s.size < t.size <;> simp [h2]
set_option maxRecDepth 1000000 in
theorem cmpString_any (a b : ByteArray) (w : World) : Calls Tryz.prog 151 #[.string a, .string b] w fun e w' => e = .returned (.int .i64 (Lib.compareBytes a.data.toList b.data.toList)) ∧ w' = w := by
  go_enter Tryz.func151, Tryz.ntmps151
  go_wp2
  rw [run_callFunc_extern Tryz.func170 (by kernel_rfl) (by kernel_rfl) (by kernel_rfl) (e := Extern.BytealgCompare.compare) (by kernel_rfl), Lib.run_compareString]
  simp only [Result.andThen]
  rw [Oper.upon_value]
  go_wp2
  go_ret
  exact ⟨rfl, rfl⟩
set_option maxRecDepth 1000000 in
theorem strCompare_any (a b : ByteArray) (w : World) : Calls Tryz.prog 124 #[.string a, .string b] w fun e w' => e = .returned (.int .i64 (Lib.compareBytes a.data.toList b.data.toList)) ∧ w' = w := by
  go_enter Tryz.func124, Tryz.ntmps124
  go_wp2_with (go_at_call 151; refine (cmpString_any _ _ _).mono ?_; rintro e w' ⟨rfl, rfl⟩)
  go_ret
  exact ⟨rfl, rfl⟩
set_option maxRecDepth 1000000 in
theorem isNaN_any (x : Int) (w : World) : Calls Tryz.prog 150 #[.int .i64 x] w fun e w' => e = .returned (.bool false) ∧ w' = w := by
  have g0 : (x != x) = false := by simp
  go_enter Tryz.func150, Tryz.ntmps150
  go_wp2_with fail
  go_ret
  exact ⟨rfl, rfl⟩
set_option maxRecDepth 1000000 in
theorem cmpInt_any (x y : Int) (w : World) (h : x ≠ y) : Calls Tryz.prog 123 #[.int .i64 x, .int .i64 y] w fun e w' => e = .returned (.int .i64 (if x < y then -1 else 1)) ∧ w' = w := by
  go_enter Tryz.func123, Tryz.ntmps123
  by_cases hlt : x < y
  · rw [if_pos hlt]
    go_wp2_with (go_at_call 150; refine (isNaN_any _ _).mono ?_; rintro e w' ⟨rfl, rfl⟩)
    go_ret
    exact ⟨rfl, rfl⟩
  · have h2 : y < x := by omega
    rw [if_neg hlt]
    go_wp2_with (go_at_call 150; refine (isNaN_any _ _).mono ?_; rintro e w' ⟨rfl, rfl⟩)
    go_ret
    exact ⟨rfl, rfl⟩
set_option maxRecDepth 1000000 in
theorem against_any (s t : ByteArray) (w : World) : Calls Tryz.prog 91 #[.string s, .string t] w fun e w' => e = .returned (.int .i64 (agn s t)) ∧ w' = w := by
  unfold agn
  go_enter Tryz.func91, Tryz.ntmps91
  by_cases h : s.size = t.size
  · rw [if_pos h]
    have g0 : ((s.size : Int) != (t.size : Int)) = false := by rw [nat_ne]; simp [h]
    clear h
    go_wp2_with (go_at_call 124; refine (strCompare_any _ _ _).mono ?_; rintro e w' ⟨rfl, rfl⟩)
    go_ret
    exact ⟨rfl, rfl⟩
  · rw [if_neg h]
    have g0 : ((s.size : Int) != (t.size : Int)) = true := by rw [nat_ne]; simp [h]
    have HC := hide (cmpInt_any (s.size : Int) (t.size : Int) w (by omega))
    have HE : Hid ((if (s.size : Int) < (t.size : Int) then (-1 : Int) else 1) = if s.size < t.size then -1 else 1) := by
      show _ = _
      by_cases h2 : s.size < t.size
      · rw [if_pos h2, if_pos (by omega)]
      · rw [if_neg h2, if_neg (by omega)]
    rw [HE.out] at HC
    clear h HE
    generalize (if s.size < t.size then (-1 : Int) else 1) = R at *
    go_wp2_with (go_at_call 123; refine HC.out.mono ?_; rintro e w' ⟨rfl, rfl⟩)
    go_ret
    exact ⟨rfl, rfl⟩
end
end Go.Proofs.YtjlknnpgngaooaaGreatDoor
