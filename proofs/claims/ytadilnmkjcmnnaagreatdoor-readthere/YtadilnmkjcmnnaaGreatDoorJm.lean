import Derived.Test.YtadilnmkjcmnnaaGreatDoorJl
import Derived.Test.YtadilnmkjcmnnaaGreatDoorJh
import Derived.Test.YtadilnmkjcmnnaaGreatDoorJj
import Derived.Test.YtadilnmkjcmnnaaGreatDoorJk
import Derived.Maps.AppendAt
import Derived.Lib.AppendStr
import Derived.Test.YtadilnmkjcmnnaaGreatDoorJi
import Derived.Lib.Bytealg
namespace Go.Proofs.YtadilnmkjcmnnaaGreatDoor
section
open Go.RowKit Go
/-- A row of texts that lies in blocks of its own reads as these texts, whatever became of the rest. -/
theorem SSl.own {w : World} {base n : Nat} {v : Value} {ks : List ByteArray} (h : w.ownsRow base 9 1 v n (sv ks)) (hn : n = ks.length) (hm : ks.length ≤ 140737488351232) (hs : ∀ s ∈ ks, s.size ≤ 140737488351232) : SSl w v ks := by
  subst hn
  rcases id h.2 with ⟨hv, he⟩ | ⟨g, cap, cur, hv, _, _, h1, _⟩
  · subst hv
    have e : ks = [] := List.length_eq_zero_iff.1 he
    subst e
    exact ⟨⟨none, 0, rfl, ⟨by simp, fun _ => rfl⟩, .inl rfl⟩, hm, hs⟩
  · subst hv
    refine ⟨⟨_, cap, rfl, ⟨by omega, fun h => by cases h⟩, .inr ⟨g, 0, rfl, fun j s hj => ?_⟩⟩, hm, hs⟩
    rw [Nat.zero_add]
    exact (own_cell h (sv_get hj)).1
end
section
open Go.RowKit Go
/-- A value in new memory: each of its rows lies in blocks of its own from lo on and below hi. -/
inductive Ntv (w : World) (lo hi : Nat) : Tv → Array Value → Prop
  | mk (t : Tv) (vy vk vi : Value) (L : List (Array Value)) (hbd : Tbd t) (hyb : ∀ x ∈ t.y, x < 256) (hy : w.ownsRow lo 5 1 vy t.y.length (bv t.y)) (hgy : ∀ q, vy.ownBlock = some q → q < hi) (hk : w.ownsRow lo 9 1 vk t.ks.length (sv t.ks)) (hgk : ∀ q, vk.ownBlock = some q → q < hi) (hkl : t.ks.length ≤ 140737488351232) (hks : ∀ s ∈ t.ks, s.size ≤ 140737488351232)
      (hv : w.ownsRow lo 62 13 vi t.is.length (vfl L)) (hgi : ∀ q, vi.ownBlock = some q → q < hi) (hil : t.is.length ≤ 140737488351232) (hL : L.length = t.is.length) (h13 : ∀ c ∈ L, c.size = 13) (hcs : ∀ (i : Nat) (u : Tv) (c : Array Value), t.is[i]? = some u → L[i]? = some c → Ntv w lo hi u c) :
      Ntv w lo hi t (vcs t vy vk vi)
theorem own_one1 {w : World} {B e s n : Nat} {v : Value} {xs : List Value} (h : w.ownsRow B e s v n xs) : v.oneCell' = true := by
  rcases h.2 with ⟨e, _⟩ | ⟨g, c, cur, e, _⟩ <;> (rw [e]; rfl)
theorem Ntv.size {w : World} {lo hi : Nat} {t : Tv} {c : Array Value} (h : Ntv w lo hi t c) : c.size = 13 := by
  cases h
  rfl
theorem Ntv.one {w : World} {lo hi : Nat} {t : Tv} {c : Array Value} (h : Ntv w lo hi t c) : one13 c := by
  cases h with
  | mk _ vy vk vi L hbd hyb hy hgy hk hgk hkl hks hv hgi hil hL h13 hcs =>
  refine ⟨rfl, fun u hu => ?_⟩
  simp only [vcs, List.mem_cons, List.not_mem_nil, or_false] at hu
  rcases hu with rfl | rfl | rfl | rfl | rfl | rfl | rfl | rfl | rfl | rfl | rfl | rfl | rfl <;> first | rfl | exact own_one1 hy | exact own_one1 hk | exact own_one1 hv
theorem Ntv.kp {w w' : World} {lo hi : Nat} {t : Tv} {c : Array Value} {S : Nat → Prop} (h : Ntv w lo hi t c) (hk : Kp S w w') (hs : ∀ q, lo ≤ q → q < hi → ¬ S q) : Ntv w' lo hi t c := by
  induction h with
  | mk t vy vk vi L hbd hyb hy hgy hkk hgk hkl hks hv hgi hil hL h13 _ ih =>
    exact Ntv.mk t vy vk vi L hbd hyb (hk.owns hy (fun q hq => hs q (hy.lt q hq).1 (hgy q hq))) hgy (hk.owns hkk (fun q hq => hs q (hkk.lt q hq).1 (hgk q hq))) hgk hkl hks (hk.owns hv (fun q hq => hs q (hv.lt q hq).1 (hgi q hq))) hgi hil hL h13 ih
theorem Ntv.kept {w w' : World} {lo hi : Nat} {t : Tv} {c : Array Value} (h : Ntv w lo hi t c) (hb : Below w.heap.size w w') : Ntv w' lo hi t c := h.kp (Kp.of_below (S := fun _ => False) hb) (fun _ _ _ h => h)
theorem Ntv.mono {w : World} {lo hi lo' hi' : Nat} {t : Tv} {c : Array Value} (h : Ntv w lo hi t c) (h1 : lo' ≤ lo) (h2 : hi ≤ hi') : Ntv w lo' hi' t c := by
  induction h with
  | mk t vy vk vi L hbd hyb hy hgy hkk hgk hkl hks hv hgi hil hL h13 _ ih =>
    exact Ntv.mk t vy vk vi L hbd hyb (own_mono hy h1) (fun q hq => Nat.lt_of_lt_of_le (hgy q hq) h2) (own_mono hkk h1) (fun q hq => Nat.lt_of_lt_of_le (hgk q hq) h2) hkl hks (own_mono hv h1) (fun q hq => Nat.lt_of_lt_of_le (hgi q hq) h2) hil hL h13 ih
theorem Ntv.tin {w : World} {lo hi : Nat} {t : Tv} {c : Array Value} (h : Ntv w lo hi t c) : Tin w t c := by
  induction h with
  | mk t vy vk vi L hbd hyb hy hgy hkk hgk hkl hks hv hgi hil hL h13 _ ih =>
    refine Tin.of (BSl.own hy hyb) (SSl.own hkk rfl hkl hks) ?_ hbd
    rcases id hv.2 with ⟨e, h0⟩ | ⟨g, cap, cur, e, _, _, h1, _⟩
    · subst e
      have e2 : t.is = [] := List.length_eq_zero_iff.1 h0
      refine ⟨⟨none, 0, by rw [h0], ⟨by omega, fun _ => rfl⟩, .inl e2⟩, hil⟩
    · subst e
      refine ⟨⟨_, cap, rfl, ⟨by omega, fun h => by cases h⟩, .inr ⟨g, 0, rfl, fun i u hu => ?_⟩⟩, hil⟩
      have hil2 := (List.getElem?_eq_some_iff.1 hu).1
      have hc : L[i]? = some (L[i]'(by omega)) := List.getElem?_eq_getElem (by omega)
      refine ⟨_, ih i u _ hu hc, fun j v hj => ?_⟩
      rw [Nat.zero_add]
      exact own_val hv h13 hc j v hj
end
section
open Go.RowKit Go
/-- What LendValues has in hand. -/
structure Lvi (w : World) (B : Nat) (wx : World) (v : Value) (L : List (Array Value)) (is : List Tv) : Prop where
  o : wx.ownsRow B 62 13 v L.length (vfl L)
  s : ∀ c ∈ L, c.size = 13
  b : Below B w wx
  z : B ≤ wx.heap.size
  i : ∀ (j : Nat) (u : Tv) (c : Array Value), is[j]? = some u → L[j]? = some c → ∃ lo hi, B ≤ lo ∧ hi ≤ wx.heap.size ∧ (∀ q, v.ownBlock = some q → q < lo ∨ hi ≤ q) ∧ Ltv wx lo hi u c
theorem Lvi.next {w : World} {B : Nat} {wx wy : World} {v : Value} {L : List (Array Value)} {is : List Tv} (h : Lvi w B wx v L is) (hb : Below wx.heap.size wx wy) : Lvi w B wy v L is :=
  ⟨(Kp.of_below (S := fun _ => False) hb).owns h.o (fun _ _ hf => hf), h.s, h.b.trans (hb.mono h.z), Nat.le_trans h.z hb.size, fun j u c h1 h2 => by
    obtain ⟨lo, hi, e1, e2, e3, e4⟩ := h.i j u c h1 h2
    exact ⟨lo, hi, e1, Nat.le_trans e2 hb.size, e3, e4.kept hb⟩⟩
theorem tmuchL_mem : ∀ {l : List Tv} {t : Tv}, t ∈ l → tmuch t ≤ tmuchL l
  | [], _, h => by cases h
  | u :: r, t, h => by
    rw [tmuchL]
    rcases List.mem_cons.1 h with h | h
    · subst h
      omega
    · have := tmuchL_mem h
      omega
theorem tmuchL_len : ∀ l : List Tv, l.length ≤ tmuchL l
  | [] => by simp
  | u :: r => by
    have := tmuchL_len r
    have := tmuch_eq u
    rw [tmuchL, List.length_cons]
    omega
end
section
open Go.RowKit Go
/-- What LendValue has in hand: its argument's block, the result's, the copy's. -/
structure Lw (w wx : World) (c0 c2 : Array Value) : Prop where
  a : wx.heap[w.heap.size]? = some (.cells c0 62 (0, 0))
  r : wx.heap[w.heap.size + 1]? = some (.cells zv 62 (0, 0))
  x : wx.heap[w.heap.size + 1 + 1]? = some (.cells c2 62 (0, 0))
  b : Below w.heap.size w wx
theorem Lw.next {w wx wy : World} {c0 c2 : Array Value} (h : Lw w wx c0 c2) (hb : Below wx.heap.size wx wy) : Lw w wy c0 c2 :=
  ⟨(hb.block _ (blk_lt h.a)).trans h.a, (hb.block _ (blk_lt h.r)).trans h.r, (hb.block _ (blk_lt h.x)).trans h.x, h.b.trans (hb.mono h.b.size)⟩
theorem Lw.set {w wx : World} {c0 c2 : Array Value} (h : Lw w wx c0 c2) (j : Nat) (v : Value) : Lw w (wx.setCell ⟨w.heap.size + 1 + 1, j, none⟩ v) c0 (c2.setIfInBounds j v) ∧ Kp (fun q => q = w.heap.size + 1 + 1) wx (wx.setCell ⟨w.heap.size + 1 + 1, j, none⟩ v) := by
  have hk : Kp (fun q => q = w.heap.size + 1 + 1) wx (wx.setCell ⟨w.heap.size + 1 + 1, j, none⟩ v) := (Kp.refl _ _).setCell _ _ (fun _ => rfl)
  exact ⟨⟨blk_other j v h.a (by omega), blk_other j v h.r (by omega), blk_set j v h.x, h.b.trans (hk.below h.b.size (fun q e => by omega))⟩, hk⟩
theorem setv (t : Tv) (vy vk vi x : Value) : (vcs t vy vk vi).setIfInBounds 6 x = vcs t x vk vi ∧ (vcs t vy vk vi).setIfInBounds 11 x = vcs t vy x vi ∧ (vcs t vy vk vi).setIfInBounds 12 x = vcs t vy vk x := ⟨rfl, rfl, rfl⟩
end
section
open Go.RowKit Go
theorem Tin.all1 {w : World} {t : Tv} {c : Array Value} (h : Tin w t c) : c.all (·.oneCell') = true := by
  obtain ⟨vy, vk, vi, rfl, hy, hk, hv, _⟩ := h.parts
  obtain ⟨⟨ay, cy, rfl, _, _⟩, _⟩ := hy
  obtain ⟨⟨ak, ck, rfl, _, _⟩, _, _⟩ := hk
  obtain ⟨⟨ai, ci, rfl, _, _⟩, _⟩ := hv
  kernel_rfl
theorem Tin.size13 {w : World} {t : Tv} {c : Array Value} (h : Tin w t c) : c.size = 13 := by
  obtain ⟨vy, vk, vi, rfl, _⟩ := h.parts
  rfl
/-- A range's item in a variable of its own. -/
structure Itm (w wi : World) (c : Array Value) : Prop where
  b : Below w.heap.size w wi
  r : wi.heap[w.heap.size]? = some (.cells c 62 (0, 0))
  z : wi.heap.size = w.heap.size + 1
theorem itm_mk (w : World) (c : Array Value) : Itm w ((w.alloc (.cells zv 62)).setRow w.heap.size c) c := by
  have h0 := heap_alloc_new w (.cells zv 62)
  have hk := row_kp (w.alloc (.cells zv 62)) w.heap.size c
  refine ⟨(below_alloc4 w _).trans (hk.below (by simp) (fun q e => by omega)), row_same h0, ?_⟩
  simp [World.setRow]
theorem Itm.cells {w wi : World} {c : Array Value} (h : Itm w wi c) : ∀ j u, c[j]? = some u → wi.cell? ⟨w.heap.size, 0 + j, none⟩ = some u := fun j u hu => by
  rw [Nat.zero_add]
  exact blk_cell h.r hu

set_option maxRecDepth 1000000 in
set_option maxHeartbeats 1000000 in
theorem nests_any (t : Tv) (w : World) (cs : Array Value) (ht : Tin w t cs) : Calls Tryz.prog 35 #[.agg cs] w fun e w' => e = .returned (.bool (decide (t.k = 8 ∨ t.k = 9))) ∧ Below w.heap.size w w' := by
  obtain ⟨vy, vk, vi, rfl, hy, hk, hv, hb⟩ := ht.parts
  obtain ⟨⟨ay, cy, rfl, _, _⟩, _⟩ := hy
  obtain ⟨⟨ak, ck, rfl, _, _⟩, _, _⟩ := hk
  obtain ⟨⟨ai, ci, rfl, _, _⟩, _⟩ := hv
  clear ht hb
  unfold vcs
  have HB0 := hide (below_alloc4 w (.cells #[.int .i64 t.k, .bool t.f, .bool t.g, .int .u64 (t.n : Nat), .int .u64 (t.b : Nat), .string t.s, .slice ay t.y.length cy, .int .i64 t.l.v, .int .u64 (t.l.c : Nat), .int .u64 (t.l.h : Nat), .string (nstr t.l.d), .slice ak t.ks.length ck, .slice ai t.is.length ci] 62))
  go_enter Tryz.func35, Tryz.ntmps35
  by_cases h8 : t.k = 8
  · as_aux_lemma =>
    have g8 : (t.k == 8) = true := by rw [h8]; rfl
    have HR : Hid (decide (t.k = 8 ∨ t.k = 9) = true) := decide_eq_true (.inl h8)
    clear h8
    go_wp2_with fail
    go_ret
    exact ⟨by rw [HR.out]; rfl, HB0.out⟩
  · have g8 : (t.k == 8) = false := by simpa using h8
    by_cases h9 : t.k = 9
    · as_aux_lemma =>
      have g9 : (t.k == 9) = true := by rw [h9]; rfl
      have HR : Hid (decide (t.k = 8 ∨ t.k = 9) = true) := decide_eq_true (.inr h9)
      clear h8 h9
      go_wp2_with fail
      go_ret
      exact ⟨by rw [HR.out]; rfl, HB0.out⟩
    · as_aux_lemma =>
      have g9 : (t.k == 9) = false := by simpa using h9
      have HR : Hid (decide (t.k = 8 ∨ t.k = 9) = false) := decide_eq_false (fun h => h.elim h8 h9)
      clear h8 h9
      go_wp2_with fail
      go_ret
      exact ⟨by rw [HR.out]; rfl, HB0.out⟩
end
section
open Go.RowKit Go
theorem cell_lt6 {w : World} {a : Addr} {v : Value} (h : w.cell? a = some v) : a.block < w.heap.size := by
  rcases Nat.lt_or_ge a.block w.heap.size with h1 | h1
  · exact h1
  · unfold World.cell? at h
    rw [Array.getElem?_eq_none h1] at h
    cases h
/-! A value in memory that does not lie in a set of blocks. -/
inductive Tis (w : World) (S : Nat → Prop) : Tv → Array Value → Prop
  | mk (t : Tv) (vy vk vi : Value) (hb : Tbd t) (hy : BSl w vy t.y) (hys : t.y ≠ [] → ∀ q, vy.ownBlock = some q → ¬ S q) (hk : SSl w vk t.ks) (hks : t.ks ≠ [] → ∀ q, vk.ownBlock = some q → ¬ S q)
      (cs : Nat → Array Value) (a : Option Addr) (cap : Nat) (hv : vi = .slice a t.is.length cap) (hc : t.is.length ≤ cap ∧ (a = none → cap = 0)) (hm : t.is.length ≤ 140737488351232) (hi : ∀ i u, t.is[i]? = some u → Tis w S u (cs i))
      (ha : t.is = [] ∨ ∃ b off, a = some ⟨b, off, none⟩ ∧ ¬ S b ∧ ∀ i, i < t.is.length → ∀ j u, (cs i)[j]? = some u → w.cell? ⟨b, off + i * 13 + j, none⟩ = some u) : Tis w S t (vcs t vy vk vi)
theorem Tis.tin {w : World} {S : Nat → Prop} {t : Tv} {c : Array Value} (h : Tis w S t c) : Tin w t c := by
  induction h with
  | mk t vy vk vi hb hy hys hk hks cs a cap hv hc hm hi ha ih =>
    subst hv
    refine Tin.mk t vy vk a cap cs hb.n hb.b hb.s hy hb.y hb.l hb.d hk hc hm ih ?_
    rcases ha with ha | ⟨b, off, e, _, ha⟩
    · exact .inl ha
    · exact .inr ⟨b, off, e, ha⟩
theorem bsl_nil6 {w w' : World} {v : Value} (h : BSl w v []) : BSl w' v [] := by
  obtain ⟨⟨a, c, hv, hn, hc⟩, h1, h2⟩ := h
  exact ⟨⟨a, c, hv, hn, .inl rfl⟩, h1, h2⟩
theorem ssl_nil6 {w w' : World} {v : Value} (h : SSl w v []) : SSl w' v [] := by
  obtain ⟨⟨a, c, hv, hn, hc⟩, h1, h2⟩ := h
  exact ⟨⟨a, c, hv, hn, .inl rfl⟩, h1, h2⟩
theorem Kp.ssl {S : Nat → Prop} {w w' : World} (h : Kp S w w') {v : Value} {ks : List ByteArray} (hb : SSl w v ks) (hs : ∀ k, v.ownBlock = some k → ¬ S k) : SSl w' v ks := by
  obtain ⟨⟨a, c, hv, hn, hc⟩, h1, h2⟩ := hb
  refine ⟨⟨a, c, hv, hn, ?_⟩, h1, h2⟩
  rcases hc with hc | ⟨b, off, ha, hc⟩
  · exact .inl hc
  · refine .inr ⟨b, off, ha, fun j s hj => h.cell (hc j s hj) (hs b ?_)⟩
    rw [hv, ha]
    rfl
theorem Tis.kp {w w' : World} {S : Nat → Prop} {t : Tv} {c : Array Value} (h : Tis w S t c) (hk : Kp S w w') : Tis w' S t c := by
  induction h with
  | mk t vy vk vi hb hy hys hkk hks cs a cap hv hc hm hi ha ih =>
    refine Tis.mk t vy vk vi hb ?_ hys ?_ hks cs a cap hv hc hm ih ?_
    · by_cases e : t.y = []
      · rw [e] at hy ⊢
        exact bsl_nil6 hy
      · exact hk.bsl hy (hys e)
    · by_cases e : t.ks = []
      · rw [e] at hkk ⊢
        exact ssl_nil6 hkk
      · exact hk.ssl hkk (hks e)
    · rcases ha with ha | ⟨b, off, e, hs, ha⟩
      · exact .inl ha
      · exact .inr ⟨b, off, e, hs, fun i hi j u hu => hk.cell (ha i hi j u hu) hs⟩
theorem Tis.mono {w : World} {S T : Nat → Prop} {t : Tv} {c : Array Value} (h : Tis w S t c) (hs : ∀ q, T q → S q) : Tis w T t c := by
  induction h with
  | mk t vy vk vi hb hy hys hk hks cs a cap hv hc hm hi ha ih =>
    refine Tis.mk t vy vk vi hb hy (fun e q hq h => hys e q hq (hs q h)) hk (fun e q hq h => hks e q hq (hs q h)) cs a cap hv hc hm ih ?_
    rcases ha with ha | ⟨b, off, e, h1, ha⟩
    · exact .inl ha
    · exact .inr ⟨b, off, e, fun h => h1 (hs b h), ha⟩
theorem Tis.of_tin {w : World} {S : Nat → Prop} {t : Tv} {c : Array Value} (h : Tin w t c) (hs : ∀ q, S q → w.heap.size ≤ q) : Tis w S t c := by
  induction h with
  | mk t vy vk a cap cs hn hb hsz hy hyl hl hld hk hc hm hi ha ih =>
    refine Tis.mk t vy vk _ ⟨hn, hb, hsz, hyl, hl, hld⟩ hy ?_ hk ?_ cs a cap rfl hc hm ih ?_
    · intro e q hq h
      obtain ⟨⟨a', c', hv, _, hcc⟩, _, _⟩ := hy
      obtain ⟨b, off, ha', hcd⟩ := hcc.resolve_left e
      subst hv
      subst ha'
      have e3 : b = q := by simpa [Value.ownBlock] using hq
      subst e3
      have hl : 0 < t.y.length := List.length_pos_iff.2 e
      have h1 := cell_lt6 (hcd 0 hl)
      have := hs _ h
      simp only at h1
      omega
    · intro e q hq h
      obtain ⟨⟨a', c', hv, _, hcc⟩, _, _⟩ := hk
      obtain ⟨b, off, ha', hcd⟩ := hcc.resolve_left e
      subst hv
      subst ha'
      have e3 : b = q := by simpa [Value.ownBlock] using hq
      subst e3
      obtain ⟨s, hs0⟩ : ∃ s, t.ks[0]? = some s := by
        cases hks : t.ks with
        | nil => exact absurd hks e
        | cons s r => exact ⟨s, rfl⟩
      have h1 := cell_lt6 (hcd 0 s hs0)
      have := hs _ h
      simp only at h1
      omega
    · rcases ha with ha | ⟨b, off, e, ha⟩
      · exact .inl ha
      · by_cases e2 : t.is = []
        · exact .inl e2
        · refine .inr ⟨b, off, e, fun h => ?_, ha⟩
          have hl : 0 < t.is.length := List.length_pos_iff.2 e2
          have hz := (hi 0 _ (List.getElem?_eq_getElem hl)).size13
          have h1 := cell_lt6 (ha 0 hl 0 ((cs 0)[0]'(by omega)) (Array.getElem?_eq_getElem (by omega)))
          have := hs _ h
          simp only at h1
          omega
/-- Nor does it lie in what is made later. -/
theorem Tis.widen {w : World} {S : Nat → Prop} {t : Tv} {c : Array Value} (h : Tis w S t c) : Tis w (fun q => S q ∨ w.heap.size ≤ q) t c := by
  induction h with
  | mk t vy vk vi hb hy hys hk hks cs a cap hv hc hm hi ha ih =>
    have hi2 := hi
    refine Tis.mk t vy vk vi hb hy ?_ hk ?_ cs a cap hv hc hm ih ?_
    · intro e q hq h
      rcases h with h | h
      · exact hys e q hq h
      · obtain ⟨⟨a', c', hv', _, hcc⟩, _, _⟩ := hy
        obtain ⟨b, off, ha', hcd⟩ := hcc.resolve_left e
        subst hv'
        subst ha'
        have e3 : b = q := by simpa [Value.ownBlock] using hq
        subst e3
        have hl : 0 < t.y.length := List.length_pos_iff.2 e
        have h1 := cell_lt6 (hcd 0 hl)
        simp only at h1
        omega
    · intro e q hq h
      rcases h with h | h
      · exact hks e q hq h
      · obtain ⟨⟨a', c', hv', _, hcc⟩, _, _⟩ := hk
        obtain ⟨b, off, ha', hcd⟩ := hcc.resolve_left e
        subst hv'
        subst ha'
        have e3 : b = q := by simpa [Value.ownBlock] using hq
        subst e3
        obtain ⟨s, hs0⟩ : ∃ s, t.ks[0]? = some s := by
          cases hks' : t.ks with
          | nil => exact absurd hks' e
          | cons s r => exact ⟨s, rfl⟩
        have h1 := cell_lt6 (hcd 0 s hs0)
        simp only at h1
        omega
    · rcases ha with ha | ⟨b, off, e, hs, ha⟩
      · exact .inl ha
      · by_cases e2 : t.is = []
        · exact .inl e2
        · refine .inr ⟨b, off, e, fun h => ?_, ha⟩
          rcases h with h | h
          · exact hs h
          · have hl : 0 < t.is.length := List.length_pos_iff.2 e2
            have hz := (hi2 0 _ (List.getElem?_eq_getElem hl)).tin.size13
            have h1 := cell_lt6 (ha 0 hl 0 ((cs 0)[0]'(by omega)) (Array.getElem?_eq_getElem (by omega)))
            simp only at h1
            omega
end
section
open Go.RowKit Go
/-! ### The parts of a form, plainly -/
inductive Prt where
  | null
  | truth (b : Bool)
  | whole (g : Bool) (n : Nat)
  | float (b : Nat)
  | text (s : ByteArray)
  | octets (y : List Nat)
  | name (y : List Nat)
  | list (is : List Tv)
  | entries (ks : List ByteArray) (is : List Tv)
def prt (t : Tv) : Prt :=
  if t.k = 2 then .truth t.f else if t.k = 3 then .whole t.g t.n else if t.k = 4 then .float t.b else if t.k = 5 then .text t.s else if t.k = 6 then .octets t.y
  else if t.k = 7 then .name (0 :: lrow t.l) else if t.k = 8 then .list t.is else if t.k = 9 then .entries t.ks t.is else .null
/-- A part's own bytes. -/
def pfm : Prt → List Nat
  | .null => [246]
  | .truth b => [if b = true then 245 else 244]
  | .whole g n => hl (if g = true then 1 else 0) n
  | .float b => 251 :: be 8 b
  | .text s => kfm s
  | .octets y => hl 2 y.length ++ y
  | .name y => hl 6 42 ++ (hl 2 y.length ++ y)
  | .list is => hl 4 is.length
  | .entries ks _ => hl 5 ks.length
/-- Those below it. -/
def pbl : Prt → List Prt
  | .list is => is.map prt
  | .entries ks is => (ks.zip is).flatMap fun x => [.text x.1, prt x.2]
  | _ => []
/-- Its bytes with those below. -/
def pall : Prt → List Nat
  | .list is => hl 4 is.length ++ tfmL is
  | .entries ks is => hl 5 ks.length ++ tfmK ks is
  | p => pfm p
/-- A tree of which parts are made: kinds that are, links that may be, as many keys as items. -/
inductive Ptr : Tv → Prop
  | mk (t : Tv) (hk : 1 ≤ t.k ∧ t.k ≤ 9) (h7 : t.k = 7 → lok t.l) (h9 : t.k = 9 → t.ks.length = t.is.length) (hi : ∀ u ∈ t.is, Ptr u) : Ptr t
theorem Ptr.i {t : Tv} (h : Ptr t) : ∀ u ∈ t.is, Ptr u := by
  cases h with
  | mk _ a b c d => exact d
theorem lrow_ok {l : Lk} (h : lok l) : lrow l = lbytes l := by
  unfold lrow
  rw [if_pos h]
theorem pall_prt {t : Tv} (h : Ptr t) : pall (prt t) = tfm t := by
  cases h with
  | mk _ hk h7 h9 hi =>
    obtain ⟨k, f, g, n, b, s, y, l, ks, is⟩ := t
    simp only [Tv.k, Tv.l, Tv.ks, Tv.is] at hk h7 h9
    have hc : k = 1 ∨ k = 2 ∨ k = 3 ∨ k = 4 ∨ k = 5 ∨ k = 6 ∨ k = 7 ∨ k = 8 ∨ k = 9 := by omega
    unfold prt tfm
    simp only [Tv.k, Tv.f, Tv.g, Tv.n, Tv.b, Tv.s, Tv.y, Tv.l, Tv.ks, Tv.is]
    rcases hc with rfl | rfl | rfl | rfl | rfl | rfl | rfl | rfl | rfl
    · rfl
    · rfl
    · rfl
    · rfl
    · rfl
    · rfl
    · rw [lrow_ok (h7 rfl)]
      simp [pall, pfm, Nat.add_comm]
    · rfl
    · simp [pall, h9 rfl]
/-- How many bytes a part has by itself. -/
def psz : Prt → Nat
  | .null => 1
  | .truth _ => 1
  | .whole _ n => hsize n
  | .float _ => 9
  | .text s => hsize s.size + s.size
  | .octets y => hsize y.length + y.length
  | .name y => hsize 42 + (hsize y.length + y.length)
  | .list is => hsize is.length
  | .entries ks _ => hsize ks.length
theorem hl_len7 (m n : Nat) : (hl m n).length = hsize n := by
  unfold hl hsize
  rw [List.length_cons, be_len]
  omega
theorem sl_len7 (s : ByteArray) : (sl s).length = s.size := by
  unfold sl
  simp
theorem psz_len (p : Prt) : (pfm p).length = psz p := by
  cases p with
  | null => rfl
  | truth b => rfl
  | whole g n => exact hl_len7 _ _
  | float b => show (251 :: be 8 b).length = 9; rw [List.length_cons, be_len]
  | text s => show (kfm s).length = _; unfold kfm psz; rw [List.length_append, hl_len7, sl_len7]
  | octets y => show (hl 2 y.length ++ y).length = _; unfold psz; rw [List.length_append, hl_len7]
  | name y => show (hl 6 42 ++ (hl 2 y.length ++ y)).length = _; unfold psz; rw [List.length_append, List.length_append, hl_len7, hl_len7]
  | list is => exact hl_len7 _ _
  | entries ks is => exact hl_len7 _ _
end
section
open Go.RowKit Go
/-- How the one key stands to the other, by its sign. -/
def agn (s t : ByteArray) : Int := if s.size = t.size then Lib.compareBytes s.data.toList t.data.toList else if s.size < t.size then -1 else 1
theorem cmpB_blt : ∀ (x y : List UInt8), x.length = y.length → (Lib.compareBytes x y < 0 ↔ blt (x.map UInt8.toNat) (y.map UInt8.toNat) = true)
  | [], [], _ => by simp [Lib.compareBytes, blt]
  | [], _ :: _, h => by simp at h
  | _ :: _, [], h => by simp at h
  | a :: x, b :: y, h => by
    have ih := cmpB_blt x y (by simpa using h)
    simp only [Lib.compareBytes, List.map_cons, blt]
    by_cases h1 : a < b
    · have h2 : a.toNat < b.toNat := h1
      rw [if_pos h1, if_neg (by omega)]
      simp [h2]
    · rw [if_neg h1]
      by_cases h2 : b < a
      · have h3 : b.toNat < a.toNat := h2
        rw [if_pos h2, if_neg (by omega)]
        simp
        omega
      · have h3 : a.toNat = b.toNat := by
          have e1 : ¬ a.toNat < b.toNat := h1
          have e2 : ¬ b.toNat < a.toNat := h2
          omega
        rw [if_neg h2, if_pos h3]
        exact ih
theorem agn_bfr (s t : ByteArray) : agn s t < 0 ↔ bfr (sl s) (sl t) = true := by
  unfold agn bfr
  rw [sl_len, sl_len]
  by_cases h : s.size = t.size
  · rw [if_pos h, if_pos h]
    exact cmpB_blt _ _ (by rw [Array.length_toList, Array.length_toList]; exact h)
  · rw [if_neg h, if_neg h]
    by_cases h2 : s.size < t.size <;> simp [h2]
set_option maxRecDepth 1000000 in
theorem cmpString_any (a b : ByteArray) (w : World) : Calls Tryz.prog 148 #[.string a, .string b] w fun e w' => e = .returned (.int .i64 (Lib.compareBytes a.data.toList b.data.toList)) ∧ w' = w := by
  go_enter Tryz.func148, Tryz.ntmps148
  go_wp2
  rw [run_callFunc_extern Tryz.func170 (by kernel_rfl) (by kernel_rfl) (by kernel_rfl) (e := Extern.BytealgCompare.compare) (by kernel_rfl), Lib.run_compareString]
  simp only [Result.andThen]
  rw [Oper.upon_value]
  go_wp2
  go_ret
  exact ⟨rfl, rfl⟩
set_option maxRecDepth 1000000 in
theorem strCompare_any (a b : ByteArray) (w : World) : Calls Tryz.prog 120 #[.string a, .string b] w fun e w' => e = .returned (.int .i64 (Lib.compareBytes a.data.toList b.data.toList)) ∧ w' = w := by
  go_enter Tryz.func120, Tryz.ntmps120
  go_wp2_with (go_at_call 148; refine (cmpString_any _ _ _).mono ?_; rintro e w' ⟨rfl, rfl⟩)
  go_ret
  exact ⟨rfl, rfl⟩
set_option maxRecDepth 1000000 in
theorem isNaN_any (x : Int) (w : World) : Calls Tryz.prog 147 #[.int .i64 x] w fun e w' => e = .returned (.bool false) ∧ w' = w := by
  have g0 : (x != x) = false := by simp
  go_enter Tryz.func147, Tryz.ntmps147
  go_wp2_with fail
  go_ret
  exact ⟨rfl, rfl⟩
set_option maxRecDepth 1000000 in
theorem cmpInt_any (x y : Int) (w : World) (h : x ≠ y) : Calls Tryz.prog 119 #[.int .i64 x, .int .i64 y] w fun e w' => e = .returned (.int .i64 (if x < y then -1 else 1)) ∧ w' = w := by
  go_enter Tryz.func119, Tryz.ntmps119
  by_cases hlt : x < y
  · rw [if_pos hlt]
    go_wp2_with (go_at_call 147; refine (isNaN_any _ _).mono ?_; rintro e w' ⟨rfl, rfl⟩)
    go_ret
    exact ⟨rfl, rfl⟩
  · have h2 : y < x := by omega
    rw [if_neg hlt]
    go_wp2_with (go_at_call 147; refine (isNaN_any _ _).mono ?_; rintro e w' ⟨rfl, rfl⟩)
    go_ret
    exact ⟨rfl, rfl⟩
set_option maxRecDepth 1000000 in
theorem against_any (s t : ByteArray) (w : World) : Calls Tryz.prog 77 #[.string s, .string t] w fun e w' => e = .returned (.int .i64 (agn s t)) ∧ w' = w := by
  unfold agn
  go_enter Tryz.func77, Tryz.ntmps77
  by_cases h : s.size = t.size
  · rw [if_pos h]
    have g0 : ((s.size : Int) != (t.size : Int)) = false := by rw [nat_ne]; simp [h]
    clear h
    go_wp2_with (go_at_call 120; refine (strCompare_any _ _ _).mono ?_; rintro e w' ⟨rfl, rfl⟩)
    go_ret
    exact ⟨rfl, rfl⟩
  · rw [if_neg h]
    have g0 : ((s.size : Int) != (t.size : Int)) = true := by rw [nat_ne]; simp [h]
    have HC := hide (cmpInt_any (s.size : Int) (t.size : Int) w (by omega))
    have HE : Hid ((if (s.size : Int) < (t.size : Int) then (-1 : Int) else 1) = if s.size < t.size then -1 else 1) := by
      show _ = _
      by_cases h2 : s.size < t.size
      · rw [if_pos h2, if_pos (by omega)]
      · rw [if_neg h2, if_neg (by omega)]
    rw [HE.out] at HC
    clear h HE
    generalize (if s.size < t.size then (-1 : Int) else 1) = R at *
    go_wp2_with (go_at_call 119; refine HC.out.mono ?_; rintro e w' ⟨rfl, rfl⟩)
    go_ret
    exact ⟨rfl, rfl⟩
set_option maxRecDepth 1000000 in
theorem before_any (s t : ByteArray) (w : World) : Calls Tryz.prog 153 #[.string s, .string t] w fun e w' => e = .returned (.bool (bfr (sl s) (sl t))) ∧ w' = w := by
  have HA := hide (against_any s t w)
  have HE : Hid (decide (agn s t < 0) = bfr (sl s) (sl t)) := by
    show _ = _
    rw [Bool.eq_iff_iff, decide_eq_true_iff]
    exact agn_bfr s t
  go_enter Tryz.func153, Tryz.ntmps153
  go_wp2_with (go_at_call 77; refine HA.out.mono ?_; rintro e w' ⟨rfl, rfl⟩)
  go_ret
  exact ⟨by rw [← HE.out]; rfl, rfl⟩
end
end Go.Proofs.YtadilnmkjcmnnaaGreatDoor
