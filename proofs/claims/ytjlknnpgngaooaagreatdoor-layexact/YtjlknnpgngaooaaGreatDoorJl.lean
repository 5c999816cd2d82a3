import Derived.Test.YtjlknnpgngaooaaGreatDoorJj
import Derived.Test.YtjlknnpgngaooaaGreatDoorJk
import Derived.Test.YtjlknnpgngaooaaGreatDoorJe
import Derived.Test.YtjlknnpgngaooaaGreatDoorJc
import Derived.Test.YtjlknnpgngaooaaGreatDoorJa
import Derived.Test.YtjlknnpgngaooaaGreatDoorJg
import Derived.Test.YtjlknnpgngaooaaGreatDoorJd
import Derived.Test.YtjlknnpgngaooaaGreatDoorJb
import Derived.Test.YtjlknnpgngaooaaGreatDoorJh
import Derived.Test.YtjlknnpgngaooaaGreatDoorJi
import Derived.Test.YtjlknnpgngaooaaGreatDoorJf
namespace Go.Proofs.YtjlknnpgngaooaaGreatDoor
section
open Go.RowKit Go

end
section
open Go.RowKit Go

end
section
open Go.RowKit Go

end
section
open Go.RowKit Go

end
section
open Go.RowKit Go

end
section
open Go.RowKit Go

end
section
open Go.RowKit Go

end
section
open Go.RowKit Go

end
section
open Go.RowKit Go
/-! Sorted values once more: one sorted value, its depth, its links; values with maps' entries in another order. -/
theorem tv_ext {a b : Tv} (h : Top a b) (hk : a.ks = b.ks) (hi : a.is = b.is) : a = b := by
  obtain ⟨k, f, g, n, c, s, y, l, ks, is⟩ := a
  obtain ⟨k', f', g', n', c', s', y', l', ks', is'⟩ := b
  obtain ⟨h1, h2, h3, h4, h5, h6, h7, h8⟩ := h
  simp only [Tv.k, Tv.f, Tv.g, Tv.n, Tv.b, Tv.s, Tv.y, Tv.l, Tv.ks, Tv.is] at *
  subst h1 h2 h3 h4 h5 h6 h7 h8 hk hi
  rfl
theorem Top.both {t a b : Tv} (h : Top t a) (h' : Top t b) : Top a b := ⟨h'.k.trans h.k.symm, h'.f.trans h.f.symm, h'.g.trans h.g.symm, h'.n.trans h.n.symm, h'.b.trans h.b.symm, h'.s.trans h.s.symm, h'.y.trans h.y.symm, h'.l.trans h.l.symm⟩
/-- There is one sorted value. -/
theorem srt_one {t s : Tv} (h : SrtR t s) : ∀ {s' : Tv}, Trk t → SrtR t s' → s = s' := by
  induction h with
  | rest t s h9 hT hk hn hi ih =>
    intro s' ht h'
    cases h' with
    | map _ _ _ h9' => exact absurd h9' h9
    | rest _ _ _ hT' hk' hn' hi' =>
      refine tv_ext (hT.both hT') (hk.trans hk'.symm) (List.ext_getElem? fun i => ?_)
      by_cases hl : i < t.is.length
      · have e1 := List.getElem?_eq_getElem hl
        have e2 := List.getElem?_eq_getElem (show i < s.is.length by omega)
        have e3 := List.getElem?_eq_getElem (show i < s'.is.length by omega)
        rw [e2, e3, ih i _ _ e1 e2 (ht.i _ (List.getElem_mem hl)) (hi' i _ _ e1 e3)]
      · rw [List.getElem?_eq_none (by omega), List.getElem?_eq_none (by omega)]
  | map t s ps h9 hT hp hk hn hi ih =>
    intro s' ht h'
    cases h' with
    | rest _ _ h9' => exact absurd h9 h9'
    | map _ _ ps' _ hT' hp' hk' hn' hi' =>
      obtain ⟨hlen, hnd, _⟩ := ht.m h9
      have e := srp_one hnd (by omega) hp hp'
      subst e
      refine tv_ext (hT.both hT') (hk.trans hk'.symm) (List.ext_getElem? fun i => ?_)
      by_cases hl : i < ps.length
      · have e0 := List.getElem?_eq_getElem hl
        have hpl := hp.lt ps[i] (List.getElem_mem hl)
        have e1 := List.getElem?_eq_getElem (show ps[i] < t.is.length by omega)
        have e2 := List.getElem?_eq_getElem (show i < s.is.length by omega)
        have e3 := List.getElem?_eq_getElem (show i < s'.is.length by omega)
        rw [e2, e3, ih i _ _ _ e0 e1 e2 (ht.i _ (List.getElem_mem _)) (hi' i _ _ _ e0 e1 e3)]
      · rw [List.getElem?_eq_none (by omega), List.getElem?_eq_none (by omega)]
theorem depthL_le {l : List Tv} {N : Nat} : tdepthL l ≤ N ↔ ∀ (i : Nat) (u : Tv), l[i]? = some u → tdepth u ≤ N := by
  induction l with
  | nil => simp [tdepthL]
  | cons a r ih =>
    rw [tdepthL, Nat.max_le, ih]
    constructor
    · rintro ⟨h1, h2⟩ i u hu
      rcases i with _ | i
      · simp at hu
        rw [← hu]
        exact h1
      · exact h2 i u (by simpa using hu)
    · intro h
      exact ⟨h 0 a rfl, fun i u hu => h (i + 1) u (by simpa using hu)⟩
theorem depth_eq (t : Tv) : tdepth t = if t.k = 8 ∨ t.k = 9 then tdepthL t.is + 1 else 0 := by
  obtain ⟨k, f, g, n, b, s, y, l, ks, is⟩ := t
  rw [tdepth]
  rfl
theorem eq_of_le {a b : Nat} (h : ∀ N, a ≤ N ↔ b ≤ N) : a = b := Nat.le_antisymm ((h b).2 (Nat.le_refl _)) ((h a).1 (Nat.le_refl _))
theorem perm_at {n : Nat} {ps : List Nat} (h : ps.Perm (List.range n)) {p : Nat} (hp : p < n) : ∃ i : Nat, ps[i]? = some p := by
  have h1 : p ∈ ps := h.mem_iff.2 (by simpa using hp)
  exact List.getElem?_of_mem h1
theorem perm_len {n : Nat} {ps : List Nat} (h : ps.Perm (List.range n)) : ps.length = n := by rw [h.length_eq, List.length_range]
theorem perm_lt {n : Nat} {ps : List Nat} (h : ps.Perm (List.range n)) {i p : Nat} (hp : ps[i]? = some p) : p < n := by simpa using h.mem_iff.1 (List.mem_of_getElem? hp)
theorem srt_depth {t s : Tv} (h : SrtR t s) : Trk t → tdepth s = tdepth t := by
  induction h with
  | rest t s h9 hT hk hn hi ih =>
    intro ht
    rw [depth_eq, depth_eq, hT.k]
    have e : tdepthL s.is = tdepthL t.is := by
      refine eq_of_le fun N => ?_
      rw [depthL_le, depthL_le]
      constructor
      · intro h i u hu
        have hl := (List.getElem?_eq_some_iff.1 hu).1
        have e2 := List.getElem?_eq_getElem (show i < s.is.length by omega)
        rw [← ih i _ _ hu e2 (ht.i _ (List.mem_of_getElem? hu))]
        exact h i _ e2
      · intro h i v hv
        have hl := (List.getElem?_eq_some_iff.1 hv).1
        have e2 := List.getElem?_eq_getElem (show i < t.is.length by omega)
        rw [ih i _ _ e2 hv (ht.i _ (List.mem_of_getElem? e2))]
        exact h i _ e2
    rw [e]
  | map t s ps h9 hT hp hk hn hi ih =>
    intro ht
    obtain ⟨hlen, _⟩ := ht.m h9
    have hpl := hp.len
    rw [depth_eq, depth_eq, hT.k]
    have e : tdepthL s.is = tdepthL t.is := by
      refine eq_of_le fun N => ?_
      rw [depthL_le, depthL_le]
      constructor
      · intro h p u hu
        have hl := (List.getElem?_eq_some_iff.1 hu).1
        obtain ⟨i, hi2⟩ := perm_at hp.p (show p < min t.ks.length t.is.length by omega)
        have hil := (List.getElem?_eq_some_iff.1 hi2).1
        have e2 := List.getElem?_eq_getElem (show i < s.is.length by omega)
        rw [← ih i p _ _ hi2 hu e2 (ht.i _ (List.mem_of_getElem? hu))]
        exact h i _ e2
      · intro h i v hv
        have hl := (List.getElem?_eq_some_iff.1 hv).1
        have hil := List.getElem?_eq_getElem (show i < ps.length by omega)
        have hlt := perm_lt hp.p hil
        have e2 := List.getElem?_eq_getElem (show ps[i] < t.is.length by omega)
        rw [ih i _ _ _ hil e2 hv (ht.i _ (List.mem_of_getElem? e2))]
        exact h _ _ e2
    rw [e]
end
section
open Go.RowKit Go
/-! ### What was read, told by value and lay -/
theorem chk7_of {t : Tv} (hm : tmuch t ≤ 6000000) : ChkC7 t (chkf t 0) := fun w cs ht hT => check6_any t w cs ht hm hT
theorem srt7_of {t : Tv} (hm : tmuch t ≤ 6000000) (hc : chkf t 0 = 0) (hr : Rsn t) : SrtC7 t t := fun w cs ht => by
  refine (sorted6_any t w cs ht hm).mono ?_
  rintro e w' ⟨c', s, rfl, hs, hn, hb⟩
  have e := srt_one (rsn_srt hr hc) (chk_trk hc) hs
  exact ⟨c', rfl, e ▸ hn.tin, hb⟩
end
section
open Go.RowKit Go
/-! ### What is laid is read -/
/-- From one state to another in some steps. -/
def Goes (b : List Nat) (d : Nat) (s s' : Mst) : Prop := ∃ k, ∀ n, mrun b d (n + k) s = mrun b d n s'
theorem Goes.trans {b : List Nat} {d : Nat} {s s' s'' : Mst} (h : Goes b d s s') (h' : Goes b d s' s'') : Goes b d s s'' := by
  obtain ⟨k, hk⟩ := h
  obtain ⟨j, hj⟩ := h'
  exact ⟨j + k, fun n => by rw [← Nat.add_assoc, hk, hj]⟩
theorem Goes.step {b : List Nat} {d : Nat} {s s' : Mst} (h : mstep b d s = .inl s') : Goes b d s s' := ⟨1, fun _ => mrun_next h⟩
theorem rtake_of {want : Nat} {full : Bool} {ks : List ByteArray} {r : List Nat} (he : (hrd r).e = 0) (hi : (hrd r).i ≠ 31) (hs : (hrd r).s = true)
    (hn : (hrd r).m = 2 ∨ (hrd r).m = 3 → (hrd r).n ≤ r.length - (hrd r).u) (hm : rmay (hrd r) (rbody r) = true) (hf : rfit want (hrd r) (rbody r) = true) (hd : rnest r = true → full = false) (hr : want = 1 → rrise ks (nstr (rbody r)) = true) : rtake want full ks r = 0 := by
  have hl : rlook want r = 0 := by
    unfold rlook
    rw [if_neg (by omega), if_neg (by omega), if_neg (fun ⟨a1, a2⟩ => by have := hn a1; omega), if_neg (by rw [hm, hf]; simp)]
  unfold rtake
  rw [if_neg (fun ⟨a1, a2⟩ => by rw [hd a1] at a2; cases a2), if_neg (by rw [hl]; simp), if_neg]
  rintro (a | ⟨a1, a2⟩)
  · rw [hs] at a; cases a
  · rw [hr a1] at a2; cases a2
theorem rnest_hl {m n : Nat} (tl : List Nat) (h : rnest (hl m n ++ tl) = true) : m = 4 ∨ m = 5 := by
  have hi := hinfo_lt n
  unfold hl at h
  rw [List.cons_append] at h
  unfold rnest at h
  have : (32 * m + hinfo n) / 32 = m := by omega
  simpa [this] using h
/-- A head that is taken, of an item that has no bytes behind it. -/
theorem hl_take {m n : Nat} (hm : m ≤ 6) (h2 : m ≠ 2) (h3 : m ≠ 3) (hn : n < 18446744073709551616) (tl : List Nat) (h6 : m = 6 → n = 42) (full : Bool) (hf : m = 4 ∨ m = 5 → full = false) :
    rtake 0 full [] (hl m n ++ tl) = 0 ∧ rbody (hl m n ++ tl) = [] ∧ rused (hl m n ++ tl) = (hl m n).length := by
  have e := hrd_laid m n tl hm hn
  have hlt := hinfo_lt n
  have hb : rbody (hl m n ++ tl) = [] := body_none (by rw [e]; dsimp only; omega)
  refine ⟨rtake_of (by rw [e]) (by rw [e]; dsimp only; omega) (by rw [e]) (by rw [e]; dsimp only; omega) ?_ ?_ (fun h => hf (rnest_hl tl h)) (by omega), hb, ?_⟩
  · rw [e]
    unfold rmay
    dsimp only
    rw [if_neg h3]
    by_cases h : m = 6
    · rw [if_pos h, h6 h]; rfl
    · rw [if_neg h, if_neg (by omega)]
  · unfold rfit
    rw [if_neg (by decide), if_neg (by decide)]
  · unfold rused
    rw [hb, e, hl_len7]
    rfl
/-- A head and the bytes behind it. -/
theorem hl_body {m : Nat} (hm : m = 2 ∨ m = 3) {y : List Nat} (hn : y.length < 18446744073709551616) (tl : List Nat) :
    rbody (hl m y.length ++ (y ++ tl)) = y ∧ rused (hl m y.length ++ (y ++ tl)) = (hl m y.length).length + y.length ∧ hrd (hl m y.length ++ (y ++ tl)) = ⟨m, hinfo y.length, y.length, hsize y.length, true, 0⟩ := by
  have e := hrd_laid m y.length (y ++ tl) (by omega) hn
  have hb : rbody (hl m y.length ++ (y ++ tl)) = y := by
    unfold rbody
    rw [if_pos (by rw [e]; exact hm), e]
    dsimp only
    rw [← hl_len7 m, List.drop_left, List.take_left]
  refine ⟨hb, ?_, e⟩
  unfold rused
  rw [hb, e, hl_len7]
theorem hl_taken {m : Nat} (hm : m = 2 ∨ m = 3) {y : List Nat} (hn : y.length < 18446744073709551616) (tl : List Nat) (want : Nat) (full : Bool) (ks : List ByteArray) (hg : m = 3 → badb (nstr y) = false) (hf : rfit want ⟨m, hinfo y.length, y.length, hsize y.length, true, 0⟩ y = true) (hr : want = 1 → rrise ks (nstr y) = true) :
    rtake want full ks (hl m y.length ++ (y ++ tl)) = 0 := by
  obtain ⟨hb, hu, e⟩ := hl_body hm hn tl
  have hlt := hinfo_lt y.length
  refine rtake_of (by rw [e]) (by rw [e]; dsimp only; omega) (by rw [e]) (fun _ => ?_) ?_ (by rw [e, hb]; exact hf) (fun h => ?_) (fun h => by rw [hb]; exact hr h)
  · rw [e]
    simp only [List.length_append, hl_len7]
    omega
  · rw [e, hb]
    unfold rmay
    dsimp only
    rcases hm with h | h
    · rw [if_neg (by omega), if_neg (by omega), if_neg (by omega)]
    · rw [if_pos h, hg h]; rfl
  · have := rnest_hl _ h
    omega
/-- The other ones: bool, null, floats. -/
theorem oth_take {i : Nat} (hi : i = 20 ∨ i = 21 ∨ i = 22) (tl : List Nat) (full : Bool) : rtake 0 full [] ((224 + i) :: tl) = 0 ∧ rbody ((224 + i) :: tl) = [] ∧ rused ((224 + i) :: tl) = 1 ∧ hrd ((224 + i) :: tl) = ⟨7, i, i, 1, true, 0⟩ := by
  have e : hrd ((224 + i) :: tl) = ⟨7, i, i, 1, true, 0⟩ := by
    have h := hrd_small (x := 224 + i) (r := tl) (by omega)
    rw [show (224 + i) / 32 = 7 by omega, show (224 + i) % 32 = i by omega] at h
    exact h
  have hb : rbody ((224 + i) :: tl) = [] := body_none (by rw [e]; dsimp only; omega)
  refine ⟨rtake_of (by rw [e]) (by rw [e]; dsimp only; omega) (by rw [e]) (by rw [e]; dsimp only; omega) ?_ ?_ (fun h => ?_) (by omega), hb, ?_, e⟩
  · rw [e]
    unfold rmay rknown
    simp [hi]
  · unfold rfit
    rw [if_neg (by decide), if_neg (by decide)]
  · unfold rnest at h
    simp at h
    omega
  · unfold rused
    rw [hb, e]
    rfl
theorem flt_take {b : Nat} (hb : b < 18446744073709551616) (hf : finb b = true) (tl : List Nat) (full : Bool) : rtake 0 full [] (251 :: (be 8 b ++ tl)) = 0 ∧ rbody (251 :: (be 8 b ++ tl)) = [] ∧ rused (251 :: (be 8 b ++ tl)) = 9 ∧ hrd (251 :: (be 8 b ++ tl)) = ⟨7, 27, b, 9, true, 0⟩ := by
  have ht : (be 8 b ++ tl).take 8 = be 8 b := by
    have hl := be_len 8 b
    rw [List.take_append_of_le_length (by omega), List.take_of_length_le (by omega)]
  have e : hrd (251 :: (be 8 b ++ tl)) = ⟨7, 27, b, 9, true, 0⟩ := by
    have h := hrd_long (x := 251) (r := be 8 b ++ tl) (by decide) (by decide) (by rw [List.length_append, be_len]; show ¬ _ < 8; omega) (by intro h; exact absurd h.2.1 (by decide))
    have e2 : bnum 0 ((be 8 b ++ tl).take (hwide (251 % 32))) = b := by
      show bnum 0 ((be 8 b ++ tl).take 8) = b
      rw [ht, bnum_be, pow8, Nat.mod_eq_of_lt hb]
      omega
    rw [e2] at h
    exact h
  have hbd : rbody (251 :: (be 8 b ++ tl)) = [] := body_none (by rw [e]; dsimp only; omega)
  refine ⟨rtake_of (by rw [e]) (by rw [e]; exact (by decide : (27 : Nat) ≠ 31)) (by rw [e]) (by rw [e]; dsimp only; omega) ?_ ?_ (fun h => ?_) (by omega), hbd, ?_, e⟩
  · rw [e]
    unfold rmay rknown
    simp [hf]
  · unfold rfit
    rw [if_neg (by decide), if_neg (by decide)]
  · cases h
  · unfold rused
    rw [hbd, e]
    rfl
/-- The bounds of a value and of all in it. -/
inductive Tb8 : Tv → Prop
  | mk (t : Tv) (hn : t.n < 18446744073709551616) (hb : t.b < 18446744073709551616) (hs : t.s.size < 18446744073709551616) (hy : t.y.length < 18446744073709551616) (hi : t.is.length < 18446744073709551616) (hk : ∀ s ∈ t.ks, s.size < 18446744073709551616) (hyb : ∀ x ∈ t.y, x < 256) (hld : ∀ x ∈ t.l.d, x < 256) (hc : ∀ u ∈ t.is, Tb8 u) : Tb8 t
theorem Tb8.get {t : Tv} (h : Tb8 t) : t.n < 18446744073709551616 ∧ t.b < 18446744073709551616 ∧ t.s.size < 18446744073709551616 ∧ t.y.length < 18446744073709551616 ∧ t.is.length < 18446744073709551616 ∧ (∀ s ∈ t.ks, s.size < 18446744073709551616) ∧ (∀ x ∈ t.y, x < 256) ∧ (∀ x ∈ t.l.d, x < 256) ∧ ∀ u ∈ t.is, Tb8 u := by
  cases h with
  | mk _ a1 a2 a3 a4 a5 a6 a7 a8 a9 => exact ⟨a1, a2, a3, a4, a5, a6, a7, a8, a9⟩
theorem Rsn.get {t : Tv} (h : Rsn t) : (∀ (i : Nat) (s s' : ByteArray), t.ks[i]? = some s → t.ks[i + 1]? = some s' → bfr (sl s) (sl s') = true) ∧ ∀ u ∈ t.is, Rsn u := by
  cases h with
  | mk _ a b => exact ⟨a, b⟩
/-- The step at an item that is a tree by itself. -/
theorem leaf_step {b : List Nat} {d p : Nat} {st : List Nst} {r : List Nat} (hr : b.drop p = r) (h0 : rtake 0 (decide (st.length = d)) [] r = 0) (h4 : (hrd r).m ≠ 4) (h5 : (hrd r).m ≠ 5) (h6 : (hrd r).m ≠ 6) {t : Tv} {n : Nat} (ht : rleaf (hrd r) (rbody r) = t) (hn : rused r = n) : Goes b d ⟨.plain, p, st⟩ ⟨.done t, p + n, st⟩ := by
  refine Goes.step ?_
  unfold mstep
  dsimp only
  rw [hr, if_neg (by rw [h0]; simp), if_neg h6, if_neg h4, if_neg h5, ht, hn]
/-- What is not the kind's own is zero. -/
theorem tidy_zero {t : Tv} (h : tidyf t = true) : t = .mk t.k (if t.k = 2 then t.f else false) (if t.k = 3 then t.g else false) (if t.k = 3 then t.n else 0) (if t.k = 4 then t.b else 0) (if t.k = 5 then t.s else ⟨#[]⟩) (if t.k = 6 then t.y else []) (if t.k = 7 then t.l else ⟨0, 0, 0, []⟩) (if t.k = 9 then t.ks else []) (if t.k = 8 ∨ t.k = 9 then t.is else []) := by
  obtain ⟨h1, h9, hc⟩ := tidy_k h
  obtain ⟨a1, a2, a3, a4, a5, a6, a7, a8, a9⟩ := cl_all hc
  obtain ⟨k, f, g, n, b, s, y, l, ks, is⟩ := t
  simp only [Tv.k, Tv.f, Tv.g, Tv.n, Tv.b, Tv.s, Tv.y, Tv.l, Tv.ks, Tv.is, Tv.zr] at *
  have hk : k = 1 ∨ k = 2 ∨ k = 3 ∨ k = 4 ∨ k = 5 ∨ k = 6 ∨ k = 7 ∨ k = 8 ∨ k = 9 := by omega
  rcases hk with rfl | rfl | rfl | rfl | rfl | rfl | rfl | rfl | rfl <;> simp_all
set_option maxHeartbeats 1000000 in
/-- A leaf is read. -/
theorem leaf_goes {b : List Nat} {d p a : Nat} {st : List Nst} {t : Tv} {rest : List Nat} (hr : b.drop p = tfm t ++ rest) (hc : onef t a = 0) (hT : Tb8 t) (h7 : t.k ≠ 7) (h8 : t.k ≠ 8) (h9 : t.k ≠ 9) : Goes b d ⟨.plain, p, st⟩ ⟨.done t, p + (tfm t).length, st⟩ := by
  obtain ⟨_, htd, hfin, hbad, _, _⟩ := onef_0 hc
  have hz := tidy_zero htd
  obtain ⟨hk1, hk9, _⟩ := tidy_k htd
  obtain ⟨bn, bb, bs, by8, _⟩ := hT.get
  rw [Bool.or_eq_false_iff] at hbad
  have hbs := hbad.1
  clear hbad htd hc
  obtain ⟨k, f, g, n, c, s, y, l, ks, is⟩ := t
  simp only [Tv.k, Tv.f, Tv.g, Tv.n, Tv.b, Tv.s, Tv.y, Tv.l, Tv.ks, Tv.is] at *
  have hk : k = 1 ∨ k = 2 ∨ k = 3 ∨ k = 4 ∨ k = 5 ∨ k = 6 := by omega
  rcases hk with rfl | rfl | rfl | rfl | rfl | rfl
  · simp [tfm] at hr hz ⊢
    obtain ⟨o1, o2, o3, o4⟩ := oth_take (i := 22) (by omega) rest (decide (st.length = d))
    refine leaf_step hr o1 (by rw [o4]; exact (by decide : (7 : Nat) ≠ 4)) (by rw [o4]; exact (by decide : (7 : Nat) ≠ 5)) (by rw [o4]; exact (by decide : (7 : Nat) ≠ 6)) ?_ o3
    rw [o4, o2]
    simp [rleaf, tz8, hz]
  · simp [tfm] at hr hz ⊢
    obtain ⟨o1, o2, o3, o4⟩ := oth_take (i := if f = true then 21 else 20) (by cases f <;> simp) rest (decide (st.length = d))
    have e : (224 + if f = true then 21 else 20) = if f = true then 245 else 244 := by cases f <;> rfl
    rw [e] at o1 o2 o3 o4
    refine leaf_step hr o1 (by rw [o4]; exact (by decide : (7 : Nat) ≠ 4)) (by rw [o4]; exact (by decide : (7 : Nat) ≠ 5)) (by rw [o4]; exact (by decide : (7 : Nat) ≠ 6)) ?_ o3
    rw [o4, o2]
    cases f <;> simp [rleaf, hz]
  · simp [tfm] at hr hz ⊢
    have hm : (if g = true then 1 else 0) = 0 ∨ (if g = true then 1 else 0) = 1 := by cases g <;> simp
    obtain ⟨o1, o2, o3⟩ := hl_take (m := if g = true then 1 else 0) (by omega) (by omega) (by omega) bn rest (by omega) (decide (st.length = d)) (by omega)
    have o4 := hrd_laid (if g = true then 1 else 0) n rest (by omega) bn
    refine leaf_step hr o1 (by rw [o4]; dsimp only; omega) (by rw [o4]; dsimp only; omega) (by rw [o4]; dsimp only; omega) ?_ o3
    rw [o4, o2]
    cases g <;> simp [rleaf, hz]
  · simp [tfm] at hr hz ⊢
    obtain ⟨o1, o2, o3, o4⟩ := flt_take bb hfin rest (decide (st.length = d))
    refine leaf_step hr o1 (by rw [o4]; exact (by decide : (7 : Nat) ≠ 4)) (by rw [o4]; exact (by decide : (7 : Nat) ≠ 5)) (by rw [o4]; exact (by decide : (7 : Nat) ≠ 6)) ?_ (by rw [o3, be_len])
    rw [o4, o2]
    simp [rleaf, hz]
  · simp [tfm, kfm] at hr hz ⊢
    have hsz : (sl s).length < 18446744073709551616 := by rw [sl_len7]; exact bs
    obtain ⟨o2, o3, o4⟩ := hl_body (.inr rfl : (3 : Nat) = 2 ∨ (3 : Nat) = 3) hsz rest
    have o1 := hl_taken (.inr rfl : (3 : Nat) = 2 ∨ (3 : Nat) = 3) hsz rest 0 (decide (st.length = d)) [] (fun _ => by rw [nstr_sl]; exact hbs) (by unfold rfit; rw [if_neg (by decide), if_neg (by decide)]) (by omega)
    refine leaf_step hr o1 (by rw [o4]; exact (by decide : (3 : Nat) ≠ 4)) (by rw [o4]; exact (by decide : (3 : Nat) ≠ 5)) (by rw [o4]; exact (by decide : (3 : Nat) ≠ 6)) ?_ o3
    rw [o4, o2]
    simp [rleaf, hz, nstr_sl]
  · simp [tfm] at hr hz ⊢
    obtain ⟨o2, o3, o4⟩ := hl_body (.inl rfl : (2 : Nat) = 2 ∨ (2 : Nat) = 3) by8 rest
    have o1 := hl_taken (.inl rfl : (2 : Nat) = 2 ∨ (2 : Nat) = 3) by8 rest 0 (decide (st.length = d)) [] (fun h => by cases h) (by unfold rfit; rw [if_neg (by decide), if_neg (by decide)]) (by omega)
    refine leaf_step hr o1 (by rw [o4]; exact (by decide : (2 : Nat) ≠ 4)) (by rw [o4]; exact (by decide : (2 : Nat) ≠ 5)) (by rw [o4]; exact (by decide : (2 : Nat) ≠ 6)) ?_ o3
    rw [o4, o2]
    simp [rleaf, hz]
end
section
open Go.RowKit Go
/-- A link is read. -/
theorem link_goes {b : List Nat} {d p a : Nat} {st : List Nst} {t : Tv} {rest : List Nat} (hr : b.drop p = tfm t ++ rest) (hc : onef t a = 0) (h7 : t.k = 7) : Goes b d ⟨.plain, p, st⟩ ⟨.done t, p + (tfm t).length, st⟩ := by
  obtain ⟨_, htd, _, _, hlk, _⟩ := onef_0 hc
  have hz := tidy_zero htd
  have hlok : lok t.l := Classical.byContradiction fun h => hlk ⟨h7, h⟩
  have hlen := lbytes_len hlok
  have hpb := lparse_bytes hlok
  clear hlk htd hc
  obtain ⟨k, f, g, n, c, s, y, l, ks, is⟩ := t
  simp only [Tv.k, Tv.f, Tv.g, Tv.n, Tv.b, Tv.s, Tv.y, Tv.l, Tv.ks, Tv.is] at *
  subst h7
  have et : tfm (.mk 7 f g n c s y l ks is) = hl 6 42 ++ (hl 2 (0 :: lbytes l).length ++ (0 :: lbytes l)) := by
    unfold tfm
    simp [Nat.add_comm]
  rw [et, List.append_assoc] at hr
  rw [et]
  obtain ⟨o1, o2, o3⟩ := hl_take (m := 6) (n := 42) (by omega) (by omega) (by omega) (by omega) ((hl 2 (0 :: lbytes l).length ++ (0 :: lbytes l)) ++ rest) (fun _ => rfl) (decide (st.length = d)) (by omega)
  have o4 := hrd_laid 6 42 ((hl 2 (0 :: lbytes l).length ++ (0 :: lbytes l)) ++ rest) (by omega) (by omega)
  have s1 : Goes b d ⟨.plain, p, st⟩ ⟨.name, p + (hl 6 42).length, st⟩ := by
    refine Goes.step ?_
    unfold mstep
    dsimp only
    rw [hr, if_neg (by rw [o1]; simp), if_pos (by rw [o4]), o3]
  refine s1.trans ?_
  have hr2 : b.drop (p + (hl 6 42).length) = hl 2 (0 :: lbytes l).length ++ ((0 :: lbytes l) ++ rest) := by
    rw [← List.drop_drop, hr, List.drop_left, List.append_assoc]
  have hyl : (0 :: lbytes l).length < 18446744073709551616 := by rw [List.length_cons]; omega
  obtain ⟨q2, q3, q4⟩ := hl_body (.inl rfl : (2 : Nat) = 2 ∨ (2 : Nat) = 3) hyl rest
  have q1 := hl_taken (.inl rfl : (2 : Nat) = 2 ∨ (2 : Nat) = 3) hyl rest 2 (decide (st.length = d)) [] (fun h => by cases h) (by unfold rfit; rw [if_neg (by decide), if_pos rfl]; simp [hpb]) (by omega)
  refine Goes.step ?_
  unfold mstep
  dsimp only
  rw [hr2, if_neg (by rw [q1]; simp), q2, q3]
  simp only [List.tail_cons, hpb, List.length_append]
  simp at hz
  simp [hz, Nat.add_assoc]
/-- A row of items is read. -/
theorem items_goes {b : List Nat} {d : Nat} {st : List Nst} : ∀ (l : List Tv) (a : List Tv) (p : Nat) (rest : List Nat), b.drop p = tfmL l ++ rest → (∀ u ∈ l, ∀ q rest, b.drop q = tfm u ++ rest → ∀ x, Goes b d ⟨.plain, q, x :: st⟩ ⟨.done u, q + (tfm u).length, x :: st⟩) →
    Goes b d ⟨.inside, p, ⟨8, [], a, l.length⟩ :: st⟩ ⟨.done (Nst.val ⟨8, [], a ++ l, 0⟩), p + (tfmL l).length, st⟩
  | [], a, p, rest, hr, _ => by
    refine Goes.step ?_
    rw [List.append_nil, tfmL]
    rfl
  | t :: l, a, p, rest, hr, hu => by
    rw [tfmL, List.append_assoc] at hr
    have s1 : Goes b d ⟨.inside, p, ⟨8, [], a, (t :: l).length⟩ :: st⟩ ⟨.plain, p, ⟨8, [], a, (t :: l).length⟩ :: st⟩ := Goes.step rfl
    have s2 := hu t (List.mem_cons_self ..) p _ hr ⟨8, [], a, (t :: l).length⟩
    have s3 : Goes b d ⟨.done t, p + (tfm t).length, ⟨8, [], a, (t :: l).length⟩ :: st⟩ ⟨.inside, p + (tfm t).length, ⟨8, [], a ++ [t], l.length⟩ :: st⟩ := Goes.step rfl
    have s4 := items_goes l (a ++ [t]) (p + (tfm t).length) rest (by rw [← List.drop_drop, hr, List.drop_left]) (fun u h => hu u (List.mem_cons_of_mem _ h))
    have e1 : a ++ [t] ++ l = a ++ t :: l := by simp
    have e2 : p + (tfm t).length + (tfmL l).length = p + (tfmL (t :: l)).length := by rw [tfmL, List.length_append]; omega
    rw [e1, e2] at s4
    exact ((s1.trans s2).trans s3).trans s4
/-- Entries are read, their keys rising. -/
theorem entries_goes {b : List Nat} {d : Nat} {st : List Nst} : ∀ (ks : List ByteArray) (l : List Tv) (kd : List ByteArray) (a : List Tv) (p : Nat) (rest : List Nat), ks.length = l.length → b.drop p = tfmK ks l ++ rest → (∀ s ∈ ks, badb s = false ∧ s.size < 18446744073709551616) → (∀ (i : Nat) (s s' : ByteArray), (kd ++ ks)[i]? = some s → (kd ++ ks)[i + 1]? = some s' → bfr (sl s) (sl s') = true) →
    (∀ u ∈ l, ∀ q rest, b.drop q = tfm u ++ rest → ∀ x, Goes b d ⟨.plain, q, x :: st⟩ ⟨.done u, q + (tfm u).length, x :: st⟩) →
    Goes b d ⟨.inside, p, ⟨9, kd, a, l.length⟩ :: st⟩ ⟨.done (Nst.val ⟨9, kd ++ ks, a ++ l, 0⟩), p + (tfmK ks l).length, st⟩
  | [], [], kd, a, p, rest, _, hr, _, _, _ => by
    refine Goes.step ?_
    rw [List.append_nil, List.append_nil, tfmK]
    rfl
  | [], t :: l, _, _, _, _, h, _, _, _, _ => by simp at h
  | k :: ks, [], _, _, _, _, h, _, _, _, _ => by simp at h
  | k :: ks, t :: l, kd, a, p, rest, hlen, hr, hg, hri, hu => by
    rw [tfmK, List.append_assoc, List.append_assoc] at hr
    obtain ⟨hbd, hsz⟩ := hg k (List.mem_cons_self ..)
    have hsl : (sl k).length < 18446744073709551616 := by rw [sl_len7]; exact hsz
    unfold kfm at hr
    rw [List.append_assoc] at hr
    obtain ⟨q2, q3, q4⟩ := hl_body (.inr rfl : (3 : Nat) = 2 ∨ (3 : Nat) = 3) hsl (tfm t ++ (tfmK ks l ++ rest))
    have hrise : rrise kd (nstr (sl k)) = true := by
      rw [nstr_sl]
      unfold rrise
      cases hl : kd.getLast? with
      | none => rfl
      | some s =>
        have hne : kd.length ≠ 0 := by
          intro h0
          rw [List.length_eq_zero_iff] at h0
          subst h0
          cases hl
        rw [List.getLast?_eq_getElem?] at hl
        refine hri (kd.length - 1) s k ?_ ?_
        · rw [List.getElem?_append_left (by omega)]
          exact hl
        · rw [show kd.length - 1 + 1 = kd.length by omega, List.getElem?_append_right (Nat.le_refl _), Nat.sub_self]
          rfl
    have q1 := hl_taken (.inr rfl : (3 : Nat) = 2 ∨ (3 : Nat) = 3) hsl (tfm t ++ (tfmK ks l ++ rest)) 1 (decide ((⟨9, kd, a, (t :: l).length⟩ :: st).length = d)) kd (fun _ => by rw [nstr_sl]; exact hbd) (by unfold rfit; rw [if_pos rfl]; rfl) (fun _ => hrise)
    have s1 : Goes b d ⟨.inside, p, ⟨9, kd, a, (t :: l).length⟩ :: st⟩ ⟨.plain, p + (kfm k).length, ⟨9, kd ++ [k], a, (t :: l).length⟩ :: st⟩ := by
      refine Goes.step ?_
      unfold mstep
      dsimp only
      rw [if_neg (by simp), if_neg (by decide), hr, if_neg (by rw [q1]; simp), q2, q3, nstr_sl]
      unfold kfm
      rw [List.length_append]
    have hr2 : b.drop (p + (kfm k).length) = tfm t ++ (tfmK ks l ++ rest) := by
      rw [← List.drop_drop, hr, ← List.append_assoc]
      show ((kfm k) ++ _).drop _ = _
      rw [List.drop_left]
    have s2 := hu t (List.mem_cons_self ..) (p + (kfm k).length) _ hr2 ⟨9, kd ++ [k], a, (t :: l).length⟩
    have s3 : Goes b d ⟨.done t, p + (kfm k).length + (tfm t).length, ⟨9, kd ++ [k], a, (t :: l).length⟩ :: st⟩ ⟨.inside, p + (kfm k).length + (tfm t).length, ⟨9, kd ++ [k], a ++ [t], l.length⟩ :: st⟩ := Goes.step rfl
    have s4 := entries_goes ks l (kd ++ [k]) (a ++ [t]) (p + (kfm k).length + (tfm t).length) rest (by simpa using hlen) (by rw [← List.drop_drop, hr2, List.drop_left]) (fun s h => hg s (List.mem_cons_of_mem _ h)) (by
      have e : kd ++ [k] ++ ks = kd ++ k :: ks := by simp
      rw [e]
      exact hri) (fun u h => hu u (List.mem_cons_of_mem _ h))
    have e1 : a ++ [t] ++ l = a ++ t :: l := by simp
    have e3 : kd ++ [k] ++ ks = kd ++ k :: ks := by simp
    have e2 : p + (kfm k).length + (tfm t).length + (tfmK ks l).length = p + (tfmK (k :: ks) (t :: l)).length := by rw [tfmK, List.length_append, List.length_append]; omega
    rw [e1, e2, e3] at s4
    exact ((s1.trans s2).trans s3).trans s4
/-- A tree is read wherever its form stands. -/
theorem tree_goes {b : List Nat} {d : Nat} : ∀ (N : Nat) (t : Tv), SizeOf.sizeOf t = N → ∀ (a : Nat), chkf t a = 0 → Rsn t → Tb8 t → ∀ (st : List Nst), tdepth t + st.length ≤ d → ∀ p rest, b.drop p = tfm t ++ rest → Goes b d ⟨.plain, p, st⟩ ⟨.done t, p + (tfm t).length, st⟩ := by
  intro N
  induction N using Nat.strongRecOn with
  | _ N ih =>
    intro t hN a hc hrs hT st hd p rest hr
    obtain ⟨h1, h2⟩ := chkf_0 hc
    by_cases h7 : t.k = 7
    · exact link_goes hr h1 h7
    by_cases h89 : ¬ (t.k = 8 ∨ t.k = 9)
    · exact leaf_goes hr h1 hT h7 (fun h => h89 (.inl h)) (fun h => h89 (.inr h))
    have h89 : t.k = 8 ∨ t.k = 9 := Decidable.not_not.1 h89
    rw [tdepth_eq, if_pos h89] at hd
    have hfull : decide (st.length = d) = false := decide_eq_false (by omega)
    obtain ⟨_, htd, _, hbad, _, hks⟩ := onef_0 h1
    rw [Bool.or_eq_false_iff, List.any_eq_false] at hbad
    have hz := tidy_zero htd
    obtain ⟨_, _, _, _, bi, bk, _, _, bc⟩ := hT.get
    obtain ⟨hrk, hri⟩ := hrs.get
    have hu : ∀ u ∈ t.is, ∀ q rest, b.drop q = tfm u ++ rest → ∀ x, Goes b d ⟨.plain, q, x :: st⟩ ⟨.done u, q + (tfm u).length, x :: st⟩ := fun u hu q rest hq x => by
      refine ih _ (by have := Tv.is_lt hu; omega) u rfl (a + 1) (h2 u hu) (hri u hu) (bc u hu) (x :: st) ?_ q rest hq
      have := tdepthL_mem hu
      rw [List.length_cons]
      omega
    clear ih htd h2 hri bc
    obtain ⟨k, f, g, n, c, s, y, l, ks, is⟩ := t
    simp only [Tv.k, Tv.f, Tv.g, Tv.n, Tv.b, Tv.s, Tv.y, Tv.l, Tv.ks, Tv.is] at *
    rcases h89 with rfl | rfl
    · simp at hz
      obtain ⟨e1, e2, e3, e4, e5, e6, e7, e8⟩ := hz
      subst e1 e2 e3 e4 e5 e6 e7 e8
      have et : tfm (.mk 8 false false 0 0 ⟨#[]⟩ [] ⟨0, 0, 0, []⟩ [] is) = hl 4 is.length ++ tfmL is := by unfold tfm; simp
      rw [et, List.append_assoc] at hr
      rw [et]
      obtain ⟨o1, o2, o3⟩ := hl_take (m := 4) (by omega) (by omega) (by omega) bi (tfmL is ++ rest) (by omega) (decide (st.length = d)) (fun _ => hfull)
      have o4 := hrd_laid 4 is.length (tfmL is ++ rest) (by omega) bi
      have s1 : Goes b d ⟨.plain, p, st⟩ ⟨.inside, p + (hl 4 is.length).length, ⟨8, [], [], is.length⟩ :: st⟩ := by
        refine Goes.step ?_
        unfold mstep
        dsimp only
        rw [hr, if_neg (by rw [o1]; simp), if_neg (by rw [o4]; exact (by decide : ¬ (4 : Nat) = 6)), if_pos (by rw [o4]), o3, o4]
      have s2 := items_goes (b := b) (d := d) (st := st) is [] (p + (hl 4 is.length).length) rest (by rw [← List.drop_drop, hr, List.drop_left]) hu
      have e : p + (hl 4 is.length).length + (tfmL is).length = p + (hl 4 is.length ++ tfmL is).length := by rw [List.length_append]; omega
      rw [e] at s2
      exact s1.trans s2
    · simp at hz
      obtain ⟨e1, e2, e3, e4, e5, e6, e7⟩ := hz
      subst e1 e2 e3 e4 e5 e6 e7
      have hlen : ks.length = is.length := Classical.byContradiction fun h => hks ⟨rfl, fun x => h x.1⟩
      have et : tfm (.mk 9 false false 0 0 ⟨#[]⟩ [] ⟨0, 0, 0, []⟩ ks is) = hl 5 is.length ++ tfmK ks is := by unfold tfm; simp
      rw [et, List.append_assoc] at hr
      rw [et]
      obtain ⟨o1, o2, o3⟩ := hl_take (m := 5) (by omega) (by omega) (by omega) bi (tfmK ks is ++ rest) (by omega) (decide (st.length = d)) (fun _ => hfull)
      have o4 := hrd_laid 5 is.length (tfmK ks is ++ rest) (by omega) bi
      have s1 : Goes b d ⟨.plain, p, st⟩ ⟨.inside, p + (hl 5 is.length).length, ⟨9, [], [], is.length⟩ :: st⟩ := by
        refine Goes.step ?_
        unfold mstep
        dsimp only
        rw [hr, if_neg (by rw [o1]; simp), if_neg (by rw [o4]; exact (by decide : ¬ (5 : Nat) = 6)), if_neg (by rw [o4]; exact (by decide : ¬ (5 : Nat) = 4)), if_pos (by rw [o4]), o3, o4]
      have s2 := entries_goes (b := b) (d := d) (st := st) ks is [] [] (p + (hl 5 is.length).length) rest hlen (by rw [← List.drop_drop, hr, List.drop_left]) (fun s hs => ⟨by simpa using hbad.2 s hs, bk s hs⟩) hrk hu
      have e : p + (hl 5 is.length).length + (tfmK ks is).length = p + (hl 5 is.length ++ tfmK ks is).length := by rw [List.length_append]; omega
      rw [e] at s2
      exact s1.trans s2
/-- The form of a sorted tree, with something behind it, is read as that tree. -/
theorem tree_read {t : Tv} (hc : chkf t 0 = 0) (hr : Rsn t) (hT : Tb8 t) {d : Nat} (hd : tdepth t ≤ d) (tl : List Nat) : ∃ N, mrun (tfm t ++ tl) d N m0 = some ⟨0, (tfm t).length, t⟩ := by
  obtain ⟨k, hk⟩ := tree_goes (b := tfm t ++ tl) (d := d) _ t rfl 0 hc hr hT [] (by simpa using hd) 0 tl rfl
  refine ⟨1 + k, ?_⟩
  have h := hk 1
  rw [Nat.zero_add] at h
  show mrun (tfm t ++ tl) d (1 + k) ⟨.plain, 0, []⟩ = _
  rw [h]
  rfl
end
section
open Go.RowKit Go
theorem cl_is {k : Int} {f g : Bool} {n b : Nat} {s : ByteArray} {y : List Nat} {l : Lk} {ks : List ByteArray} {is is' : List Tv} (he : is'.isEmpty = is.isEmpty) : (Tv.mk k f g n b s y l ks is').cl = (Tv.mk k f g n b s y l ks is).cl := by
  show (!f && (!g && (decide (n = 0) && (decide (b = 0) && (decide (s = ⟨#[]⟩) && (decide (l = ⟨0, 0, 0, []⟩) && (decide (y = []) && (decide (ks = []) && is'.isEmpty)))))))) = (!f && (!g && (decide (n = 0) && (decide (b = 0) && (decide (s = ⟨#[]⟩) && (decide (l = ⟨0, 0, 0, []⟩) && (decide (y = []) && (decide (ks = []) && is.isEmpty))))))))
  rw [he]
theorem tidy_top {t w : Tv} (hT : Top t w) (hk : w.ks = t.ks) (he : w.is.isEmpty = t.is.isEmpty) : tidyf w = tidyf t := by
  obtain ⟨k, f, g, n, b, s, y, l, ks, is⟩ := t
  obtain ⟨k', f', g', n', b', s', y', l', ks', is'⟩ := w
  obtain ⟨h1, h2, h3, h4, h5, h6, h7, h8⟩ := hT
  simp only [Tv.k, Tv.f, Tv.g, Tv.n, Tv.b, Tv.s, Tv.y, Tv.l, Tv.ks, Tv.is] at *
  subst h1 h2 h3 h4 h5 h6 h7 h8 hk
  have hz : (Tv.mk k' f' g' n' b' s' y' l' ks' is').zr.cl = (Tv.mk k' f' g' n' b' s' y' l' ks' is).zr.cl := by
    by_cases e2 : k' = 2
    · have z1 : (Tv.mk k' f' g' n' b' s' y' l' ks' is').zr = .mk k' false g' n' b' s' y' l' ks' is' := by unfold Tv.zr; simp [Tv.k, Tv.g, Tv.n, Tv.b, Tv.s, Tv.y, Tv.l, Tv.ks, Tv.is, e2]
      have z2 : (Tv.mk k' f' g' n' b' s' y' l' ks' is).zr = .mk k' false g' n' b' s' y' l' ks' is := by unfold Tv.zr; simp [Tv.k, Tv.g, Tv.n, Tv.b, Tv.s, Tv.y, Tv.l, Tv.ks, Tv.is, e2]
      rw [z1, z2, cl_is he]
    by_cases e3 : k' = 3
    · have z1 : (Tv.mk k' f' g' n' b' s' y' l' ks' is').zr = .mk k' f' false 0 b' s' y' l' ks' is' := by unfold Tv.zr; simp [Tv.k, Tv.f, Tv.b, Tv.s, Tv.y, Tv.l, Tv.ks, Tv.is, e3]
      have z2 : (Tv.mk k' f' g' n' b' s' y' l' ks' is).zr = .mk k' f' false 0 b' s' y' l' ks' is := by unfold Tv.zr; simp [Tv.k, Tv.f, Tv.b, Tv.s, Tv.y, Tv.l, Tv.ks, Tv.is, e3]
      rw [z1, z2, cl_is he]
    by_cases e4 : k' = 4
    · have z1 : (Tv.mk k' f' g' n' b' s' y' l' ks' is').zr = .mk k' f' g' n' 0 s' y' l' ks' is' := by unfold Tv.zr; simp [Tv.k, Tv.f, Tv.g, Tv.n, Tv.s, Tv.y, Tv.l, Tv.ks, Tv.is, e4]
      have z2 : (Tv.mk k' f' g' n' b' s' y' l' ks' is).zr = .mk k' f' g' n' 0 s' y' l' ks' is := by unfold Tv.zr; simp [Tv.k, Tv.f, Tv.g, Tv.n, Tv.s, Tv.y, Tv.l, Tv.ks, Tv.is, e4]
      rw [z1, z2, cl_is he]
    by_cases e5 : k' = 5
    · have z1 : (Tv.mk k' f' g' n' b' s' y' l' ks' is').zr = .mk k' f' g' n' b' ⟨#[]⟩ y' l' ks' is' := by unfold Tv.zr; simp [Tv.k, Tv.f, Tv.g, Tv.n, Tv.b, Tv.y, Tv.l, Tv.ks, Tv.is, e5]
      have z2 : (Tv.mk k' f' g' n' b' s' y' l' ks' is).zr = .mk k' f' g' n' b' ⟨#[]⟩ y' l' ks' is := by unfold Tv.zr; simp [Tv.k, Tv.f, Tv.g, Tv.n, Tv.b, Tv.y, Tv.l, Tv.ks, Tv.is, e5]
      rw [z1, z2, cl_is he]
    by_cases e6 : k' = 6
    · have z1 : (Tv.mk k' f' g' n' b' s' y' l' ks' is').zr = .mk k' f' g' n' b' s' [] l' ks' is' := by unfold Tv.zr; simp [Tv.k, Tv.f, Tv.g, Tv.n, Tv.b, Tv.s, Tv.l, Tv.ks, Tv.is, e6]
      have z2 : (Tv.mk k' f' g' n' b' s' y' l' ks' is).zr = .mk k' f' g' n' b' s' [] l' ks' is := by unfold Tv.zr; simp [Tv.k, Tv.f, Tv.g, Tv.n, Tv.b, Tv.s, Tv.l, Tv.ks, Tv.is, e6]
      rw [z1, z2, cl_is he]
    by_cases e7 : k' = 7
    · have z1 : (Tv.mk k' f' g' n' b' s' y' l' ks' is').zr = .mk k' f' g' n' b' s' y' ⟨0, 0, 0, []⟩ ks' is' := by unfold Tv.zr; simp [Tv.k, Tv.f, Tv.g, Tv.n, Tv.b, Tv.s, Tv.y, Tv.ks, Tv.is, e7]
      have z2 : (Tv.mk k' f' g' n' b' s' y' l' ks' is).zr = .mk k' f' g' n' b' s' y' ⟨0, 0, 0, []⟩ ks' is := by unfold Tv.zr; simp [Tv.k, Tv.f, Tv.g, Tv.n, Tv.b, Tv.s, Tv.y, Tv.ks, Tv.is, e7]
      rw [z1, z2, cl_is he]
    by_cases e8 : k' = 8
    · have z1 : (Tv.mk k' f' g' n' b' s' y' l' ks' is').zr = .mk k' f' g' n' b' s' y' l' ks' [] := by unfold Tv.zr; simp [Tv.k, Tv.f, Tv.g, Tv.n, Tv.b, Tv.s, Tv.y, Tv.l, Tv.ks, e8]
      have z2 : (Tv.mk k' f' g' n' b' s' y' l' ks' is).zr = .mk k' f' g' n' b' s' y' l' ks' [] := by unfold Tv.zr; simp [Tv.k, Tv.f, Tv.g, Tv.n, Tv.b, Tv.s, Tv.y, Tv.l, Tv.ks, e8]
      rw [z1, z2]
    by_cases e9 : k' = 9
    · have z1 : (Tv.mk k' f' g' n' b' s' y' l' ks' is').zr = .mk k' f' g' n' b' s' y' l' [] [] := by unfold Tv.zr; simp [Tv.k, Tv.f, Tv.g, Tv.n, Tv.b, Tv.s, Tv.y, Tv.l, e9]
      have z2 : (Tv.mk k' f' g' n' b' s' y' l' ks' is).zr = .mk k' f' g' n' b' s' y' l' [] [] := by unfold Tv.zr; simp [Tv.k, Tv.f, Tv.g, Tv.n, Tv.b, Tv.s, Tv.y, Tv.l, e9]
      rw [z1, z2]
    have z1 : (Tv.mk k' f' g' n' b' s' y' l' ks' is').zr = .mk k' f' g' n' b' s' y' l' ks' is' := by unfold Tv.zr; simp [Tv.k, e2, e3, e4, e5, e6, e7, e8, e9]
    have z2 : (Tv.mk k' f' g' n' b' s' y' l' ks' is).zr = .mk k' f' g' n' b' s' y' l' ks' is := by unfold Tv.zr; simp [Tv.k, e2, e3, e4, e5, e6, e7, e8, e9]
    rw [z1, z2, cl_is he]
  unfold tidyf
  rw [hz]
  rfl
/-! Maps' entries in another order. -/
inductive Trn : Tv → Tv → Prop
  | rest (t w : Tv) (h9 : t.k ≠ 9) (ht : Top t w) (hk : w.ks = t.ks) (hn : w.is.length = t.is.length) (hi : ∀ (i : Nat) (u v : Tv), t.is[i]? = some u → w.is[i]? = some v → Trn u v) : Trn t w
  | map (t w : Tv) (ps : List Nat) (h9 : t.k = 9) (ht : Top t w) (hp : ps.Perm (List.range t.is.length)) (hk : w.ks = pickS t.ks ps) (hn : w.is.length = t.is.length) (hi : ∀ (i p : Nat) (u v : Tv), ps[i]? = some p → t.is[p]? = some u → w.is[i]? = some v → Trn u v) : Trn t w
theorem pickS_perm {ks : List ByteArray} {ps : List Nat} {n : Nat} (hn : ks.length = n) (hp : ps.Perm (List.range n)) : (pickS ks ps).Perm ks := by
  have h1 : (pickS ks ps).Perm (pickS ks (List.range ks.length)) := by
    unfold pickS
    rw [hn]
    exact hp.map _
  rw [pickS_range] at h1
  exact h1
theorem trn_chk {t w : Tv} (h : Trn t w) : ∀ {a : Nat}, chkf t a = 0 → chkf w a = 0 := by
  induction h with
  | rest t w h9 hT hk hn hi ih =>
    intro a h
    obtain ⟨h1, h2⟩ := chkf_0 h
    obtain ⟨c1, c2, c3, c4, c5, c6⟩ := onef_0 h1
    rw [chkf_eq]
    have e : onef w a = 0 := by
      have hz : tidyf w = true := by
        have he : w.is = [] ↔ t.is = [] := by
          rw [← List.length_eq_zero_iff, ← List.length_eq_zero_iff, hn]
        have hie : w.is.isEmpty = t.is.isEmpty := by rw [Bool.eq_iff_iff, List.isEmpty_iff, List.isEmpty_iff, he]
        exact (tidy_top hT hk hie).trans c2
      unfold onef
      rw [hT.k, hz, hT.b, c3, hT.s, hk, c4, hT.l, if_neg c1, if_neg (by simp), if_neg (by simp), if_neg (by simp), if_neg c5, if_neg (fun h => h9 h.1)]
    rw [if_pos e]
    refine chkL_none fun v hv => ?_
    obtain ⟨i, hv⟩ := List.getElem?_of_mem hv
    have hl := (List.getElem?_eq_some_iff.1 hv).1
    have e2 := List.getElem?_eq_getElem (show i < t.is.length by omega)
    exact ih i _ _ e2 hv (h2 _ (List.mem_of_getElem? e2))
  | map t w ps h9 hT hp hk hn hi ih =>
    intro a h
    obtain ⟨h1, h2⟩ := chkf_0 h
    obtain ⟨c1, c2, c3, c4, c5, c6⟩ := onef_0 h1
    have htk := chk_trk h
    obtain ⟨hlen, hnd, _⟩ := htk.m h9
    have hpm := pickS_perm hlen hp
    rw [chkf_eq]
    have e : onef w a = 0 := by
      have hz : tidyf w = true := by
        obtain ⟨b1, b2, b3, b4, b5, b6, b7⟩ := tidy_9 c2 h9
        have ez : w.zr = .mk w.k w.f w.g w.n w.b w.s w.y w.l [] [] := by unfold Tv.zr; simp [hT.k, h9]
        unfold tidyf
        rw [ez, hT.k, hT.f, hT.g, hT.n, hT.b, hT.s, hT.y, hT.l, b1, b2, b3, b4, b5, b6, b7, h9]
        decide
      have hb : w.ks.any badb = t.ks.any badb := by rw [hk]; exact hpm.any_eq
      unfold onef
      rw [hT.k, hz, hT.b, c3, hT.s, hb, c4, hT.l, if_neg c1, if_neg (by simp), if_neg (by simp), if_neg (by simp), if_neg c5, if_neg (fun h => h.2 ⟨by rw [hk, pickS_len, perm_len hp, hn], by rw [hk]; exact hpm.nodup_iff.2 hnd⟩)]
    rw [if_pos e]
    refine chkL_none fun v hv => ?_
    obtain ⟨i, hv⟩ := List.getElem?_of_mem hv
    have hl := (List.getElem?_eq_some_iff.1 hv).1
    have hpl := perm_len hp
    have e0 := List.getElem?_eq_getElem (show i < ps.length by omega)
    have hlt := perm_lt hp e0
    have e2 := List.getElem?_eq_getElem hlt
    exact ih i _ _ _ e0 e2 hv (h2 _ (List.mem_of_getElem? e2))
end
section
open Go.RowKit Go
theorem much_sum : ∀ l : List Tv, tmuchL l = (l.map tmuch).sum
  | [] => by simp [tmuchL]
  | t :: r => by rw [tmuchL, much_sum r]; simp
theorem pick_nat {l ps : List Nat} (hp : ps.Perm (List.range l.length)) : (ps.map fun p => l.getD p 0).sum = l.sum := by
  have h1 : (ps.map fun p => l.getD p 0).Perm ((List.range l.length).map fun p => l.getD p 0) := hp.map _
  have h2 : ((List.range l.length).map fun p => l.getD p 0) = l := by
    refine List.ext_getElem? fun i => ?_
    rw [List.getElem?_map]
    by_cases hi : i < l.length
    · rw [List.getElem?_range hi]
      simp [List.getD, hi]
    · rw [List.getElem?_eq_none (by simpa using hi), List.getElem?_eq_none (by omega)]
      rfl
  rw [h2] at h1
  exact h1.sum_nat
theorem trn_much {t w : Tv} (h : Trn t w) : Trk t → tmuch w = tmuch t := by
  induction h with
  | rest t w h9 hT hk hn hi ih =>
    intro ht
    have e : tmuchL w.is = tmuchL t.is := by
      rw [much_sum, much_sum]
      congr 1
      refine List.ext_getElem? fun i => ?_
      rw [List.getElem?_map, List.getElem?_map]
      by_cases hl : i < t.is.length
      · have e1 := List.getElem?_eq_getElem hl
        have e2 := List.getElem?_eq_getElem (show i < w.is.length by omega)
        rw [e1, e2, Option.map_some, Option.map_some, ih i _ _ e1 e2 (ht.i _ (List.getElem_mem hl))]
      · rw [List.getElem?_eq_none (by omega), List.getElem?_eq_none (by omega)]
    rw [tmuch_eq, tmuch_eq, e, hk, hT.y, hT.s, hT.l]
  | map t w ps h9 hT hp hk hn hi ih =>
    intro ht
    obtain ⟨hlen, _⟩ := ht.m h9
    have hpl := perm_len hp
    have e : tmuchL w.is = tmuchL t.is := by
      rw [much_sum, much_sum, ← pick_nat (l := t.is.map tmuch) (ps := ps) (by rw [List.length_map]; exact hp)]
      congr 1
      refine List.ext_getElem? fun i => ?_
      rw [List.getElem?_map, List.getElem?_map]
      by_cases hl : i < ps.length
      · have e0 := List.getElem?_eq_getElem hl
        have hlt := perm_lt hp e0
        have e1 := List.getElem?_eq_getElem hlt
        have e2 := List.getElem?_eq_getElem (show i < w.is.length by omega)
        rw [e0, e2, Option.map_some, Option.map_some, ih i _ _ _ e0 e1 e2 (ht.i _ (List.getElem_mem hlt))]
        simp [List.getD, hlt]
      · rw [List.getElem?_eq_none (by omega), List.getElem?_eq_none (by omega)]
        rfl
    have hkp := pickS_perm hlen hp
    rw [← hk] at hkp
    have e2 : (w.ks.map fun k => k.size / 64).sum = (t.ks.map fun k => k.size / 64).sum := (hkp.map _).sum_nat
    rw [tmuch_eq, tmuch_eq, e, e2, hkp.length_eq, hT.y, hT.s, hT.l]
theorem srt_trn {t s : Tv} (h : SrtR t s) : Trk t → Trn t s := by
  induction h with
  | rest t s h9 hT hk hn hi ih =>
    intro ht
    exact Trn.rest t s h9 hT hk hn fun i u v hu hv => ih i u v hu hv (ht.i _ (List.mem_of_getElem? hu))
  | map t s ps h9 hT hp hk hn hi ih =>
    intro ht
    obtain ⟨hlen, _⟩ := ht.m h9
    have e : min t.ks.length t.is.length = t.is.length := by omega
    have hpp := hp.p
    rw [e] at hpp
    exact Trn.map t s ps h9 hT hpp hk (by rw [hn, perm_len hpp]) fun i p u v hp' hu hv => ih i p u v hp' hu hv (ht.i _ (List.mem_of_getElem? hu))
end
section
open Go.RowKit Go
/-! ### What follows for a tree and its sorted one -/
theorem nodup_at8 {α : Type} {l : List α} (h : l.Nodup) {i j : Nat} {x : α} (h1 : l[i]? = some x) (h2 : l[j]? = some x) : i = j := by
  obtain ⟨l1, e1⟩ := List.getElem?_eq_some_iff.1 h1
  obtain ⟨l2, e2⟩ := List.getElem?_eq_some_iff.1 h2
  have hp := List.pairwise_iff_getElem.1 h
  rcases Nat.lt_trichotomy i j with h3 | h3 | h3
  · exact absurd (e1.trans e2.symm) (hp i j l1 l2 h3)
  · exact h3
  · exact absurd (e2.trans e1.symm) (hp j i l2 l1 h3)
theorem srt_rsn {t s : Tv} (h : SrtR t s) : Trk t → Rsn s := by
  induction h with
  | rest t s h9 hT hk hn hi ih =>
    intro ht
    refine Rsn.mk s (fun i a b e => ?_) (fun u hu => ?_)
    · rw [hk, ht.e h9] at e; simp at e
    · obtain ⟨i, hi'⟩ := List.getElem?_of_mem hu
      have hl := (List.getElem?_eq_some_iff.1 hi').1
      have e1 := List.getElem?_eq_getElem (show i < t.is.length by omega)
      exact ih i _ u e1 hi' (ht.i _ (List.getElem_mem _))
  | map t s ps h9 hT hp hk hn hi ih =>
    intro ht
    obtain ⟨hlen, hnd, _⟩ := ht.m h9
    have hpl := hp.len
    refine Rsn.mk s (fun i a b ea eb => ?_) (fun u hu => ?_)
    · rw [hk] at ea eb
      unfold pickS at ea eb
      rw [List.getElem?_map] at ea eb
      cases hx : ps[i]? with
      | none => rw [hx] at ea; cases ea
      | some p =>
        cases hy : ps[i + 1]? with
        | none => rw [hy] at eb; cases eb
        | some q =>
          rw [hx] at ea
          rw [hy] at eb
          have lp := hp.lt p (List.mem_of_getElem? hx)
          have lq := hp.lt q (List.mem_of_getElem? hy)
          have e1 := List.getElem?_eq_getElem (show p < t.ks.length by omega)
          have e2 := List.getElem?_eq_getElem (show q < t.ks.length by omega)
          have h3 := hp.s i (i + 1) p q (by omega) hx hy
          simp only [List.getD, e1, e2, Option.getD_some, Option.map_some, Option.some.injEq] at ea eb h3
          rw [← ea, ← eb]
          cases h : bfr (sl t.ks[p]) (sl t.ks[q]) with
          | true => rfl
          | false =>
            have e := sl_inj (bfr_tot h h3)
            rw [← e] at e2
            have hpq := nodup_at8 hnd e1 e2
            rw [← hpq] at hy
            have := nodup_at8 (hp.p.nodup_iff.2 List.nodup_range) hx hy
            omega
    · obtain ⟨i, hi'⟩ := List.getElem?_of_mem hu
      have hl := (List.getElem?_eq_some_iff.1 hi').1
      have e0 := List.getElem?_eq_getElem (show i < ps.length by omega)
      have lp := hp.lt _ (List.getElem_mem (show i < ps.length by omega))
      have e1 := List.getElem?_eq_getElem (show ps[i] < t.is.length by omega)
      exact ih i _ _ u e0 e1 hi' (ht.i _ (List.getElem_mem _))
theorem tb8_of_tin {w : World} {t : Tv} {cs : Array Value} (h : Tin w t cs) : Tb8 t := by
  induction h with
  | mk t vy vk a cap cs hn hb hs hy hyl hl hld hk hc hm hi ha ih =>
    exact Tb8.mk t hn hb (by omega) (by omega) (by omega) (fun s h => by have := hk.size s h; omega) hy.byte hl.d (fun u hu => by
      obtain ⟨i, e⟩ := List.getElem?_of_mem hu
      exact ih i u e)
theorem hl_le8 (m n : Nat) : (hl m n).length ≤ 9 := by
  rw [hl_len7]
  have := hwide_le (hinfo n)
  unfold hsize
  omega
theorem kfm_le8 (s : ByteArray) : (kfm s).length ≤ 72 + 64 * (s.size / 64) := by
  unfold kfm
  rw [List.length_append, sl_len7]
  have := hl_le8 3 (sl s).length
  rw [sl_len7] at this
  omega
theorem tfmK_le8 : ∀ {ks : List ByteArray} {is : List Tv}, ks.length = is.length → (tfmK ks is).length ≤ 72 * ks.length + 64 * (ks.map fun k => k.size / 64).sum + (tfmL is).length
  | [], [], _ => by simp [tfmK]
  | [], _ :: _, h => by simp at h
  | _ :: _, [], h => by simp at h
  | k :: ks, t :: is, h => by
    have h1 := tfmK_le8 (ks := ks) (is := is) (by simpa using h)
    have h2 := kfm_le8 k
    simp only [tfmK, tfmL, List.length_append, List.map_cons, List.sum_cons, List.length_cons]
    omega
theorem tfmL_le8 : ∀ {l : List Tv}, (∀ u ∈ l, (tfm u).length ≤ 100 * tmuch u) → (tfmL l).length ≤ 100 * tmuchL l
  | [], _ => by simp [tfmL, tmuchL]
  | t :: r, h => by
    rw [tfmL, tmuchL, List.length_append]
    have h1 := h t (List.mem_cons_self ..)
    have h2 := tfmL_le8 (l := r) (fun u hu => h u (List.mem_cons_of_mem _ hu))
    omega
/-- A form is no longer than the value is great. -/
theorem tfm_le8 : ∀ (N : Nat) (t : Tv), SizeOf.sizeOf t = N → ∀ a, chkf t a = 0 → (tfm t).length ≤ 100 * tmuch t := by
  intro N
  induction N using Nat.strongRecOn with
  | _ N ih =>
    intro t hN a hc
    obtain ⟨h1, h2⟩ := chkf_0 hc
    have hL := tfmL_le8 (l := t.is) (fun u hu => ih _ (by have := Tv.is_lt hu; omega) u rfl _ (h2 u hu))
    obtain ⟨_, htd, _, _, hlk, hks⟩ := onef_0 h1
    obtain ⟨hk1, hk9, _⟩ := tidy_k htd
    have hll : t.k = 7 → (lbytes t.l).length ≤ 76 := fun h7 => lbytes_len (Classical.byContradiction fun h => hlk ⟨h7, h⟩)
    have hlen : t.k = 9 → t.ks.length = t.is.length := fun h9 => Classical.byContradiction fun h => hks ⟨h9, fun x => h x.1⟩
    clear ih h1 h2 hc htd hlk hks hN
    obtain ⟨k, f, g, n, c, s, y, l, ks, is⟩ := t
    simp only [Tv.k, Tv.l, Tv.ks, Tv.is] at *
    rw [tmuch]
    unfold tfm
    have hk : k = 1 ∨ k = 2 ∨ k = 3 ∨ k = 4 ∨ k = 5 ∨ k = 6 ∨ k = 7 ∨ k = 8 ∨ k = 9 := by omega
    rcases hk with rfl | rfl | rfl | rfl | rfl | rfl | rfl | rfl | rfl
    · simp; omega
    · simp; omega
    · simp
      have := hl_le8 (if g = true then 1 else 0) n
      omega
    · simp [be_len]; omega
    · simp
      have := kfm_le8 s
      omega
    · simp
      have := hl_le8 2 y.length
      omega
    · simp
      have h3 := hll rfl
      have h4 := hl_le8 6 42
      have h5 := hl_le8 2 (1 + (lbytes l).length)
      omega
    · simp
      have := hl_le8 4 is.length
      omega
    · simp
      have h3 := hl_le8 5 is.length
      have h4 := tfmK_le8 (hlen rfl)
      omega
theorem kfm_byte8 (s : ByteArray) : ∀ x ∈ kfm s, x < 256 := by
  intro x hx
  unfold kfm at hx
  rcases List.mem_append.1 hx with h | h
  · exact hl_byte 3 _ (by omega) x h
  · exact sl_byte s x h
theorem tfmL_byte8 : ∀ {l : List Tv}, (∀ u ∈ l, ∀ x ∈ tfm u, x < 256) → ∀ x ∈ tfmL l, x < 256
  | [], _ => by simp [tfmL]
  | t :: r, h => by
    intro x hx
    rw [tfmL] at hx
    rcases List.mem_append.1 hx with h1 | h1
    · exact h t (List.mem_cons_self ..) x h1
    · exact tfmL_byte8 (l := r) (fun u hu => h u (List.mem_cons_of_mem _ hu)) x h1
theorem tfmK_byte8 : ∀ {ks : List ByteArray} {l : List Tv}, (∀ u ∈ l, ∀ x ∈ tfm u, x < 256) → ∀ x ∈ tfmK ks l, x < 256
  | [], l, _ => by intro x hx; rw [tfmK] at hx; cases hx
  | k :: ks, [], h => by
    intro x hx
    rw [tfmK] at hx
    rcases List.mem_append.1 hx with h1 | h1
    · exact kfm_byte8 k x h1
    · exact tfmK_byte8 (ks := ks) (l := []) h x h1
  | k :: ks, t :: r, h => by
    intro x hx
    rw [tfmK] at hx
    rcases List.mem_append.1 hx with h1 | h1
    · exact kfm_byte8 k x h1
    rcases List.mem_append.1 h1 with h2 | h2
    · exact h t (List.mem_cons_self ..) x h2
    · exact tfmK_byte8 (ks := ks) (l := r) (fun u hu => h u (List.mem_cons_of_mem _ hu)) x h2
/-- A form is made of bytes. -/
theorem tfm_byte8 : ∀ (N : Nat) (t : Tv), SizeOf.sizeOf t = N → ∀ a, chkf t a = 0 → Tb8 t → ∀ x ∈ tfm t, x < 256 := by
  intro N
  induction N using Nat.strongRecOn with
  | _ N ih =>
    intro t hN a hc hT
    obtain ⟨h1, h2⟩ := chkf_0 hc
    obtain ⟨_, _, _, _, _, _, hyb, hld, bc⟩ := hT.get
    have hL : ∀ u ∈ t.is, ∀ x ∈ tfm u, x < 256 := fun u hu => ih _ (by have := Tv.is_lt hu; omega) u rfl _ (h2 u hu) (bc u hu)
    obtain ⟨_, htd, _, _, hlk, hks⟩ := onef_0 h1
    obtain ⟨hk1, hk9, _⟩ := tidy_k htd
    have hll : t.k = 7 → ∀ x ∈ lbytes t.l, x < 256 := fun h7 => lbytes_byte (Classical.byContradiction fun h => hlk ⟨h7, h⟩) hld
    have hL1 := tfmL_byte8 hL
    have hL2 := tfmK_byte8 (ks := t.ks) hL
    clear ih h1 h2 hc htd hlk hks hN hL bc hT
    obtain ⟨k, f, g, n, c, s, y, l, ks, is⟩ := t
    simp only [Tv.k, Tv.l, Tv.ks, Tv.is, Tv.y] at *
    unfold tfm
    have hk : k = 1 ∨ k = 2 ∨ k = 3 ∨ k = 4 ∨ k = 5 ∨ k = 6 ∨ k = 7 ∨ k = 8 ∨ k = 9 := by omega
    intro x
    rcases hk with rfl | rfl | rfl | rfl | rfl | rfl | rfl | rfl | rfl
    · simp; omega
    · simp
      cases f <;> simp <;> omega
    · simp only [show ¬ ((3 : Int) = 1) by decide, show ¬ ((3 : Int) = 2) by decide, if_false, if_true]
      exact hl_byte _ _ (by cases g <;> simp) x
    · simp
      rintro (h | h)
      · omega
      · exact be_byte _ _ _ h
    · simp
      exact kfm_byte8 s x
    · simp
      rintro (h | h)
      · exact hl_byte _ _ (by omega) x h
      · exact hyb x h
    · simp
      rintro (h | h | h | h)
      · exact hl_byte _ _ (by omega) x h
      · exact hl_byte _ _ (by omega) x h
      · omega
      · exact hll rfl x h
    · simp
      rintro (h | h)
      · exact hl_byte _ _ (by omega) x h
      · exact hL1 x h
    · simp
      rintro (h | h)
      · exact hl_byte _ _ (by omega) x h
      · exact hL2 x h
/-- What stands fast of a tree's sorted one. -/
structure Thr (t s : Tv) : Prop where
  c : chkf s 0 = 0
  r : Rsn s
  b : Tb8 s
  d : tdepth s = tdepth t
  l : (tfm s).length ≤ 2000000
  m : tmuch s ≤ 20000
  p : Ptr s
  x : tdepth t ≤ 1024
  y : ∀ x ∈ tfm s, x < 256
theorem chk_deep : ∀ (N : Nat) (t : Tv), SizeOf.sizeOf t = N → ∀ a, a ≤ 1024 → chkf t a = 0 → tdepth t + a ≤ 1024 := by
  intro N
  induction N using Nat.strongRecOn with
  | _ N ih =>
    intro t hN a ha hc
    obtain ⟨h1, h2⟩ := chkf_0 hc
    obtain ⟨h3, _⟩ := onef_0 h1
    rw [tdepth_eq]
    by_cases h89 : t.k = 8 ∨ t.k = 9
    · rw [if_pos h89]
      have ha2 : a < 1024 := by
        rcases Nat.lt_or_ge a 1024 with h | h
        · exact h
        · exact absurd ⟨h89, h⟩ h3
      have := tdepthL_le (l := t.is) (n := 1024 - (a + 1)) (fun u hu => by
        have := ih _ (by have := Tv.is_lt hu; omega) u rfl (a + 1) (by omega) (h2 u hu)
        omega)
      omega
    · rw [if_neg h89]; omega
theorem Thr.read {t s : Tv} (h : Thr t s) {d : Nat} (hd : tdepth t ≤ d) (tl : List Nat) : ∃ N, mrun (tfm s ++ tl) d N m0 = some ⟨0, (tfm s).length, s⟩ := tree_read h.c h.r h.b (by rw [h.d]; exact hd) tl
theorem Thr.all {t s : Tv} (h : Thr t s) {d : Nat} (hd : tdepth t ≤ d) : ∃ N, mrun (tfm s) d N m0 = some ⟨0, (tfm s).length, s⟩ := by
  have := h.read hd []
  rw [List.append_nil] at this
  exact this
end
section
open Go.RowKit Go
/-! ### There is a sorted value -/
theorem all_ex8 : ∀ {l : List Tv}, (∀ u ∈ l, ∃ s, SrtR u s) → ∃ js : List Tv, js.length = l.length ∧ ∀ (i : Nat) (u v : Tv), l[i]? = some u → js[i]? = some v → SrtR u v
  | [], _ => ⟨[], rfl, fun i u v h => by simp at h⟩
  | t :: r, h => by
    obtain ⟨s, hs⟩ := h t (List.mem_cons_self ..)
    obtain ⟨js, h1, h2⟩ := all_ex8 (l := r) (fun u hu => h u (List.mem_cons_of_mem _ hu))
    refine ⟨s :: js, by simp [h1], fun i u v hu hv => ?_⟩
    cases i with
    | zero =>
      simp at hu hv
      rw [← hu, ← hv]
      exact hs
    | succ i => exact h2 i u v (by simpa using hu) (by simpa using hv)
theorem srt_ex8 : ∀ (N : Nat) (t : Tv), SizeOf.sizeOf t = N → ∃ s, SrtR t s := by
  intro N
  induction N using Nat.strongRecOn with
  | _ N ih =>
    intro t hN
    obtain ⟨js, hl, hj⟩ := all_ex8 (l := t.is) (fun u hu => ih _ (by have := Tv.is_lt hu; omega) u rfl)
    by_cases h9 : t.k = 9
    · have hp := ordp_srp t.ks (min t.ks.length t.is.length)
      refine ⟨t.wp js (ordp t.ks (min t.ks.length t.is.length)), SrtR.map t _ _ h9 ⟨rfl, rfl, rfl, rfl, rfl, rfl, rfl, rfl⟩ hp rfl (by simp [Tv.wp, Tv.is, pickT]) (fun i p u v h1 h2 h3 => ?_)⟩
      have hlt := (List.getElem?_eq_some_iff.1 h2).1
      have h4 : (pickT js (ordp t.ks (min t.ks.length t.is.length)))[i]? = some v := h3
      rw [pickT_get h1 (by omega)] at h4
      exact hj p u v h2 h4
    · exact ⟨.mk t.k t.f t.g t.n t.b t.s t.y t.l t.ks js, SrtR.rest t _ h9 ⟨rfl, rfl, rfl, rfl, rfl, rfl, rfl, rfl⟩ rfl hl hj⟩
theorem srt7_ex {t s : Tv} (hm : tmuch t ≤ 6000000) (hc : chkf t 0 = 0) (hr : SrtR t s) : SrtC7 t s := fun w cs ht => by
  refine (sorted6_any t w cs ht hm).mono ?_
  rintro e w' ⟨c', s', rfl, hs, hn, hb⟩
  have e := srt_one hr (chk_trk hc) hs
  exact ⟨c', rfl, e ▸ hn.tin, hb⟩
theorem chk7_0 {t : Tv} (hm : tmuch t ≤ 6000000) (hc : chkf t 0 = 0) : ChkC7 t 0 := by
  have := chk7_of hm
  rw [hc] at this
  exact this
theorem much_tb8 {t s : Tv} (hr : SrtR t s) : Trk t → Tb8 t → Tb8 s := by
  induction hr with
  | rest t s h9 hT hk hn hi ih =>
    intro ht hb
    obtain ⟨a1, a2, a3, a4, a5, a6, a8, a9, a7⟩ := hb.get
    refine Tb8.mk s (by rw [hT.n]; exact a1) (by rw [hT.b]; exact a2) (by rw [hT.s]; exact a3) (by rw [hT.y]; exact a4) (by omega) (by rw [hk]; exact a6) (by rw [hT.y]; exact a8) (by rw [hT.l]; exact a9) (fun u hu => ?_)
    obtain ⟨i, hi'⟩ := List.getElem?_of_mem hu
    have hl := (List.getElem?_eq_some_iff.1 hi').1
    have e1 := List.getElem?_eq_getElem (show i < t.is.length by omega)
    exact ih i _ u e1 hi' (ht.i _ (List.getElem_mem _)) (a7 _ (List.getElem_mem _))
  | map t s ps h9 hT hp hk hn hi ih =>
    intro ht hb
    obtain ⟨a1, a2, a3, a4, a5, a6, a8, a9, a7⟩ := hb.get
    obtain ⟨hlen, _, _⟩ := ht.m h9
    have hpl := hp.len
    refine Tb8.mk s (by rw [hT.n]; exact a1) (by rw [hT.b]; exact a2) (by rw [hT.s]; exact a3) (by rw [hT.y]; exact a4) (by omega) (fun k hks => ?_) (by rw [hT.y]; exact a8) (by rw [hT.l]; exact a9) (fun u hu => ?_)
    · rw [hk] at hks
      exact a6 k (pickS_mem hks (fun p h => by have := hp.lt p h; omega))
    · obtain ⟨i, hi'⟩ := List.getElem?_of_mem hu
      have hl := (List.getElem?_eq_some_iff.1 hi').1
      have e0 := List.getElem?_eq_getElem (show i < ps.length by omega)
      have lp := hp.lt _ (List.getElem_mem (show i < ps.length by omega))
      have e1 := List.getElem?_eq_getElem (show ps[i] < t.is.length by omega)
      exact ih i _ _ u e0 e1 hi' (ht.i _ (List.getElem_mem _)) (a7 _ (List.getElem_mem _))
end
section
open Go.RowKit Go
/-! ### lays, tree, num -/
theorem num7_any (n : Int) (w : World) : Calls Tryz.prog 21 #[.int .i64 n] w fun e w' => e = .returned (.int .i64 n) ∧ w' = w := by
  go_enter Tryz.func21, Tryz.ntmps21
  go_wp2_with fail
  go_ret
  exact ⟨rfl, rfl⟩
def tOne7 : Tv := .mk 3 false false 1 0 ⟨#[]⟩ [] ⟨0, 0, 0, []⟩ [] []
def tA7 : Tv := .mk 5 false false 0 0 ⟨#[97]⟩ [] ⟨0, 0, 0, []⟩ [] []
def tLa7 : Tv := .mk 8 false false 0 0 ⟨#[]⟩ [] ⟨0, 0, 0, []⟩ [] [tOne7, tA7]
theorem lkb7 : Lkb ⟨0, 0, 0, []⟩ := ⟨by show 0 < _; decide, by show 0 < _; decide, by simp, by show 0 ≤ _; decide⟩
theorem bsl7 (w : World) : BSl w (.slice none 0 0) [] := ⟨⟨none, 0, rfl, ⟨by simp, fun _ => rfl⟩, .inl rfl⟩, by simp, by simp⟩
theorem ssl7 (w : World) : SSl w (.slice none 0 0) [] := ⟨⟨none, 0, rfl, ⟨by simp, fun _ => rfl⟩, .inl rfl⟩, by simp, by simp⟩
theorem vsl7 (w : World) : VSl w (.slice none 0 0) [] := ⟨⟨none, 0, rfl, ⟨by simp, fun _ => rfl⟩, .inl rfl⟩, by simp⟩
def cOne7 : Array Value := vcs tOne7 (.slice none 0 0) (.slice none 0 0) (.slice none 0 0)
def cA7 : Array Value := vcs tA7 (.slice none 0 0) (.slice none 0 0) (.slice none 0 0)
theorem tin_one7 (w : World) : Tin w tOne7 cOne7 := Tin.of (bsl7 w) (ssl7 w) (vsl7 w) ⟨by show 1 < _; decide, by show 0 < _; decide, by show (0 : Nat) ≤ _; decide, by show (0 : Nat) ≤ _; decide, lkb7, by show (0 : Nat) ≤ _; decide⟩
theorem tin_a7 (w : World) : Tin w tA7 cA7 := Tin.of (bsl7 w) (ssl7 w) (vsl7 w) ⟨by show 0 < _; decide, by show 0 < _; decide, by show (1 : Nat) ≤ _; decide, by show (0 : Nat) ≤ _; decide, lkb7, by show (0 : Nat) ≤ _; decide⟩
theorem la_tin7 (w : World) : Tin (w.alloc (.cells (cOne7 ++ cA7) 65)) tLa7 (vcs tLa7 (.slice none 0 0) (.slice none 0 0) (.slice (some ⟨w.heap.size, 0, none⟩) 2 2)) := by
  have hI := heap_alloc_new w (.cells (cOne7 ++ cA7) 65)
  refine Tin.of (bsl7 _) (ssl7 _) ?_ ⟨by show 0 < _; decide, by show 0 < _; decide, by show (0 : Nat) ≤ _; decide, by show (0 : Nat) ≤ _; decide, lkb7, by show (0 : Nat) ≤ _; decide⟩
  refine ⟨⟨_, 2, rfl, ⟨by decide, fun h => by cases h⟩, .inr ⟨w.heap.size, 0, rfl, fun i t hi => ?_⟩⟩, by decide⟩
  match i, hi with
  | 0, hi =>
    injection hi with hi
    subst hi
    refine ⟨_, tin_one7 _, fun j u hu => ?_⟩
    rw [show 0 + 0 * 13 + j = j by omega]
    have hj : j < 13 := (Array.getElem?_eq_some_iff.1 hu).1
    exact blk_cell hI (by rw [Array.getElem?_append_left (by exact hj)]; exact hu)
  | 1, hi =>
    injection hi with hi
    subst hi
    refine ⟨_, tin_a7 _, fun j u hu => ?_⟩
    rw [show 0 + 1 * 13 + j = 13 + j by omega]
    exact blk_cell hI (by rw [Array.getElem?_append_right (by show 13 ≤ 13 + j; omega)]; show cA7[13 + j - 13]? = some u; rw [Nat.add_sub_cancel_left]; exact hu)
  | i + 2, hi => simp [tLa7, Tv.is] at hi
theorem la_chk7 : chkf tLa7 0 = 0 := by kernel_rfl
theorem la_rsn7 : Rsn tLa7 := Rsn.mk _ (fun i s s' h => by simp [tLa7, Tv.ks] at h) (fun u hu => by
  simp only [tLa7, Tv.is, List.mem_cons, List.not_mem_nil, or_false] at hu
  rcases hu with rfl | rfl
  · exact Rsn.mk _ (fun i s s' h => by simp [tOne7, Tv.ks] at h) (fun u hu => by cases hu)
  · exact Rsn.mk _ (fun i s s' h => by simp [tA7, Tv.ks] at h) (fun u hu => by cases hu))
theorem la_much7 : tmuch tLa7 ≤ 6000000 := by
  have : tmuch tLa7 = 3 := by kernel_rfl
  omega
theorem la_form7 : tfm tLa7 = [130, 1, 97, 97] := by
  unfold tLa7 tOne7 tA7
  simp [tfm, tfmL, kfm]
  decide
theorem nul_chk7 : chkf (tz8 0) 0 = 61 := by kernel_rfl
theorem nul_much7 : tmuch (tz8 0) ≤ 6000000 := by
  have : tmuch (tz8 0) = 1 := by kernel_rfl
  omega
theorem nul_tin7 (w : World) : Tin w (tz8 0) (vcs (tz8 0) (.slice none 0 0) (.slice none 0 0) (.slice none 0 0)) := Tin.of (bsl7 w) (ssl7 w) (vsl7 w) ⟨by show 0 < _; decide, by show 0 < _; decide, by show (0 : Nat) ≤ _; decide, by show (0 : Nat) ≤ _; decide, lkb7, by show (0 : Nat) ≤ _; decide⟩
set_option maxRecDepth 1000000 in
set_option maxHeartbeats 2000000 in
theorem lays7_any (w : World) (hT : Tabs w) : Calls Tryz.prog 16 #[] w fun e w' => e = .returned (.bool true) ∧ Below w.heap.size w w' := by
  have HT := hide hT
  have HB1 : Hid (Below w.heap.size w (w.alloc (.cells #[.int .i64 3, .bool false, .bool false, .int .u64 1, .int .u64 0, .string ⟨#[]⟩, .slice none 0 0, .int .i64 0, .int .u64 0, .int .u64 0, .string ⟨#[]⟩, .slice none 0 0, .slice none 0 0, .int .i64 5, .bool false, .bool false, .int .u64 0, .int .u64 0, .string ⟨#[97]⟩, .slice none 0 0, .int .i64 0, .int .u64 0, .int .u64 0, .string ⟨#[]⟩, .slice none 0 0, .slice none 0 0] 65))) := below_alloc4 w _
  have HE : Hid (Calls Tryz.prog 19 #[.agg #[.int .i64 8, .bool false, .bool false, .int .u64 0, .int .u64 0, .string ⟨#[]⟩, .slice none 0 0, .int .i64 0, .int .u64 0, .int .u64 0, .string ⟨#[]⟩, .slice none 0 0, .slice (some ⟨w.heap.size, 0, none⟩) 2 2]] (w.alloc (.cells #[.int .i64 3, .bool false, .bool false, .int .u64 1, .int .u64 0, .string ⟨#[]⟩, .slice none 0 0, .int .i64 0, .int .u64 0, .int .u64 0, .string ⟨#[]⟩, .slice none 0 0, .slice none 0 0, .int .i64 5, .bool false, .bool false, .int .u64 0, .int .u64 0, .string ⟨#[97]⟩, .slice none 0 0, .int .i64 0, .int .u64 0, .int .u64 0, .string ⟨#[]⟩, .slice none 0 0, .slice none 0 0] 65)) (AppP (w.alloc (.cells #[.int .i64 3, .bool false, .bool false, .int .u64 1, .int .u64 0, .string ⟨#[]⟩, .slice none 0 0, .int .i64 0, .int .u64 0, .int .u64 0, .string ⟨#[]⟩, .slice none 0 0, .slice none 0 0, .int .i64 5, .bool false, .bool false, .int .u64 0, .int .u64 0, .string ⟨#[97]⟩, .slice none 0 0, .int .i64 0, .int .u64 0, .int .u64 0, .string ⟨#[]⟩, .slice none 0 0, .slice none 0 0] 65)) [] [130, 1, 97, 97])) := by
    have h := encode_good (w.alloc (.cells (cOne7 ++ cA7) 65)) tLa7 tLa7 _ (chk7_0 la_much7 la_chk7) (srt7_of la_much7 la_chk7 la_rsn7) (chk_ptr la_chk7) (by rw [la_form7]; decide) (la_tin7 w) (hT.next (below_alloc4 w _))
    rw [la_form7] at h
    exact h
  clear hT
  go_enter Tryz.func16, Tryz.ntmps16
  go_wp2_with fail
  refine HE.out.mono ?_
  rintro e w2 ⟨vb, rfl, ho2, hb2⟩
  have HB2 : Hid (Below w.heap.size w w2) := HB1.out.trans (hb2.mono HB1.out.size)
  have HV2 : Hid (BSl w2 vb [130, 1, 97, 97]) := BSl.own (by simpa using ho2) (by decide)
  clear ho2 hb2
  have HE2 : Hid (Calls Tryz.prog 19 #[.agg #[.int .i64 0, .bool false, .bool false, .int .u64 0, .int .u64 0, .string ⟨#[]⟩, .slice none 0 0, .int .i64 0, .int .u64 0, .int .u64 0, .string ⟨#[]⟩, .slice none 0 0, .slice none 0 0]] w2 fun e w' => e = .returned (.tuple #[.slice none 0 0, .int .i64 61]) ∧ Below w2.heap.size w2 w') := encode_bad w2 (tz8 0) _ 61 (by decide) (by have h := chk7_of nul_much7; rw [nul_chk7] at h; exact h) (nul_tin7 w2) (HT.out.next HB2.out)
  go_wp2_with fail
  refine HE2.out.mono ?_
  rintro e w3 ⟨rfl, hb3⟩
  have HB3 : Hid (Below w.heap.size w w3) := HB2.out.trans (hb3.mono HB2.out.size)
  have HV3 := hide (HV2.out.move (keep_below hb3))
  clear hb3 HE HE2 HB1
  go_wp2_with fail
  refine (num7_any _ w3).mono ?_
  rintro e w9 ⟨rfl, hw9⟩
  have hw9 := hw9.symm
  subst hw9
  have hns : nstr [130, 1, 97, 97] = ⟨#[130, 1, 97, 97]⟩ := by kernel_rfl
  have htx := HV3.out.text
  rw [hns] at htx
  clear hns
  go_wp2_with fail
  refine (num7_any _ w3).mono ?_
  rintro e w9 ⟨rfl, hw9⟩
  have hw9 := hw9.symm
  subst hw9
  go_wp2_with fail
  go_ret
  exact ⟨rfl, HB3.out⟩
end
section
open Go.RowKit Go
/-! ### Forms: alike just if the trees are equal, and none is the beginning of another -/
theorem thr_ex7 {w : World} {t : Tv} {cs : Array Value} (ht : Tin w t cs) (hc : chkf t 0 = 0) (hm : tmuch t ≤ 20000) : ∃ s, SrtR t s ∧ Thr t s := by
  obtain ⟨s, hs⟩ := srt_ex8 _ t rfl
  have hT := chk_trk hc
  have hn := srt_trn hs hT
  have hcs := trn_chk hn hc
  have hms : tmuch s ≤ 20000 := by rw [trn_much hn hT]; exact hm
  have hd := srt_depth hs hT
  have hx := chk_deep _ t rfl 0 (by omega) hc
  exact ⟨s, hs, ⟨hcs, srt_rsn hs hT, much_tb8 hs hT (tb8_of_tin ht), hd, by have := tfm_le8 _ s rfl 0 hcs; omega, hms, chk_ptr hcs, by omega, tfm_byte8 _ s rfl 0 hcs (much_tb8 hs hT (tb8_of_tin ht))⟩⟩
/-! ### A form is as long as that of the sorted one -/
set_option maxRecDepth 1000000 in
set_option maxHeartbeats 4000000 in
/-- Size of a tree: its form's length, entries as they stand. -/
theorem sizeTop7 (w : World) (t : Tv) (cs : Array Value) (hc : ChkC7 t 0) (hp : Ptr t) (hl : (tfm t).length ≤ 1000000000) (ht : Tin w t cs) (hT : Tabs w) : Calls Tryz.prog 24 #[.agg cs] w fun e w' => e = .returned (.tuple #[.int .i64 ((tfm t).length : Nat), .int .i64 0]) ∧ Below w.heap.size w w' := by
  have hb0 := below_alloc4 w (.cells cs 65)
  have HB0 := hide hb0
  have HG0 := hide (heap_alloc_new w (.cells cs 65))
  have HSZ := hide ht.size13
  have HTN := hide ht
  have HPT := hide hp
  have HL := hide hl
  have HCK := hide (hc (w.alloc (.cells cs 65)) cs (ht.move (keep_below hb0)) (hT.next hb0))
  clear hc ht hT hb0 hp hl
  go_enter Tryz.func24, Tryz.ntmps24
  go_upto_region 1 with fail
  generalize w.alloc (.cells cs 65) = w0 at *
  have HVC : Hid (∀ j u, cs[j]? = some u → w0.cell? ⟨w.heap.size, 0 + j, none⟩ = some u) := fun j u hu => by rw [Nat.zero_add]; exact blk_cell HG0.out hu
  go_wp2_with (refine wpList_exec rfl (exec_valAt (g := w.heap.size) (off := 0) (cs := cs) rfl rfl HSZ.out HVC.out) ?_)
  refine HCK.out.mono ?_
  rintro e w1 ⟨rfl, hb1⟩
  have HB1 : Hid (Below w.heap.size w w1) := HB0.out.trans (hb1.mono HB0.out.size)
  have HV1 : Hid (∀ j u, cs[j]? = some u → w1.cell? ⟨w.heap.size, 0 + j, none⟩ = some u) := fun j u hu => keep_below hb1 _ _ (HVC.out j u hu)
  have HP1 := hide (partOf_any w1 (fun _ => False) (fun _ h => False.elim h) t cs (Tis.of_tin (HTN.out.move (keep_below HB1.out)) (fun _ h => False.elim h)))
  clear hb1 HVC HCK
  go_wp2_with (refine wpList_exec rfl (exec_valAt (g := w.heap.size) (off := 0) (cs := cs) rfl rfl HSZ.out HV1.out) ?_)
  refine HP1.out.mono ?_
  rintro e w2 ⟨v2, rfl, hb2, hp2⟩
  have HB2 : Hid (Below w.heap.size w w2) := HB1.out.trans (hb2.mono HB1.out.size)
  have HPA : Hid (pall (prt t) = tfm t) := pall_prt HPT.out
  have HS2 := hide (size7_any (prt t) w2 _ v2 (fun _ h => False.elim h) hp2 (pok_prt HPT.out) (by rw [HPA.out]; exact HL.out))
  rw [HPA.out] at HS2
  clear hb2 hp2 HP1 HV1
  go_wp2_with fail
  refine HS2.out.mono ?_
  rintro e w3 ⟨rfl, hb3⟩
  have HB3 : Hid (Below w.heap.size w w3) := HB2.out.trans (hb3.mono HB2.out.size)
  clear hb3 HS2
  go_wp2_with fail
  go_ret2
  exact ⟨rfl, HB3.out⟩
end
section
open Go.RowKit Go
/-- Values in a row of their own, what they point to elsewhere. -/
structure Trw (w0 wx : World) (B : Nat) (v : Value) (ms : List Tv) (L : List (Array Value)) : Prop where
  o : wx.ownsRow B 65 13 v L.length (vfl L)
  n : L.length = ms.length
  h : ∀ c ∈ L, c.size = 13
  t : ∀ (i : Nat) (u : Tv) (c : Array Value), ms[i]? = some u → L[i]? = some c → Tin w0 u c
theorem Trw.next {w0 wx wy : World} {B : Nat} {v : Value} {ms : List Tv} {L : List (Array Value)} (h : Trw w0 wx B v ms L) (hb : Below wx.heap.size wx wy) : Trw w0 wy B v ms L :=
  ⟨(Kp.of_below (S := fun _ => False) hb).owns h.o (fun _ _ e => e), h.n, h.h, h.t⟩
theorem Trw.vsl {w0 wx : World} {B : Nat} {v : Value} {ms : List Tv} {L : List (Array Value)} (h : Trw w0 wx B v ms L) (hb : Below w0.heap.size w0 wx) (hl : ms.length ≤ 140737488351232) : VSl wx v ms := by
  have hn := h.n
  rcases id h.o.2 with ⟨e, h0⟩ | ⟨g, cap, cur, e, _, _, h1, _⟩
  · subst e
    have e2 : ms = [] := List.length_eq_zero_iff.1 (by omega)
    subst e2
    exact ⟨⟨none, 0, rfl, ⟨by simp, fun _ => rfl⟩, .inl rfl⟩, hl⟩
  · subst e
    refine ⟨⟨_, cap, by rw [hn], ⟨by omega, fun h => by cases h⟩, .inr ⟨g, 0, rfl, fun i u hu => ?_⟩⟩, hl⟩
    have hil := (List.getElem?_eq_some_iff.1 hu).1
    have hc : L[i]? = some (L[i]'(by omega)) := List.getElem?_eq_getElem (by omega)
    refine ⟨_, (h.t i u _ hu hc).move (keep_below hb), fun j v hj => ?_⟩
    rw [Nat.zero_add]
    exact own_val h.o h.h hc j v hj
theorem Trw.snoc {w0 wx wy : World} {B : Nat} {v v2 : Value} {ms : List Tv} {L : List (Array Value)} {u : Tv} {c : Array Value} (h : Trw w0 wx B v ms L) (ho : wy.ownsRow B 65 13 v2 (L.length + 1) (vfl L ++ c.toList)) (hc : c.size = 13) (hu : Tin w0 u c) : Trw w0 wy B v2 (ms ++ [u]) (L ++ [c]) := by
  refine ⟨?_, by simp [h.n], ?_, ?_⟩
  · rw [List.length_append, vfl_app]
    have e : vfl [c] = c.toList := by simp [vfl]
    rw [e]
    exact ho
  · intro d hd
    rcases List.mem_append.1 hd with hd | hd
    · exact h.h d hd
    · rw [List.mem_singleton.1 hd]
      exact hc
  · intro i x d hx hd
    have hn := h.n
    rcases Nat.lt_or_ge i ms.length with h1 | h1
    · rw [List.getElem?_append_left h1] at hx
      rw [List.getElem?_append_left (by omega)] at hd
      exact h.t i x d hx hd
    · rw [List.getElem?_append_right h1] at hx
      rw [List.getElem?_append_right (by omega)] at hd
      have e1 := (List.getElem?_eq_some_iff.1 hx).1
      simp at e1
      have e2 : i - ms.length = 0 := by omega
      have e3 : i - L.length = 0 := by omega
      rw [e2] at hx
      rw [e3] at hd
      simp at hx hd
      rw [← hx, ← hd]
      exact hu
end
section
open Go.RowKit Go
/-! ### LayOne, its first loop: the trees, their forms, all of them behind each other -/
end
section
open Go.RowKit Go
/-! ### A form is as long, whatever the entries' order -/
theorem tfm_of7 (t : Tv) : tfm t = (if t.k = 1 then [246] else if t.k = 2 then [if t.f = true then 245 else 244] else if t.k = 3 then hl (if t.g = true then 1 else 0) t.n else if t.k = 4 then 251 :: be 8 t.b else if t.k = 5 then kfm t.s else if t.k = 6 then hl 2 t.y.length ++ t.y else if t.k = 7 then hl 6 42 ++ (hl 2 (1 + (lbytes t.l).length) ++ 0 :: lbytes t.l) else if t.k = 8 then hl 4 t.is.length ++ tfmL t.is else if t.k = 9 then hl 5 t.is.length ++ tfmK t.ks t.is else []) := by
  cases t
  rw [tfm]
  rfl
theorem tfmL_sum : ∀ l : List Tv, (tfmL l).length = (l.map fun t => (tfm t).length).sum
  | [] => by simp [tfmL]
  | t :: r => by rw [tfmL, List.length_append, tfmL_sum r]; simp
theorem tfmK_sum : ∀ (ks : List ByteArray) (is : List Tv), ks.length = is.length → (tfmK ks is).length = (ks.map fun k => (kfm k).length).sum + (is.map fun t => (tfm t).length).sum
  | [], [], _ => by simp [tfmK]
  | [], _ :: _, h => by simp at h
  | _ :: _, [], h => by simp at h
  | k :: ks, t :: r, h => by rw [tfmK, List.length_append, List.length_append, tfmK_sum ks r (by simpa using h)]; simp; omega
theorem trn_flen {t w : Tv} (h : Trn t w) : Trk t → (tfm w).length = (tfm t).length := by
  induction h with
  | rest t w h9 hT hk hn hi ih =>
    intro ht
    have e : (tfmL w.is).length = (tfmL t.is).length := by
      rw [tfmL_sum, tfmL_sum]
      congr 1
      refine List.ext_getElem? fun i => ?_
      rw [List.getElem?_map, List.getElem?_map]
      by_cases hl : i < t.is.length
      · have e1 := List.getElem?_eq_getElem hl
        have e2 := List.getElem?_eq_getElem (show i < w.is.length by omega)
        rw [e1, e2, Option.map_some, Option.map_some, ih i _ _ e1 e2 (ht.i _ (List.getElem_mem hl))]
      · rw [List.getElem?_eq_none (by omega), List.getElem?_eq_none (by omega)]
    rw [tfm_of7 w, tfm_of7 t, hT.k, hT.f, hT.g, hT.n, hT.b, hT.s, hT.y, hT.l]
    by_cases h8 : t.k = 8
    · rw [h8]
      simp [hn, e]
    · rw [if_neg h8, if_neg h9, if_neg h8, if_neg h9]
  | map t w ps h9 hT hp hk hn hi ih =>
    intro ht
    obtain ⟨hlen, _⟩ := ht.m h9
    have hpl := perm_len hp
    have e : (w.is.map fun t => (tfm t).length).sum = (t.is.map fun t => (tfm t).length).sum := by
      rw [← pick_nat (l := t.is.map fun t => (tfm t).length) (ps := ps) (by rw [List.length_map]; exact hp)]
      congr 1
      refine List.ext_getElem? fun i => ?_
      rw [List.getElem?_map, List.getElem?_map]
      by_cases hl : i < ps.length
      · have e0 := List.getElem?_eq_getElem hl
        have hlt := perm_lt hp e0
        have e1 := List.getElem?_eq_getElem hlt
        have e2 := List.getElem?_eq_getElem (show i < w.is.length by omega)
        rw [e0, e2, Option.map_some, Option.map_some, ih i _ _ _ e0 e1 e2 (ht.i _ (List.getElem_mem hlt))]
        simp [List.getD, hlt]
      · rw [List.getElem?_eq_none (by omega), List.getElem?_eq_none (by omega)]
        rfl
    have hkp := pickS_perm hlen hp
    rw [← hk] at hkp
    have e2 : (w.ks.map fun k => (kfm k).length).sum = (t.ks.map fun k => (kfm k).length).sum := (hkp.map _).sum_nat
    have e3 := hkp.length_eq
    rw [tfm_of7 w, tfm_of7 t, hT.k, h9]
    show (hl 5 w.is.length ++ tfmK w.ks w.is).length = (hl 5 t.is.length ++ tfmK t.ks t.is).length
    rw [hn, List.length_append, List.length_append, tfmK_sum _ _ (by omega), tfmK_sum _ _ hlen, e, e2]

/-! ### The list of all trees -/
end
end Go.Proofs.YtjlknnpgngaooaaGreatDoor
