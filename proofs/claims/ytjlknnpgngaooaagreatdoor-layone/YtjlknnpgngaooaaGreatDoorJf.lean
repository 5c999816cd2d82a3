import Derived.Test.YtjlknnpgngaooaaGreatDoorJe
import Derived.Test.YtjlknnpgngaooaaGreatDoorJc
import Derived.Test.YtjlknnpgngaooaaGreatDoorJd
import Derived.Test.YtjlknnpgngaooaaGreatDoorJb
import Derived.Laws.Bits64
import Derived.Test.YtjlknnpgngaooaaGreatDoorJa
import Derived.BigRegion
import Derived.BigQuiet
namespace Go.Proofs.YtjlknnpgngaooaaGreatDoor
section
open Go.RowKit Go
/-! Sorted values, plainly. -/
/-- What of a tree the order of its entries hangs on. -/
inductive Trk : Tv → Prop
  | mk (t : Tv) (h9 : t.k = 9 → t.ks.length = t.is.length ∧ t.ks.Nodup ∧ t.f = false ∧ t.g = false ∧ t.n = 0 ∧ t.b = 0 ∧ t.s = ⟨#[]⟩ ∧ t.y = [] ∧ t.l = ⟨0, 0, 0, []⟩) (hn : t.k ≠ 9 → t.ks = []) (hi : ∀ u ∈ t.is, Trk u) : Trk t
theorem Trk.m {t : Tv} (h : Trk t) (h9 : t.k = 9) : t.ks.length = t.is.length ∧ t.ks.Nodup ∧ t.f = false ∧ t.g = false ∧ t.n = 0 ∧ t.b = 0 ∧ t.s = ⟨#[]⟩ ∧ t.y = [] ∧ t.l = ⟨0, 0, 0, []⟩ := by
  cases h with
  | mk _ a b c => exact a h9
theorem Trk.e {t : Tv} (h : Trk t) (h9 : t.k ≠ 9) : t.ks = [] := by
  cases h with
  | mk _ a b c => exact b h9
theorem Trk.i {t : Tv} (h : Trk t) : ∀ u ∈ t.is, Trk u := by
  cases h with
  | mk _ a b c => exact c
/-- The same tree, whatever the order of maps' entries. -/
def Teq (a b : Tv) : Prop := ∃ s, SrtR a s ∧ SrtR b s
theorem blt_tot : ∀ (x y : List Nat), x.length = y.length → blt x y = false → blt y x = false → x = y
  | [], [], _, _, _ => rfl
  | [], _ :: _, h, _, _ => by simp at h
  | _ :: _, [], h, _, _ => by simp at h
  | a :: x, b :: y, h, h1, h2 => by
    simp only [blt] at h1 h2
    by_cases e : a = b
    · rw [if_pos e] at h1
      rw [if_pos e.symm] at h2
      rw [e, blt_tot x y (by simpa using h) h1 h2]
    · rw [if_neg e] at h1
      rw [if_neg (fun h => e h.symm)] at h2
      simp at h1 h2
      omega
theorem bfr_tot {x y : List Nat} (h1 : bfr x y = false) (h2 : bfr y x = false) : x = y := by
  unfold bfr at *
  by_cases e : x.length = y.length
  · rw [if_pos e] at h1
    rw [if_pos e.symm] at h2
    exact blt_tot x y e h1 h2
  · rw [if_neg e] at h1
    rw [if_neg (fun h => e h.symm)] at h2
    simp at h1 h2
    omega
theorem sl_inj {s t : ByteArray} (h : sl s = sl t) : s = t := by rw [← nstr_sl s, h, nstr_sl]
theorem nodup_at {ks : List ByteArray} (h : ks.Nodup) {i j : Nat} (hi : i < ks.length) (hj : j < ks.length) (e : ks.getD i ⟨#[]⟩ = ks.getD j ⟨#[]⟩) : i = j := by
  simp only [List.getD, List.getElem?_eq_getElem hi, List.getElem?_eq_getElem hj, Option.getD_some] at e
  have hp := List.pairwise_iff_getElem.1 h
  rcases Nat.lt_trichotomy i j with hij | hij | hij
  · exact absurd e (hp i j hi hj hij)
  · exact hij
  · exact absurd e.symm (hp j i hj hi hij)
theorem Srp.pw {ks : List ByteArray} {n : Nat} {ps : List Nat} (h : Srp ks n ps) : ps.Pairwise (fun p q => bfr (sl (ks.getD q ⟨#[]⟩)) (sl (ks.getD p ⟨#[]⟩)) = false) := by
  rw [List.pairwise_iff_getElem]
  intro i j hi hj hij
  exact h.s i j _ _ hij (List.getElem?_eq_getElem hi) (List.getElem?_eq_getElem hj)
/-- Where no key stands twice there is one order. -/
theorem srp_one {ks : List ByteArray} {n : Nat} {ps qs : List Nat} (hnd : ks.Nodup) (hl : n ≤ ks.length) (h1 : Srp ks n ps) (h2 : Srp ks n qs) : ps = qs := by
  refine List.Perm.eq_of_pairwise (le := fun p q => bfr (sl (ks.getD q ⟨#[]⟩)) (sl (ks.getD p ⟨#[]⟩)) = false) ?_ h1.pw h2.pw (h1.p.trans h2.p.symm)
  intro a b ha hb hab hba
  have e := sl_inj (bfr_tot hab hba)
  have la := h1.lt a ha
  have lb := h2.lt b hb
  exact (nodup_at hnd (by omega) (by omega) e).symm
/-- A list of things that are there one by one. -/
theorem list_of {α : Type} (n : Nat) (P : Nat → α → Prop) (h : ∀ i, i < n → ∃ v, P i v) : ∃ l : List α, l.length = n ∧ ∀ (i : Nat) (v : α), l[i]? = some v → P i v := by
  induction n with
  | zero => exact ⟨[], rfl, fun i v h => by simp at h⟩
  | succ n ih =>
    obtain ⟨l, hl, hp⟩ := ih (fun i hi => h i (by omega))
    obtain ⟨v, hv⟩ := h n (by omega)
    refine ⟨l ++ [v], by simp [hl], fun i u hu => ?_⟩
    rcases Nat.lt_or_ge i l.length with h1 | h1
    · rw [List.getElem?_append_left h1] at hu
      exact hp i u hu
    · rw [List.getElem?_append_right h1] at hu
      have e : i - l.length = 0 := by
        rcases Nat.eq_zero_or_pos (i - l.length) with e | e
        · exact e
        · rw [List.getElem?_eq_none (by simp; omega)] at hu
          cases hu
      rw [e] at hu
      simp at hu
      subst hu
      have : i = n := by omega
      subst this
      exact hv
theorem SrtR.top {t s : Tv} (h : SrtR t s) : Top t s := by
  cases h with
  | rest _ _ _ ht => exact ht
  | map _ _ _ _ ht => exact ht
theorem teq_rest {a b : Tv} (h9 : a.k ≠ 9) (ht : Top a b) (hka : a.ks = []) (hkb : b.ks = []) (hn : a.is.length = b.is.length) (hi : ∀ (i : Nat) (u v : Tv), a.is[i]? = some u → b.is[i]? = some v → Teq u v) : Teq a b := by
  obtain ⟨l, hl, hp⟩ := list_of a.is.length (fun i s => ∀ u v, a.is[i]? = some u → b.is[i]? = some v → SrtR u s ∧ SrtR v s) (fun i hil => by
    obtain ⟨s, h1, h2⟩ := hi i a.is[i] (b.is[i]'(by omega)) (List.getElem?_eq_getElem hil) (List.getElem?_eq_getElem (by omega))
    refine ⟨s, fun u v hu hv => ?_⟩
    rw [List.getElem?_eq_getElem hil] at hu
    rw [List.getElem?_eq_getElem (show i < b.is.length by omega)] at hv
    injection hu with hu
    injection hv with hv
    subst hu hv
    exact ⟨h1, h2⟩)
  refine ⟨a.wi l, SrtR.rest a (a.wi l) h9 ⟨rfl, rfl, rfl, rfl, rfl, rfl, rfl, rfl⟩ rfl hl (fun i u v hu hv => ?_), SrtR.rest b (a.wi l) (by rw [ht.k]; exact h9) ⟨ht.k.symm, ht.f.symm, ht.g.symm, ht.n.symm, ht.b.symm, ht.s.symm, ht.y.symm, ht.l.symm⟩ (by show a.ks = b.ks; rw [hka, hkb]) (by show l.length = _; omega) (fun i u v hu hv => ?_)⟩
  · have hil := (List.getElem?_eq_some_iff.1 hu).1
    exact (hp i v hv u (b.is[i]'(by omega)) hu (List.getElem?_eq_getElem (by omega))).1
  · have hil := (List.getElem?_eq_some_iff.1 hu).1
    exact (hp i v hv (a.is[i]'(by omega)) u (List.getElem?_eq_getElem (by omega)) hu).2
theorem teq_top {a b : Tv} (h : Teq a b) : Top a b := by
  obtain ⟨s, h1, h2⟩ := h
  have t1 := h1.top
  have t2 := h2.top
  exact ⟨t2.k.symm.trans t1.k, t2.f.symm.trans t1.f, t2.g.symm.trans t1.g, t2.n.symm.trans t1.n, t2.b.symm.trans t1.b, t2.s.symm.trans t1.s, t2.y.symm.trans t1.y, t2.l.symm.trans t1.l⟩
theorem teq_items {a b : Tv} (h9 : a.k ≠ 9) (h : Teq a b) : a.is.length = b.is.length ∧ ∀ (i : Nat) (u v : Tv), a.is[i]? = some u → b.is[i]? = some v → Teq u v := by
  have hk := (teq_top h).k
  obtain ⟨s, h1, h2⟩ := h
  cases h1 with
  | map _ _ _ e => exact absurd e h9
  | rest _ _ _ _ _ n1 i1 =>
    cases h2 with
    | map _ _ _ e => exact absurd (hk.symm.trans e) h9
    | rest _ _ _ _ _ n2 i2 =>
      refine ⟨by omega, fun i u v hu hv => ?_⟩
      have hil := (List.getElem?_eq_some_iff.1 hu).1
      have hs : s.is[i]? = some (s.is[i]'(by omega)) := List.getElem?_eq_getElem (by omega)
      exact ⟨_, i1 i u _ hu hs, i2 i v _ hv hs⟩
theorem pickS_at {ks : List ByteArray} {ps : List Nat} {i p : Nat} (hp : ps[i]? = some p) : (pickS ks ps)[i]? = some (ks.getD p ⟨#[]⟩) := by simp [pickS, hp]
/-- Two maps, by the orders of their keys. -/
theorem teq_map {a b : Tv} {pa pb : List Nat} (ha : Trk a) (hb : Trk b) (ka : a.k = 9) (kb : b.k = 9) (spa : Srp a.ks (min a.ks.length a.is.length) pa) (spb : Srp b.ks (min b.ks.length b.is.length) pb) :
    Teq a b ↔ pa.length = pb.length ∧ ∀ (i p q : Nat), pa[i]? = some p → pb[i]? = some q → a.ks.getD p ⟨#[]⟩ = b.ks.getD q ⟨#[]⟩ ∧ ∀ u v, a.is[p]? = some u → b.is[q]? = some v → Teq u v := by
  obtain ⟨la, na, fa⟩ := ha.m ka
  obtain ⟨lb, nb, fb⟩ := hb.m kb
  constructor
  · rintro ⟨s, h1, h2⟩
    cases h1 with
    | rest _ _ e => exact absurd ka e
    | map _ _ pa' _ _ spa' hka hna hia =>
      cases h2 with
      | rest _ _ e => exact absurd kb e
      | map _ _ pb' _ _ spb' hkb hnb hib =>
        have e1 := srp_one na (by omega) spa spa'
        have e2 := srp_one nb (by omega) spb spb'
        subst e1 e2
        refine ⟨by omega, fun i p q hp hq => ⟨?_, fun u v hu hv => ?_⟩⟩
        · have h1 := pickS_at (ks := a.ks) hp
          have h2 := pickS_at (ks := b.ks) hq
          rw [← hka] at h1
          rw [← hkb] at h2
          rw [h1] at h2
          exact Option.some.inj h2
        · have hil := (List.getElem?_eq_some_iff.1 hp).1
          have hs : s.is[i]? = some (s.is[i]'(by omega)) := List.getElem?_eq_getElem (by omega)
          exact ⟨_, hia i p u _ hp hu hs, hib i q v _ hq hv hs⟩
  · rintro ⟨hl, hi⟩
    have lpa := spa.len
    have lpb := spb.len
    obtain ⟨l, hll, hp⟩ := list_of pa.length (fun i s => ∀ p q u v, pa[i]? = some p → pb[i]? = some q → a.is[p]? = some u → b.is[q]? = some v → SrtR u s ∧ SrtR v s) (fun i hil => by
      have h1 : pa[i]? = some pa[i] := List.getElem?_eq_getElem hil
      have h2 : pb[i]? = some (pb[i]'(by omega)) := List.getElem?_eq_getElem (by omega)
      have m1 := spa.lt _ (List.mem_of_getElem? h1)
      have m2 := spb.lt _ (List.mem_of_getElem? h2)
      obtain ⟨s, h3, h4⟩ := (hi i _ _ h1 h2).2 _ _ (List.getElem?_eq_getElem (show pa[i] < a.is.length by omega)) (List.getElem?_eq_getElem (show pb[i]'(by omega) < b.is.length by omega))
      refine ⟨s, fun p q u v hp hq hu hv => ?_⟩
      rw [h1] at hp
      rw [h2] at hq
      injection hp with hp
      injection hq with hq
      subst hp hq
      rw [List.getElem?_eq_getElem (show pa[i] < a.is.length by omega)] at hu
      rw [List.getElem?_eq_getElem (show pb[i]'(by omega) < b.is.length by omega)] at hv
      injection hu with hu
      injection hv with hv
      subst hu hv
      exact ⟨h3, h4⟩)
    have hks : pickS a.ks pa = pickS b.ks pb := by
      apply List.ext_getElem?
      intro i
      by_cases hil : i < pa.length
      · have h1 : pa[i]? = some pa[i] := List.getElem?_eq_getElem hil
        have h2 : pb[i]? = some (pb[i]'(by omega)) := List.getElem?_eq_getElem (by omega)
        rw [pickS_at h1, pickS_at h2, (hi i _ _ h1 h2).1]
      · rw [List.getElem?_eq_none (by rw [pickS_len]; omega), List.getElem?_eq_none (by rw [pickS_len]; omega)]
    refine ⟨.mk 9 false false 0 0 ⟨#[]⟩ [] ⟨0, 0, 0, []⟩ (pickS a.ks pa) l, SrtR.map a _ pa ka ⟨ka.symm, fa.1.symm, fa.2.1.symm, fa.2.2.1.symm, fa.2.2.2.1.symm, fa.2.2.2.2.1.symm, fa.2.2.2.2.2.1.symm, fa.2.2.2.2.2.2.symm⟩ spa rfl hll (fun i p u v hp' hu hv => ?_), SrtR.map b _ pb kb ⟨kb.symm, fb.1.symm, fb.2.1.symm, fb.2.2.1.symm, fb.2.2.2.1.symm, fb.2.2.2.2.1.symm, fb.2.2.2.2.2.1.symm, fb.2.2.2.2.2.2.symm⟩ spb hks (by show l.length = _; omega) (fun i q u v hq hu hv => ?_)⟩
    · have hil := (List.getElem?_eq_some_iff.1 hp').1
      have h2 : pb[i]? = some (pb[i]'(by omega)) := List.getElem?_eq_getElem (by omega)
      have m2 := spb.lt _ (List.mem_of_getElem? h2)
      exact (hp i v hv p _ u _ hp' h2 hu (List.getElem?_eq_getElem (by omega))).1
    · have hil := (List.getElem?_eq_some_iff.1 hq).1
      have h1 : pa[i]? = some (pa[i]'(by omega)) := List.getElem?_eq_getElem (by omega)
      have m1 := spa.lt _ (List.mem_of_getElem? h1)
      exact (hp i v hv _ q _ u h1 hq (List.getElem?_eq_getElem (by omega)) hu).2
end
section
open Go.RowKit Go
theorem Top.self (t : Tv) : Top t t := ⟨rfl, rfl, rfl, rfl, rfl, rfl, rfl, rfl⟩
theorem pickS_range (ks : List ByteArray) : pickS ks (List.range ks.length) = ks := by
  apply List.ext_getElem?
  intro i
  by_cases hi : i < ks.length
  · rw [pickS_at (List.getElem?_range hi), List.getElem?_eq_getElem hi]
    simp [List.getD, List.getElem?_eq_getElem hi]
  · rw [List.getElem?_eq_none (by rw [pickS_len]; simpa using hi), List.getElem?_eq_none (by omega)]
end
section
open Go.RowKit Go
/-! What passes is a tree (cut out of Tb6: hangs on no link). -/
/-- A value that passes is a tree. -/
theorem onef_0 {t : Tv} {a : Nat} (h : onef t a = 0) : ¬ ((t.k = 8 ∨ t.k = 9) ∧ 1024 ≤ a) ∧ tidyf t = true ∧ finb t.b = true ∧ (badb t.s || t.ks.any badb) = false ∧ ¬ (t.k = 7 ∧ ¬ lok t.l) ∧ ¬ (t.k = 9 ∧ ¬ (t.ks.length = t.is.length ∧ t.ks.Nodup)) := by
  unfold onef at h
  split at h
  · cases h
  · rename_i h1
    split at h
    · cases h
    · rename_i h2
      split at h
      · cases h
      · rename_i h3
        split at h
        · cases h
        · rename_i h4
          split at h
          · cases h
          · rename_i h5
            split at h
            · cases h
            · rename_i h6
              exact ⟨h1, by simpa using h2, by simpa using h3, by simpa using h4, h5, h6⟩
theorem chkL_all {l : List Tv} {a : Nat} (h : chkL l a = 0) : ∀ u ∈ l, chkf u a = 0 := by
  intro u hu
  obtain ⟨i, hi⟩ := List.getElem?_of_mem hu
  have key : ∀ N i : Nat, i < N → ∀ v, l[i]? = some v → chkf v a = 0 := by
    intro N
    induction N with
    | zero => intro i hi; omega
    | succ N ih =>
      intro i hi v hv
      rcases Nat.lt_or_ge i N with h1 | h1
      · exact ih i h1 v hv
      · rcases Nat.eq_zero_or_pos (chkf v a) with e | e
        · exact e
        · have := chkL_at (i := i) (fun j w hj hw => ih j (by omega) w hw) hv (by omega)
          omega
  exact key (i + 1) i (by omega) u hi
theorem chkf_0 {t : Tv} {a : Nat} (h : chkf t a = 0) : onef t a = 0 ∧ ∀ u ∈ t.is, chkf u (a + 1) = 0 := by
  rw [chkf_eq] at h
  split at h
  · rename_i h1
    exact ⟨h1, chkL_all h⟩
  · rename_i h1
    exact absurd h h1
theorem tidy_k {t : Tv} (h : tidyf t = true) : 1 ≤ t.k ∧ t.k ≤ 9 ∧ t.zr.cl = true := by
  unfold tidyf at h
  rw [Bool.and_eq_true, decide_eq_true_eq] at h
  exact ⟨h.1.1, h.1.2, h.2⟩
theorem cl_all {t : Tv} (h : t.cl = true) : t.f = false ∧ t.g = false ∧ t.n = 0 ∧ t.b = 0 ∧ t.s = ⟨#[]⟩ ∧ t.l = ⟨0, 0, 0, []⟩ ∧ t.y = [] ∧ t.ks = [] ∧ t.is = [] := by
  unfold Tv.cl at h
  simp only [Bool.and_eq_true, Bool.not_eq_true', decide_eq_true_eq, List.isEmpty_iff] at h
  exact h
theorem tidy_9 {t : Tv} (h : tidyf t = true) (h9 : t.k = 9) : t.f = false ∧ t.g = false ∧ t.n = 0 ∧ t.b = 0 ∧ t.s = ⟨#[]⟩ ∧ t.y = [] ∧ t.l = ⟨0, 0, 0, []⟩ := by
  have h1 := (tidy_k h).2.2
  have e : t.zr = .mk t.k t.f t.g t.n t.b t.s t.y t.l [] [] := by unfold Tv.zr; simp [h9]
  rw [e] at h1
  obtain ⟨a1, a2, a3, a4, a5, a6, a7, _⟩ := cl_all h1
  exact ⟨a1, a2, a3, a4, a5, a7, a6⟩
theorem tidy_ks {t : Tv} (h : tidyf t = true) (h9 : t.k ≠ 9) : t.ks = [] := by
  have h1 := (cl_all (tidy_k h).2.2).2.2.2.2.2.2.2.1
  have e : t.zr.ks = t.ks := by
    unfold Tv.zr
    rw [if_neg h9]
    repeat' split
    all_goals rfl
  rw [e] at h1
  exact h1
theorem chk_trk {t : Tv} {a : Nat} (h : chkf t a = 0) : Trk t := by
  have key : ∀ N, ∀ t : Tv, SizeOf.sizeOf t = N → ∀ a, chkf t a = 0 → Trk t := by
    intro N
    induction N using Nat.strongRecOn with
    | _ N ih =>
      intro t hN a h
      obtain ⟨h1, h2⟩ := chkf_0 h
      obtain ⟨_, htd, _, _, _, hks⟩ := onef_0 h1
      refine Trk.mk t (fun h9 => ?_) (fun h9 => tidy_ks htd h9) fun u hu => ih _ (by have := Tv.is_lt hu; omega) u rfl _ (h2 u hu)
      have h3 : t.ks.length = t.is.length ∧ t.ks.Nodup := by
        apply Classical.byContradiction
        intro hh
        exact hks ⟨h9, hh⟩
      exact ⟨h3.1, h3.2, tidy_9 htd h9⟩
  exact key _ t rfl a h
end
section
open Go.RowKit Go
/-! ### What is read: parts are made of it, it is sorted, it is no greater than its form -/
theorem chk_ptr {t : Tv} {a : Nat} (h : chkf t a = 0) : Ptr t := by
  have key : ∀ N, ∀ t : Tv, SizeOf.sizeOf t = N → ∀ a, chkf t a = 0 → Ptr t := by
    intro N
    induction N using Nat.strongRecOn with
    | _ N ih =>
      intro t hN a h
      obtain ⟨h1, h2⟩ := chkf_0 h
      obtain ⟨_, htd, _, _, hl, hks⟩ := onef_0 h1
      have h3 := tidy_k htd
      refine Ptr.mk t ⟨h3.1, h3.2.1⟩ (fun h7 => ?_) (fun h9 => ?_) fun u hu => ih _ (by have := Tv.is_lt hu; omega) u rfl _ (h2 u hu)
      · apply Classical.byContradiction
        intro hh
        exact hl ⟨h7, hh⟩
      · apply Classical.byContradiction
        intro hh
        exact hks ⟨h9, fun x => hh x.1⟩
  exact key _ t rfl a h
theorem bfr_asym {x y : List Nat} (h : bfr x y = true) : bfr y x = false := by
  cases e : bfr y x with
  | false => rfl
  | true => rw [← bfr_self x]; exact (bfr_tr _ _ _ h e).symm ▸ rfl
theorem rsn_srt {t : Tv} (h : Rsn t) : ∀ {a : Nat}, chkf t a = 0 → SrtR t t := by
  induction h with
  | mk t hk hi ih =>
    intro a hc
    obtain ⟨h1, h2⟩ := chkf_0 hc
    have hT := chk_trk hc
    by_cases h9 : t.k = 9
    · have hm := (hT.m h9).1
      have hmin : min t.ks.length t.is.length = t.ks.length := by omega
      refine SrtR.map t t (List.range t.ks.length) h9 (Top.self t) ?_ (pickS_range t.ks).symm (by simp; omega) (fun i p u v hp hu hv => ?_)
      · rw [hmin]
        refine ⟨List.Perm.refl _, fun i j p q hij h1 h2 => ?_⟩
        have l1 := (List.getElem?_eq_some_iff.1 h1).1
        have l2 := (List.getElem?_eq_some_iff.1 h2).1
        simp at l1 l2
        rw [List.getElem?_range l1] at h1
        rw [List.getElem?_range l2] at h2
        injection h1 with h1
        injection h2 with h2
        subst h1
        subst h2
        have e1 := List.getElem?_eq_getElem l1
        have e2 := List.getElem?_eq_getElem l2
        have h3 := rise_lt hk (j - i - 1) i _ _ e1 (by rw [show i + (j - i - 1) + 1 = j by omega]; exact e2)
        simp only [List.getD, e1, e2, Option.getD_some]
        exact bfr_asym h3
      · have l1 := (List.getElem?_eq_some_iff.1 hp).1
        simp at l1
        rw [List.getElem?_range l1] at hp
        injection hp with hp
        subst hp
        rw [hu] at hv
        injection hv with hv
        subst hv
        exact ih u (List.mem_of_getElem? hu) (h2 u (List.mem_of_getElem? hu))
    · refine SrtR.rest t t h9 (Top.self t) rfl rfl (fun i u v hu hv => ?_)
      rw [hu] at hv
      injection hv with hv
      subst hv
      exact ih u (List.mem_of_getElem? hu) (h2 u (List.mem_of_getElem? hu))
theorem hl_pos8 (m n : Nat) : 1 ≤ (hl m n).length := by
  rw [hl_len]
  unfold hsize
  omega
theorem kfm_len (s : ByteArray) : 1 + s.size / 64 ≤ (kfm s).length := by
  unfold kfm
  have := hl_pos8 3 (sl s).length
  have e : (sl s).length = s.size := by simp [sl]
  rw [List.length_append]
  omega
theorem tfmK_len : ∀ {ks : List ByteArray} {is : List Tv}, ks.length = is.length → ks.length + (ks.map fun k => k.size / 64).sum + (tfmL is).length ≤ (tfmK ks is).length
  | [], [], _ => by simp [tfmL, tfmK]
  | k :: ks, t :: r, h => by
    have h1 := tfmK_len (ks := ks) (is := r) (by simpa using h)
    have h2 := kfm_len k
    rw [tfmK, tfmL]
    simp only [List.length_cons, List.map_cons, List.sum_cons, List.length_append]
    omega
theorem tmuchL_le : ∀ {l : List Tv}, (∀ u ∈ l, tmuch u ≤ (tfm u).length) → tmuchL l ≤ (tfmL l).length
  | [], _ => by simp [tmuchL]
  | t :: r, h => by
    have h1 := h t (List.mem_cons_self ..)
    have h2 := tmuchL_le (l := r) (fun u hu => h u (List.mem_cons_of_mem _ hu))
    rw [tmuchL, tfmL, List.length_append]
    omega
theorem lbytes_d (l : Lk) : l.d.length ≤ (lbytes l).length := by
  unfold lbytes
  split <;> simp <;> omega
theorem chk_much {t : Tv} {a : Nat} (h : chkf t a = 0) : tmuch t ≤ (tfm t).length := by
  have key : ∀ N, ∀ t : Tv, SizeOf.sizeOf t = N → ∀ a, chkf t a = 0 → tmuch t ≤ (tfm t).length := by
    intro N
    induction N using Nat.strongRecOn with
    | _ N ih =>
      intro t hN a h
      obtain ⟨h1, h2⟩ := chkf_0 h
      obtain ⟨_, htd, _, _, hl, hks⟩ := onef_0 h1
      obtain ⟨k1, k2, k3⟩ := tidy_k htd
      have hi := tmuchL_le (l := t.is) (fun u hu => ih _ (by have := Tv.is_lt hu; omega) u rfl _ (h2 u hu))
      have h9 : t.k = 9 → t.ks.length = t.is.length := fun h9 => by
        apply Classical.byContradiction
        intro hh
        exact hks ⟨h9, fun x => hh x.1⟩
      clear h h1 h2 htd hl hks hN ih
      obtain ⟨k, f, g, n, b, s, y, l, ks, is⟩ := t
      simp only [Tv.k, Tv.ks, Tv.is] at k1 k2 hi h9
      have hc : k = 1 ∨ k = 2 ∨ k = 3 ∨ k = 4 ∨ k = 5 ∨ k = 6 ∨ k = 7 ∨ k = 8 ∨ k = 9 := by omega
      have g8 := hl_pos8 4 is.length
      have g9 := hl_pos8 5 is.length
      have g6 := hl_pos8 2 y.length
      have g3 := hl_pos8 (if g = true then 1 else 0) n
      have g7 := hl_pos8 6 42
      have gl := lbytes_d l
      have gs := kfm_len s
      have c := cl_all k3
      have e0 : (⟨#[]⟩ : ByteArray).size = 0 := rfl
      rcases hc with rfl | rfl | rfl | rfl | rfl | rfl | rfl | rfl | rfl
      all_goals
        simp only [Tv.zr, Tv.k, Tv.f, Tv.g, Tv.n, Tv.b, Tv.s, Tv.y, Tv.l, Tv.ks, Tv.is] at c
        simp at c
        rw [tmuch, tfm]
        simp
      · obtain ⟨_, _, _, _, rfl, rfl, rfl, rfl, rfl⟩ := c
        simp [tmuchL, e0]
      · obtain ⟨_, _, _, rfl, rfl, rfl, rfl, rfl⟩ := c
        simp [tmuchL, e0]
      · obtain ⟨_, _, rfl, rfl, rfl, rfl, rfl⟩ := c
        simp only [tmuchL, e0, List.length_nil, List.map_nil, List.sum_nil]
        omega
      · obtain ⟨_, _, _, rfl, rfl, rfl, rfl, rfl⟩ := c
        simp [tmuchL, e0]
      · obtain ⟨_, _, _, _, rfl, rfl, rfl, rfl⟩ := c
        simp only [tmuchL, List.length_nil, List.map_nil, List.sum_nil]
        omega
      · obtain ⟨_, _, _, _, rfl, rfl, rfl, rfl⟩ := c
        simp only [tmuchL, e0, List.length_nil, List.map_nil, List.sum_nil]
        omega
      · obtain ⟨_, _, _, _, rfl, rfl, rfl, rfl⟩ := c
        simp only [tmuchL, e0, List.length_nil, List.map_nil, List.sum_nil]
        omega
      · obtain ⟨_, _, _, _, rfl, rfl, rfl, rfl⟩ := c
        simp only [e0, List.length_nil, List.map_nil, List.sum_nil]
        omega
      · obtain ⟨_, _, _, _, rfl, rfl, rfl⟩ := c
        have hK := tfmK_len (h9 rfl)
        simp only [e0, List.length_nil]
        omega
  exact key _ t rfl a h
end
section
open Go.RowKit Go

end
section
open Go.RowKit Go

end
section
open Go.RowKit Go

end
section
open Go.RowKit

end
section
open Go.RowKit Go
/-! ### An item that is looked at, in memory -/
end
section
open Go.RowKit Go
theorem wpList_exec {ops : Array Oper} {rest : List Oper} {o : Oper} {a : Act} {Q : Exit → Act → World → Prop} {w : World} {v : Value} (hgd : o.guard = none) (hr : (execOp a.eval o).run Tryz.prog w = .ok (.value v) w) (h : wpList Tryz.prog ops Q rest (a.put o.dst v) w) : wpList Tryz.prog ops Q (o :: rest) a w := by
  refine wpList_plain hgd fun K hK => ?_
  unfold Oper.wp
  rw [hr]
  exact hK _ _ h
end
section
open Go.RowKit Go

end
section
open Go.RowKit Go
/-- A value out of its parts, none of which lies in S. -/
theorem Tis.of {w : World} {S : Nat → Prop} {t : Tv} {vy vk vi : Value} {B : Nat} {L : List (Array Value)} (hb : Tbd t) (hy : BSl w vy t.y) (hys : t.y ≠ [] → ∀ q, vy.ownBlock = some q → ¬ S q) (hk : SSl w vk t.ks) (hks : t.ks ≠ [] → ∀ q, vk.ownBlock = some q → ¬ S q)
    (hv : w.ownsRow B 65 13 vi t.is.length (vfl L)) (hvs : t.is ≠ [] → ∀ q, vi.ownBlock = some q → ¬ S q) (hm : t.is.length ≤ 140737488351232) (hL : L.length = t.is.length) (h13 : ∀ c ∈ L, c.size = 13) (hi : ∀ (i : Nat) (u : Tv) (c : Array Value), t.is[i]? = some u → L[i]? = some c → Tis w S u c) : Tis w S t (vcs t vy vk vi) := by
  rcases id hv.2 with ⟨e, h0⟩ | ⟨g, cap, cur, e, _, _, h1, _⟩
  · subst e
    have e2 : t.is = [] := List.length_eq_zero_iff.1 h0
    exact Tis.mk t vy vk _ hb hy hys hk hks (fun _ => #[]) none 0 (by rw [h0]) ⟨by omega, fun _ => rfl⟩ hm (fun i u hu => by rw [e2] at hu; simp at hu) (.inl e2)
  · subst e
    refine Tis.mk t vy vk _ hb hy hys hk hks (fun i => L.getD i #[]) (some ⟨g, 0, none⟩) cap rfl ⟨by omega, fun h => by cases h⟩ hm (fun i u hu => ?_) ?_
    · have hil := (List.getElem?_eq_some_iff.1 hu).1
      have hc : L[i]? = some (L.getD i #[]) := by rw [List.getD_eq_getElem?_getD, List.getElem?_eq_getElem (by omega)]; rfl
      exact hi i u _ hu hc
    · by_cases e2 : t.is = []
      · exact .inl e2
      · refine .inr ⟨g, 0, rfl, hvs e2 g rfl, fun i hil j u hu => ?_⟩
        rw [Nat.zero_add]
        have hc : L[i]? = some (L.getD i #[]) := by rw [List.getD_eq_getElem?_getD, List.getElem?_eq_getElem (by omega)]; rfl
        exact own_val hv h13 hc j u hu
end
section
open Go.RowKit Go
/-! ### The lists and maps that are open, in memory -/
end
section
open Go.RowKit Go

end
section
open Go.RowKit Go
theorem exec_valAt {o : Oper} {a : Act} {p : Operand} {g off : Nat} {cs : Array Value} {w : World} (ho : o.op = .load 65 p) (hp : a.eval p = .pointer (some ⟨g, off, none⟩)) (hn : cs.size = 13) (hc : ∀ j u, cs[j]? = some u → w.cell? ⟨g, off + j, none⟩ = some u) : (execOp a.eval o).run Tryz.prog w = .ok (.value (.agg cs)) w := by
  unfold execOp
  have hr := load_val (w := w) g off cs hn hc
  simp only [ho, Sem.run_bind, hp, hr, Result.andThen_ok]
  rfl
end
section
open Go.RowKit Go

end
section
open Go.RowKit Go
/-! ### The machine in memory -/
end
section
open Go.RowKit Go

end
section
open Go.RowKit Go
theorem vfl_set : ∀ {L : List (Array Value)}, (∀ c ∈ L, c.size = 13) → ∀ (j : Nat) (c' : Array Value), j < L.length → c'.size = 13 → ∀ (X : List Value), (splice (vfl L ++ X) (j * 13) c'.toList).take (L.length * 13) = vfl (L.set j c')
  | [], _, j, _, h, _, _ => by simp at h
  | c :: r, hL, 0, c', _, hc, X => by
    have h1 : c.size = 13 := hL c (List.mem_cons_self ..)
    have e1 : vfl (c :: r) = c.toList ++ vfl r := by simp [vfl]
    have e2 : vfl ((c :: r).set 0 c') = c'.toList ++ vfl r := by simp [vfl]
    have h2 := vfl_len (l := r) (fun d hd => hL d (List.mem_cons_of_mem _ hd))
    rw [e1, e2]
    unfold splice
    have l1 : c.toList.length = 13 := by simpa using h1
    have l2 : c'.toList.length = 13 := by simpa using hc
    rw [Nat.zero_mul, List.take_zero, List.nil_append, Nat.zero_add, l2, List.append_assoc, List.drop_append_of_le_length (by omega), List.drop_of_length_le (by omega), List.nil_append, List.length_cons, List.take_append, l2, List.take_of_length_le (by omega)]
    congr 1
    rw [show (r.length + 1) * 13 - 13 = (vfl r).length by omega, List.take_append_of_le_length (by omega), List.take_length]
  | c :: r, hL, j + 1, c', hj, hc, X => by
    have h1 : c.size = 13 := hL c (List.mem_cons_self ..)
    have ih := vfl_set (L := r) (fun d hd => hL d (List.mem_cons_of_mem _ hd)) j c' (by simpa using hj) hc X
    have e1 : vfl (c :: r) = c.toList ++ vfl r := by simp [vfl]
    have e2 : vfl ((c :: r).set (j + 1) c') = c.toList ++ vfl (r.set j c') := by simp [vfl]
    have l1 : c.toList.length = 13 := by simpa using h1
    have l2 : c'.toList.length = 13 := by simpa using hc
    have h2 := vfl_len (l := r) (fun d hd => hL d (List.mem_cons_of_mem _ hd))
    have hsp : splice (c.toList ++ (vfl r ++ X)) ((j + 1) * 13) c'.toList = c.toList ++ splice (vfl r ++ X) (j * 13) c'.toList := by
      have hk : (j + 1) * 13 = c.toList.length + j * 13 := by omega
      unfold splice
      rw [hk, List.take_length_add_append, Nat.add_assoc, List.drop_length_add_append, List.append_assoc]
    rw [e1, e2, ← ih, List.append_assoc, hsp]
    have hk2 : (c :: r).length * 13 = c.toList.length + r.length * 13 := by rw [List.length_cons]; omega
    rw [hk2, List.take_length_add_append]
/-- One item of a row of values is written over. -/
theorem own_part {w w' : World} {B g n cap : Nat} {L : List (Array Value)} {cur : Array Value} {j : Nat} {c' : Array Value} (h : w.ownsRow B 65 13 (.slice (some ⟨g, 0, none⟩) n cap) n (vfl L)) (hL : L.length = n) (h13 : ∀ c ∈ L, c.size = 13) (hg : w.heap[g]? = some (.cells cur 65 (0, 0))) (hj : j < n) (hc : c'.size = 13)
    (hw : w'.heap[g]? = some (.cells (splice cur.toList (j * 13) c'.toList).toArray 65 (0, 0))) : w'.ownsRow B 65 13 (.slice (some ⟨g, 0, none⟩) n cap) n (vfl (L.set j c')) := by
  rcases h.2 with ⟨hv, _⟩ | ⟨g', cap', cur', hv, hb, hg', h1, h2, h3, h4⟩
  · cases hv
  injection hv with e1 e2 e3
  injection e1 with e1
  injection e1 with e1 _ _
  subst e1
  subst e3
  rw [hg'] at hg
  injection hg with hg
  injection hg with hg _ _
  subst hg
  have l13 := vfl_len h13
  have hlc : cur'.toList.length = cap * 13 := by simpa using h3
  have hcl : c'.toList.length = 13 := by simpa using hc
  have hs13 : ∀ c ∈ L.set j c', c.size = 13 := fun d hd => by
    rcases List.mem_or_eq_of_mem_set hd with e | e
    · exact h13 d e
    · rw [e]; exact hc
  refine ⟨by rw [vfl_len hs13, List.length_set, hL], .inr ⟨g, cap, _, rfl, hb, hw, h1, h2, ?_, ?_⟩⟩
  · rw [List.size_toArray, length_splice _ _ _ (by omega), hlc]
  · have e : cur'.toList = vfl L ++ cur'.toList.drop (n * 13) := by
      conv => lhs; rw [← List.take_append_drop (n * 13) cur'.toList, h4]
    rw [e, List.toList_toArray]
    have := vfl_set h13 j c' (by omega) hc (cur'.toList.drop (n * 13))
    rw [hL] at this
    exact this
end
section
open Go.RowKit Go

end
section
open Go.RowKit Go

end
section
open Go.RowKit Go
theorem wp_storePart8 {o : Oper} {a : Act} {K : Act → World → Prop} {Q : Exit → Act → World → Prop} {w : World} {T : TypeId} {p x : Operand} (ho : o.op = .store T p x) (g off : Nat) (cur cs : Array Value) (t : TypeId)
    (hp : a.eval p = .pointer (some ⟨g, off, none⟩)) (hx : a.eval x = .agg cs) (hg : w.heap[g]? = some (.cells cur t (0, 0))) (hi : (Tryz.prog.info? T).map (·.size) = some cs.size) (hf : off + cs.size ≤ cur.size) (h1 : ∀ v ∈ cs.toList, v.oneCell' = true)
    (h : K (a.put o.dst undef) (w.setRow g (splice cur.toList off cs.toList).toArray)) : Oper.wp Tryz.prog o a w K Q := by
  unfold Oper.wp execOp
  have hr := part_store (w := w) (T := T) (t := t) g off cur.toList cs.toList (by simpa using hg) (by simpa using hi) (by simpa using hf) h1
  simp only [Array.toArray_toList] at hr
  simp only [ho, Sem.run_bind, hp, hx, hr, Result.andThen_ok]
  exact h
theorem step_storePart8 {ops : Array Oper} {o : Oper} {a : Act} {K : Act → World → Prop} {Q : Exit → Act → World → Prop} {w : World} {T : TypeId} {p x : Operand} (hw : Region.wanted o (yielded ops a.tmps) = true) (ho : o.op = .store T p x) (g off : Nat) (cur cs : Array Value) (t : TypeId)
    (hp : a.eval p = .pointer (some ⟨g, off, none⟩)) (hx : a.eval x = .agg cs) (hg : w.heap[g]? = some (.cells cur t (0, 0))) (hi : (Tryz.prog.info? T).map (·.size) = some cs.size) (hf : off + cs.size ≤ cur.size) (h1 : ∀ v ∈ cs.toList, v.oneCell' = true)
    (h : K (a.put o.dst undef) (w.setRow g (splice cur.toList off cs.toList).toArray)) : if Region.wanted o (yielded ops a.tmps) = true then Oper.wp Tryz.prog o a w K Q else K (a.put o.dst undef) w := by
  rw [if_pos hw]
  exact wp_storePart8 ho g off cur cs t hp hx hg hi hf h1 h
end
section
open Go.RowKit Go

end
section
open Go.RowKit Go

end
section
open Go.RowKit Go

end
section
open Go.RowKit Go

end
end Go.Proofs.YtjlknnpgngaooaaGreatDoor
