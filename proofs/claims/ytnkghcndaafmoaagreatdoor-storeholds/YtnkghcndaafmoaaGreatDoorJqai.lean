import Derived.Test.YtnkghcndaafmoaaGreatDoorJqac
import Derived.Test.YtnkghcndaafmoaaGreatDoorJqah
import Derived.Test.YtnkghcndaafmoaaGreatDoorJqy
import Derived.Test.YtnkghcndaafmoaaGreatDoorJqag
import Derived.Test.YtnkghcndaafmoaaGreatDoorJqo
import Derived.Test.YtnkghcndaafmoaaGreatDoorJql
import Derived.Test.YtnkghcndaafmoaaGreatDoorJqab
namespace Go.Proofs.YtnkghcndaafmoaaGreatDoor
section
open Go.RowKit Go
theorem lxl_tot : ∀ x y, lxl x y = false → lxl y x = false → x = y
  | [], [], _, _ => rfl
  | [], _ :: _, h, _ => by simp [lxl] at h
  | _ :: _, [], _, h => by simp [lxl] at h
  | x :: r, y :: q, h1, h2 => by
    simp only [lxl] at h1 h2
    by_cases e : x = y
    · subst e
      rw [if_pos rfl] at h1 h2
      rw [lxl_tot r q h1 h2]
    · rw [if_neg e] at h1
      rw [if_neg (fun e' => e e'.symm)] at h2
      have h3 := of_decide_eq_false h1
      have h4 := of_decide_eq_false h2
      omega
theorem lkt_tot {a b : Lk} (ha : lok a) (hb : lok b) (h1 : lkt a b = false) (h2 : lkt b a = false) : a = b := lbytes_inj ha hb (lxl_tot _ _ h1 h2)
theorem row_less {ss : List Lk} (hn : ss.Nodup) (hk : ∀ l ∈ ss, lok l) (hs : ∀ i j, i < j → j < ss.length → lkt ss[j]! ss[i]! = false) {i : Nat} (hi : i + 1 < ss.length) : llt ss[i]! ss[i + 1]! = true := by
  have e1 : ss[i]! = ss[i] := getElem!_pos ss i (by omega)
  have e2 : ss[i + 1]! = ss[i + 1] := getElem!_pos ss (i + 1) hi
  have k1 := hk ss[i] (List.getElem_mem _)
  have k2 := hk ss[i + 1] (List.getElem_mem _)
  have h1 := hs i (i + 1) (by omega) hi
  rw [e1, e2] at h1
  rw [e1, e2, llt_lkt k1 k2]
  cases h2 : lkt ss[i] ss[i + 1] with
  | true => rfl
  | false =>
    exact absurd (lkt_tot k1 k2 h2 h1) (List.pairwise_iff_getElem.1 hn i (i + 1) (by omega) hi (by omega))
end
section
open Go.RowKit Go
theorem drf_keep {L : List Blk} {k : Lk} {b : List Nat} (hd : dholds k.h k.d b = true) : ∀ (X : List Blk) (s t : Dr), drf L X s = some t → atB (mrg L s.d) k = some b → atB (mrg L t.d) k = some b
  | [], s, t, h, hk => by
    rw [drf] at h
    rw [← Option.some.inj h]
    exact hk
  | x :: r, s, t, h, hk => by
    cases h1 : atB s.d x.1 with
    | some c =>
      by_cases hb : c = x.2
      · rw [drf_same h1 hb] at h
        exact drf_keep hd r s t h hk
      · rw [drf_unlike h1 hb] at h
        cases h
    | none =>
      have hm : atB (mrg L s.d) x.1 = atB L x.1 := by rw [atB_mrg, h1, Option.none_or]
      have hp : ∀ z : Dr, z.d = x :: s.d → (k = x.1 → False) → atB (mrg L z.d) k = some b := fun z hz hne => by
        rw [hz, mrg_cons, atB_put, if_neg hne]
        exact hk
      cases h2 : atB L x.1 with
      | none =>
        rw [drf_new h1 h2] at h
        refine drf_keep hd r _ t h (hp _ rfl (fun e => ?_))
        rw [e, hm, h2] at hk
        cases hk
      | some c =>
        by_cases hb : c = x.2
        · rw [drf_stands h1 h2 hb] at h
          exact drf_keep hd r s t h hk
        · cases hd2 : dholds x.1.h x.1.d c with
          | true =>
            rw [drf_clash h1 h2 hb hd2] at h
            cases h
          | false =>
            rw [drf_over h1 h2 hb hd2] at h
            refine drf_keep hd r _ t h (hp _ rfl (fun e => ?_))
            rw [e, hm, h2] at hk
            rw [Option.some.inj hk, ← e, hd] at hd2
            cases hd2
theorem drf_has {L : List Blk} : ∀ (X : List Blk) (s t : Dr), drf L X s = some t → (∀ x ∈ X, dholds x.1.h x.1.d x.2 = true) → ∀ x ∈ X, atB (mrg L t.d) x.1 = some x.2
  | [], s, t, h, hX, x, hx => by cases hx
  | x :: r, s, t, h, hX, y, hy => by
    have hX2 : ∀ z ∈ r, dholds z.1.h z.1.d z.2 = true := fun z hz => hX z (List.mem_cons_of_mem _ hz)
    have key : ∃ s', drf L r s' = some t ∧ atB (mrg L s'.d) x.1 = some x.2 := by
      cases h1 : atB s.d x.1 with
      | some c =>
        by_cases hb : c = x.2
        · rw [drf_same h1 hb] at h
          exact ⟨s, h, by rw [atB_mrg, h1, hb]; rfl⟩
        · rw [drf_unlike h1 hb] at h
          cases h
      | none =>
        cases h2 : atB L x.1 with
        | none =>
          rw [drf_new h1 h2] at h
          exact ⟨_, h, by rw [mrg_cons, atB_put, if_pos rfl]⟩
        | some c =>
          by_cases hb : c = x.2
          · rw [drf_stands h1 h2 hb] at h
            exact ⟨s, h, by rw [atB_mrg, h1, h2, hb]; rfl⟩
          · cases hd2 : dholds x.1.h x.1.d c with
            | true =>
              rw [drf_clash h1 h2 hb hd2] at h
              cases h
            | false =>
              rw [drf_over h1 h2 hb hd2] at h
              exact ⟨_, h, by rw [mrg_cons, atB_put, if_pos rfl]⟩
    obtain ⟨s', h', h3⟩ := key
    rcases List.mem_cons.1 hy with rfl | hy
    · exact drf_keep (hX _ List.mem_cons_self) r s' t h' h3
    · exact drf_has r s' t h' hX2 y hy
theorem drf_other {L : List Blk} {k : Lk} : ∀ (X : List Blk) (s t : Dr), drf L X s = some t → k ∉ X.map Prod.fst → atB (mrg L t.d) k = atB (mrg L s.d) k
  | [], s, t, h, hk => by
    rw [drf] at h
    rw [← Option.some.inj h]
  | x :: r, s, t, h, hk => by
    rw [List.map_cons, List.mem_cons, not_or] at hk
    have hp : ∀ z : Dr, z.d = x :: s.d → atB (mrg L z.d) k = atB (mrg L s.d) k := fun z hz => by rw [hz, mrg_cons, atB_put, if_neg hk.1]
    cases h1 : atB s.d x.1 with
    | some c =>
      by_cases hb : c = x.2
      · rw [drf_same h1 hb] at h
        exact drf_other r s t h hk.2
      · rw [drf_unlike h1 hb] at h
        cases h
    | none =>
      cases h2 : atB L x.1 with
      | none =>
        rw [drf_new h1 h2] at h
        exact (drf_other r _ t h hk.2).trans (hp _ rfl)
      | some c =>
        by_cases hb : c = x.2
        · rw [drf_stands h1 h2 hb] at h
          exact drf_other r s t h hk.2
        · cases hd2 : dholds x.1.h x.1.d c with
          | true =>
            rw [drf_clash h1 h2 hb hd2] at h
            cases h
          | false =>
            rw [drf_over h1 h2 hb hd2] at h
            exact (drf_other r _ t h hk.2).trans (hp _ rfl)
theorem drf_mem {L : List Blk} : ∀ (X : List Blk) (s t : Dr), drf L X s = some t → (∀ p ∈ t.d, p ∈ s.d ∨ p ∈ X) ∧ t.d.length ≤ s.d.length + X.length
  | [], s, t, h => by
    rw [drf] at h
    rw [← Option.some.inj h]
    exact ⟨fun p hp => .inl hp, by simp⟩
  | x :: r, s, t, h => by
    have hp : ∀ z : Dr, z.d = x :: s.d → drf L r z = some t → (∀ p ∈ t.d, p ∈ s.d ∨ p ∈ x :: r) ∧ t.d.length ≤ s.d.length + (x :: r).length := fun z hz hh => by
      obtain ⟨h1, h2⟩ := drf_mem r z t hh
      rw [hz] at h1 h2
      refine ⟨fun p hp => ?_, by simp at h2 ⊢; omega⟩
      rcases h1 p hp with h | h
      · rcases List.mem_cons.1 h with e | h
        · exact .inr (e ▸ List.mem_cons_self)
        · exact .inl h
      · exact .inr (List.mem_cons_of_mem _ h)
    have hq : drf L r s = some t → (∀ p ∈ t.d, p ∈ s.d ∨ p ∈ x :: r) ∧ t.d.length ≤ s.d.length + (x :: r).length := fun hh => by
      obtain ⟨h1, h2⟩ := drf_mem r s t hh
      exact ⟨fun p hp => (h1 p hp).imp id (List.mem_cons_of_mem _), by simp; omega⟩
    cases h1 : atB s.d x.1 with
    | some c =>
      by_cases hb : c = x.2
      · rw [drf_same h1 hb] at h
        exact hq h
      · rw [drf_unlike h1 hb] at h
        cases h
    | none =>
      cases h2 : atB L x.1 with
      | none =>
        rw [drf_new h1 h2] at h
        exact hp _ rfl h
      | some c =>
        by_cases hb : c = x.2
        · rw [drf_stands h1 h2 hb] at h
          exact hq h
        · cases hd2 : dholds x.1.h x.1.d c with
          | true =>
            rw [drf_clash h1 h2 hb hd2] at h
            cases h
          | false =>
            rw [drf_over h1 h2 hb hd2] at h
            exact hp _ rfl h
structure Laid13 (L X M : List Blk) : Prop where
  has : ∀ x ∈ X, atB M x.1 = some x.2
  other : ∀ k, k ∉ X.map Prod.fst → atB M k = atB L k
  mem : ∀ p ∈ M, p ∈ X ∨ p ∈ L
theorem layr_cases (r : Nat) (L X : List Blk) (f : Nat) (hX : ∀ x ∈ X, dholds x.1.h x.1.d x.2 = true) : ((layr r L X f).1.2 ≠ 0 ∧ (layr r L X f).1.1 = 0 ∧ (layr r L X f).2 = L) ∨ (f = 0 ∧ (layr r L X f).1.2 = 0 ∧ (layr r L X f).1.1 ≤ X.length ∧ Laid13 L X (layr r L X f).2) := by
  unfold layr
  split
  · exact .inl ⟨by simp, rfl, rfl⟩
  · rename_i s hs
    by_cases hf : f = 0
    · rw [if_pos hf]
      split
      · exact .inl ⟨by simp, rfl, rfl⟩
      · obtain ⟨h1, h2⟩ := drf_mem X _ s hs
        refine .inr ⟨hf, rfl, by simpa using h2, drf_has X _ s hs hX, fun k hk => drf_other X _ s hs hk, fun p hp => ?_⟩
        rcases mem_mrg hp with h | h
        · rcases h1 p h with h | h
          · cases h
          · exact .inl h
        · exact .inr h
    · rw [if_neg hf]
      exact .inl ⟨hf, rfl, rfl⟩
theorem frt_all : ∀ X : List Blk, (frt X).2 = 0 → (frt X).1 = X.length
  | [], _ => rfl
  | x :: r, h => by
    by_cases h1 : fit13 x = 0
    · by_cases h2 : dholds x.1.h x.1.d x.2 = true
      · rw [frt, if_pos h1, if_pos h2] at h ⊢
        rw [List.length_cons, frt_all r h]
      · rw [frt, if_pos h1, if_neg h2] at h
        cases h
    · rw [frt, if_neg h1] at h
      exact absurd h h1
theorem fit13_ok {x : Blk} (h : fit13 x = 0) : lok x.1 ∧ x.1.h = 18 := by
  unfold fit13 at h
  split at h
  · assumption
  · cases h
def Gok (L : List Blk) : Prop := ∀ p ∈ L, lok p.1 ∧ p.1.h = 18
theorem addr_cases (r : Nat) (L X : List Blk) (hL : Gok L) : ((addr13 r L X).1.2 ≠ 0 ∧ (addr13 r L X).1.1 = 0 ∧ (addr13 r L X).2 = L) ∨ ((addr13 r L X).1.2 = 0 ∧ (addr13 r L X).1.1 ≤ X.length ∧ Laid13 L X (addr13 r L X).2 ∧ (∀ x ∈ X, dholds x.1.h x.1.d x.2 = true) ∧ Gok X ∧ Gok (addr13 r L X).2) := by
  have hg := frt_good X
  unfold addr13
  rcases layr_cases r L (X.take (frt X).1) (frt X).2 (fun x hx => (hg x hx).2) with h | ⟨h1, h2, h3, h4⟩
  · exact .inl h
  · have ht : X.take (frt X).1 = X := by rw [frt_all X h1, List.take_length]
    rw [ht] at h2 h3 h4 hg ⊢
    have hX : Gok X := fun x hx => fit13_ok (hg x hx).1
    exact .inr ⟨h2, h3, h4, fun x hx => (hg x hx).2, hX, fun p hp => (h4.mem p hp).elim (hX p) (hL p)⟩
theorem putr_cases (r : Nat) (L : List Blk) (c : Nat) (b : List Nat) (hL : Gok L) : ((putr13 r L c b).1.2 ≠ 0 ∧ (putr13 r L c b).2 = L) ∨ ((putr13 r L c b).1.2 = 0 ∧ lok (putr13 r L c b).1.1 ∧ (putr13 r L c b).1.1.h = 18 ∧ dholds (putr13 r L c b).1.1.h (putr13 r L c b).1.1.d b = true ∧ Laid13 L [((putr13 r L c b).1.1, b)] (putr13 r L c b).2 ∧ Gok (putr13 r L c b).2) := by
  unfold putr13
  by_cases h1 : c < 9223372036854775808
  · rw [if_pos h1]
    by_cases h2 : 67108864 < b.length
    · rw [if_pos h2]
      exact .inl ⟨by simp, rfl⟩
    · rw [if_neg h2]
      have hl : (lof c b).1 = ⟨1, c, 18, sha b⟩ := by unfold lof; rw [if_pos h1]
      have hk : lok (lof c b).1 := by rw [hl]; exact .inr ⟨rfl, h1, .inl ⟨rfl, sha_len _⟩⟩
      have h18 : (lof c b).1.h = 18 := by rw [hl]
      have hd : dholds (lof c b).1.h (lof c b).1.d b = true := by
        rw [hl]
        show dholds 18 (sha b) b = true
        unfold dholds
        rw [if_pos rfl, decide_eq_true rfl]
      generalize (lof c b).1 = l at *
      rcases layr_cases r L [(l, b)] 0 (fun x hx => by rw [List.mem_singleton.1 hx]; exact hd) with ⟨h3, h4, h5⟩ | ⟨_, h3, h4, h5⟩
      · rw [if_neg h3]
        exact .inl ⟨h3, h5⟩
      · rw [if_pos h3]
        exact .inr ⟨rfl, hk, h18, hd, h5, fun p hp => (h5.mem p hp).elim (fun h => by rw [List.mem_singleton.1 h]; exact ⟨hk, h18⟩) (hL p)⟩
  · rw [if_neg h1]
    exact .inl ⟨by simp, rfl⟩
theorem forr_cases (r : Nat) (L : List Blk) (l : Lk) (b : List Nat) (hL : Gok L) : ((forr13 r L l b).1 ≠ 0 ∧ (forr13 r L l b).2 = L) ∨ ((forr13 r L l b).1 = 0 ∧ (∀ k, k ≠ l → atB (forr13 r L l b).2 k = atB L k) ∧ Gok (forr13 r L l b).2) := by
  unfold forr13
  by_cases h1 : fit13 (l, b) = 0
  · rw [if_pos h1]
    split
    · exact .inl ⟨by simp, rfl⟩
    · refine .inr ⟨rfl, fun k hk => by rw [atB_put, if_neg hk], fun p hp => ?_⟩
      rcases mem_put hp with rfl | h
      · exact fit13_ok h1
      · exact hL p h
  · rw [if_neg h1]
    exact .inl ⟨h1, rfl⟩
theorem gok_del {L : List Blk} (h : Gok L) (l : Lk) : Gok (delB L l) := fun p hp => h p (mem_del hp)
def wos (S : List Blk) (l : Lk) : List Blk := S.filter fun p => decide (p.1 ≠ l)
def wis (S : List Blk) (l : Lk) (b : List Nat) : List Blk := wos S l ++ [(l, b)]
def wisl (S X : List Blk) : List Blk := X.foldl (fun s x => wis s x.1 x.2) S
def Sur (S L : List Blk) : Prop := ∀ p ∈ S, atB L p.1 = some p.2 ∧ lok p.1 ∧ p.1.h = 18 ∧ dholds p.1.h p.1.d p.2 = true
theorem sur_get {S L : List Blk} (h : Sur S L) {p : Blk} (hp : p ∈ S) : getr13 L p.1 = (p.2, 0) := by
  obtain ⟨h1, h2, h3, h4⟩ := h p hp
  unfold getr13
  rw [if_pos h2, if_neg (by omega), h1]
  simp only
  rw [if_pos h4]
theorem mem_wos {S : List Blk} {l : Lk} {p : Blk} (h : p ∈ wos S l) : p ∈ S ∧ p.1 ≠ l := by
  have h1 := List.mem_filter.1 h
  exact ⟨h1.1, of_decide_eq_true h1.2⟩
theorem sur_wos {S L M : List Blk} {l : Lk} (h : Sur S L) (ho : ∀ k, k ≠ l → atB M k = atB L k) : Sur (wos S l) M := fun p hp => by
  obtain ⟨h1, h2⟩ := mem_wos hp
  rw [ho _ h2]
  exact h p h1
theorem mem_wisl : ∀ (X S : List Blk) (p : Blk), p ∈ wisl S X → (p ∈ S ∧ p.1 ∉ X.map Prod.fst) ∨ p ∈ X
  | [], S, p, h => .inl ⟨h, by simp⟩
  | x :: r, S, p, h => by
    rcases mem_wisl r (wis S x.1 x.2) p h with ⟨h1, h2⟩ | h1
    · rcases List.mem_append.1 h1 with h3 | h3
      · obtain ⟨h4, h5⟩ := mem_wos h3
        exact .inl ⟨h4, by rw [List.map_cons, List.mem_cons, not_or]; exact ⟨h5, h2⟩⟩
      · rw [List.mem_singleton.1 h3]
        exact .inr List.mem_cons_self
    · exact .inr (List.mem_cons_of_mem _ h1)
theorem sur_wisl {S L X M : List Blk} (h : Sur S L) (hl : Laid13 L X M) (hd : ∀ x ∈ X, dholds x.1.h x.1.d x.2 = true) (hg : Gok X) : Sur (wisl S X) M := fun p hp => by
  rcases mem_wisl X S p hp with ⟨h1, h2⟩ | h1
  · rw [hl.other _ h2]
    exact h p h1
  · exact ⟨hl.has p h1, (hg p h1).1, (hg p h1).2, hd p h1⟩
theorem len_wos (S : List Blk) (l : Lk) : (wos S l).length ≤ S.length := List.length_filter_le _ _
theorem len_wisl : ∀ (X S : List Blk), (wisl S X).length ≤ S.length + X.length
  | [], S => Nat.le_refl _
  | x :: r, S => by
    have h1 := len_wisl r (wis S x.1 x.2)
    have h2 := len_wos S x.1
    have h3 : (wis S x.1 x.2).length = (wos S x.1).length + 1 := by unfold wis; simp
    show (wisl (wis S x.1 x.2) r).length ≤ S.length + (r.length + 1)
    omega
def Srtd (L : List Blk) (ss : List Lk) : Prop := ss.Perm (L.map (·.1)) ∧ ss.Pairwise (fun a b => lkt b a = false)
theorem srtd_uniq {L : List Blk} (hL : Gok L) {ss tt : List Lk} (hs : Srtd L ss) (ht : Srtd L tt) : ss = tt := by
  refine List.Perm.eq_of_pairwise (le := fun a b => lkt b a = false) (fun a b ha hb h1 h2 => ?_) hs.2 ht.2 (hs.1.trans ht.1.symm)
  have hok : ∀ z, z ∈ L.map (·.1) → lok z := fun z hz => by
    obtain ⟨p, hp, rfl⟩ := List.mem_map.1 hz
    exact (hL p hp).1
  exact lkt_tot (hok a (hs.1.mem_iff.1 ha)) (hok b (ht.1.mem_iff.1 hb)) h2 h1
theorem srtd_of {L : List Blk} {ss : List Lk} (hl : ss.length = L.length) (hp : ss.Perm (L.map (·.1))) (h : ∀ i j, i < j → j < L.length → lkt ss[j]! ss[i]! = false) : Srtd L ss := by
  refine ⟨hp, List.pairwise_iff_getElem.2 fun i j hi hj hij => ?_⟩
  have h1 := h i j hij (by omega)
  rwa [getElem!_pos ss j hj, getElem!_pos ss i hi] at h1
theorem srtd_less {L : List Blk} (hL : Gok L) (hn : ndB L) {ss : List Lk} (h : Srtd L ss) {i : Nat} (hi : i + 1 < ss.length) : llt ss[i]! ss[i + 1]! = true :=
  row_less (h.1.nodup_iff.2 hn) (fun z hz => by
    obtain ⟨p, hp, rfl⟩ := List.mem_map.1 (h.1.mem_iff.1 hz)
    exact (hL p hp).1) (fun i j hij hj => by
    have h1 := List.pairwise_iff_getElem.1 h.2 i j (by omega) hj hij
    rwa [getElem!_pos ss j hj, getElem!_pos ss i (by omega)]) hi
theorem srtd_get {L : List Blk} (hL : Gok L) (hn : ndB L) {ss : List Lk} (h : Srtd L ss) {l : Lk} (hl : l ∈ ss) : (atB L l).isSome = true ∧ lok l ∧ ((getr13 L l).2 = 137 ∨ (getr13 L l).2 = 0 ∧ dholds l.h l.d (getr13 L l).1 = true) := by
  obtain ⟨p, hp, rfl⟩ := List.mem_map.1 (h.1.mem_iff.1 hl)
  have h1 := mem_atB hn hp
  obtain ⟨h2, h3⟩ := hL p hp
  refine ⟨by rw [h1]; rfl, h2, ?_⟩
  unfold getr13
  rw [if_pos h2, if_neg (by omega), h1]
  simp only
  cases hd : dholds p.1.h p.1.d p.2 with
  | true => rw [if_pos rfl]; exact .inr ⟨rfl, hd⟩
  | false => rw [if_neg (by simp)]; exact .inl rfl
end
section
open Go.RowKit Go
theorem sto_below {w w' : World} {g B r : Nat} {L : List Blk} (h : Sto w g B r L) (h' : Sto w' g B r L) (hk : Kp (fun q => q = g) w w') : Below w.heap.size w w' := by
  refine ⟨hk.os, hk.tape, hk.output, hk.size, fun k hz => ?_⟩
  by_cases hg : k = g
  · rw [hg, h'.c, h.c]
  · exact hk.block k hz hg
theorem get13_bel (w : World) (g B r : Nat) (L : List Blk) (hS : Sto w g B r L) (l : Lk) (hl : Lkx l) (hcb : ∀ wy, Kp (fun q => q = g) w wy → Cb wy) : Calls Tryz.prog 30 #[.pointer (some ⟨g, 0, none⟩), .agg (lcs l)] w fun e w' => (∃ v, e = .returned (.tuple #[v, .int .i64 ((getr13 L l).2 : Nat)]) ∧ BSl w' v (getr13 L l).1 ∧ ∀ q, v.ownBlock = some q → w.heap.size ≤ q ∧ ∃ cs z, w'.heap[q]? = some (.cells cs 5 z)) ∧ Below w.heap.size w w' := by
  refine (get13_any w g B r L hS l hl hcb).mono ?_
  rintro e w' ⟨he, hs, hk⟩
  exact ⟨he, sto_below hS hs hk⟩
theorem has13_bel (w : World) (g B r : Nat) (L : List Blk) (hS : Sto w g B r L) (l : Lk) (hl : Lkx l) : Calls Tryz.prog 20 #[.pointer (some ⟨g, 0, none⟩), .agg (lcs l)] w fun e w' => e = .returned (.bool (atB L l).isSome) ∧ Below w.heap.size w w' := by
  refine (has13_any w g B r L hS l hl).mono ?_
  rintro e w' ⟨he, hs, hk⟩
  exact ⟨he, sto_below hS hs hk⟩
theorem len13_bel (w : World) (g B r : Nat) (L : List Blk) (hS : Sto w g B r L) : Calls Tryz.prog 31 #[.pointer (some ⟨g, 0, none⟩)] w fun e w' => e = .returned (.int .i64 (L.length : Nat)) ∧ Below w.heap.size w w' := by
  refine (len13_any w g B r L hS).mono ?_
  rintro e w' ⟨he, hs, hk⟩
  exact ⟨he, sto_below hS hs hk⟩
def Lki (_ : World) (l : Lk) (c : Array Value) : Prop := c = lcs l ∧ Lkx l
abbrev LkSl (w : World) (v : Value) (ls : List Lk) : Prop := GSl 4 Lki w v ls
theorem LkSl.mv {w w' : World} {v : Value} {ls : List Lk} (h : LkSl w v ls) (hm : ∀ p u, w.cell? p = some u → w'.cell? p = some u) : LkSl w' v ls := GSl.move h (fun _ _ h => h) hm
theorem lfl_gfl (ss : List Lk) : lfl ss = gfl (ss.map lcs) := by
  induction ss with
  | nil => rfl
  | cons a r ih => simp [lfl, gfl] at ih ⊢; try rw [ih]
abbrev RSl (w : World) (v : Value) (xs : List (List Nat)) : Prop := GSl 1 (fun w (x : List Nat) c => ∃ vb, c = #[vb] ∧ BSl w vb x) w v xs
theorem RSl.mv {w w' : World} {v : Value} {xs : List (List Nat)} (h : RSl w v xs) (hm : ∀ p u, w.cell? p = some u → w'.cell? p = some u) : RSl w' v xs := GSl.move h (fun _ _ ⟨vb, e, h⟩ => ⟨vb, e, h.move hm⟩) hm
abbrev ISl (w : World) (v : Value) (xs : List Nat) : Prop := GSl 1 (fun _ (x : Nat) c => c = #[.int .i64 (x : Nat)]) w v xs
theorem ISl.mv {w w' : World} {v : Value} {xs : List Nat} (h : ISl w v xs) (hm : ∀ p u, w.cell? p = some u → w'.cell? p = some u) : ISl w' v xs := GSl.move h (fun _ _ h => h) hm
end
section
open Go.RowKit Go
theorem nat_neL {a b : Nat} : ((a : Int) != (b : Int)) = decide (a ≠ b) := by
  rw [Bool.eq_iff_iff]
  simp
  omega
theorem qstep_nelk {C : World → Prop} {ops : Array Oper} {o : Oper} {a : Act} {K : Act → Prop} {x y : Operand} {T2 : TypeId} (hgd : Region.wanted o (yielded ops a.tmps) = true) (ho : o.op = .binOp .neq 41 x y T2) (A B : Array Value) (r : Bool)
    (hx : a.eval x = .agg A) (hy : a.eval y = .agg B) (he : ∀ w, C w → (Op.equalIn 10000 41 (.agg A) (.agg B)).run Tryz.prog w = .ok r w)
    (h : K (a.put o.dst (.bool (!r)))) : if Region.wanted o (yielded ops a.tmps) = true then o.quiet Tryz.prog a C K else K (a.put o.dst undef) := by
  rw [if_pos hgd]
  refine ⟨.bool (!r), fun w hC => ?_, h⟩
  unfold Oper.quietAt
  rw [exec_nelk ho hx hy (he w hC)]
  exact ⟨rfl, rfl⟩
structure LSl (w : World) (v : Value) (ls : List Lk) : Prop where
  form : ∃ a cap, v = .slice a ls.length cap ∧ (ls.length ≤ cap ∧ (a = none → cap = 0)) ∧ (ls = [] ∨ ∃ b off, a = some ⟨b, off, none⟩ ∧ ∀ i l, ls[i]? = some l → ∀ j u, (lcs l)[j]? = some u → w.cell? ⟨b, off + i * 4 + j, none⟩ = some u)
  max : ls.length ≤ 140737488351232
  bd : ∀ l ∈ ls, Lkb l
set_option maxRecDepth 1000000 in
set_option maxHeartbeats 400000 in
theorem eqLinks_any {w : World} {v u : Value} {ks ls : List Lk} (hv : LSl w v ks) (hu : LSl w u ls) :
    Calls Tryz.prog 47 #[v, u] w fun e w' => e = .returned (.bool (decide (ks = ls))) ∧ Below w.heap.size w w' := by
  generalize hR : decide (ks = ls) = R
  have HR := hide hR
  clear hR
  obtain ⟨⟨av, cv, rfl, _, hf⟩, hkm, hkb⟩ := hv
  obtain ⟨⟨au, cu, rfl, _, hg⟩, hlm, hlb⟩ := hu
  have HKB := hide hkb
  have HLB := hide hlb
  clear hkb hlb
  have HF := hide hf
  have HG := hide hg
  clear hf hg
  by_cases hl : ks.length = ls.length
  · have g0 : ((ks.length : Int) != (ls.length : Int)) = false := by rw [nat_neL]; simp [hl]
    have HL := hide hl
    clear hl
    go_enter Tryz.func47, Tryz.ntmps47
    go_wp2_with fail
    go_loopw [5] (fun ii wx => ∃ i : Nat, i ≤ ks.length ∧ ii = .int .i64 (i : Nat) ∧ Hid (∀ j, j < i → ks[j]? = ls[j]?) ∧ Hid (Below w.heap.size w wx)) (fun ii _ => ks.length - (intOf ii).toNat)
    case atStart => exact ⟨0, by omega, rfl, fun j hj => absurd hj (by omega), Below.refl _ _⟩
    case round =>
      obtain ⟨i, hi, rfl, HI, HBw⟩ := hrel
      by_cases hlt : i < ks.length
      · have g1 : (i : Int) < (ks.length : Int) := by omega
        have hlt2 : i < ls.length := by rw [← HL.out]; exact hlt
        have g2 : (i : Int) < (ls.length : Int) := by omega
        obtain ⟨s, hs⟩ : ∃ s, ks[i]? = some s := ⟨ks[i], List.getElem?_eq_getElem hlt⟩
        obtain ⟨t, ht⟩ : ∃ s, ls[i]? = some s := ⟨ls[i], List.getElem?_eq_getElem hlt2⟩
        obtain ⟨b, off, rfl, hcc⟩ := HF.out.resolve_left (fun h => by rw [h] at hlt; simp at hlt)
        obtain ⟨b2, off2, rfl, hcd⟩ := HG.out.resolve_left (fun h => by rw [h] at hlt2; simp at hlt2)
        have HQ1 : Hid (∀ wx, (∃ x : Ext wr, wx = x.w') → ∀ j x, (lcs s)[j]? = some x → wx.cell? ⟨b, off + i * 4 + j, none⟩ = some x) := by
          rintro _ ⟨y, rfl⟩ j x hx
          exact keep_below y.h _ _ (keep_below HBw.out _ _ (hcc i s hs j x hx))
        have HQ2 : Hid (∀ wx, (∃ x : Ext wr, wx = x.w') → ∀ j x, (lcs t)[j]? = some x → wx.cell? ⟨b2, off2 + i * 4 + j, none⟩ = some x) := by
          rintro _ ⟨y, rfl⟩ j x hx
          exact keep_below y.h _ _ (keep_below HBw.out _ _ (hcd i t ht j x hx))
        have HEQ : Hid (∀ wx : World, (Op.equalIn 10000 41 (.agg (lcs s)) (.agg (lcs t))).run Tryz.prog wx = .ok (decide (s = t)) wx) := fun wx => eqlk wx (HKB.out s (List.mem_of_getElem? hs)).d (HLB.out t (List.mem_of_getElem? ht)).d
        clear hcc hcd HF HG
        by_cases he : s = t
        · as_aux_lemma =>
          rw [decide_eq_true he] at HEQ
          have HI2 : Hid (∀ j, j < i + 1 → ks[j]? = ls[j]?) := fun j hj => by
            by_cases hji : j = i
            · rw [hji, hs, ht, he]
            · exact HI.out j (by omega)
          clear he hs ht HI
          go_wp2_with fail
          refine region_ext (by kernel_rfl) (by kernel_rfl) ?_
          repeat (
            refine wpQuiet_step (fun K hK => ?_)
            first
              | (refine qstep_lkAt rfl rfl b (off + i * 4) s rfl HQ1.out (hK _ ?_); clear hK K)
              | (refine qstep_lkAt rfl rfl b2 (off2 + i * 4) t rfl HQ2.out (hK _ ?_); clear hK K)
              | (refine qstep_nelk rfl rfl (lcs s) (lcs t) true rfl rfl (fun wx _ => HEQ.out wx) (hK _ ?_); clear hK K)
              | (go_simp
                 refine hK _ ?_; clear hK K))
          refine wpQuiet_nil ?_
          rintro _ ⟨tq, rfl⟩
          have HB2 : Hid (Below w.heap.size w tq.w') := HBw.out.trans (tq.h.mono HBw.out.size)
          go_wp2_with fail
          go_roundw
          case rel => exact ⟨i + 1, by omega, by go_num, HI2, HB2⟩
          case measure => simp [intOf]; omega
        · as_aux_lemma =>
          rw [decide_eq_false he] at HEQ
          have HN : Hid (ks ≠ ls) := fun h => by
            rw [h, ht] at hs
            exact he (Option.some.inj hs).symm
          clear he hs ht HI
          go_wp2_with fail
          refine region_ext (by kernel_rfl) (by kernel_rfl) ?_
          repeat (
            refine wpQuiet_step (fun K hK => ?_)
            first
              | (refine qstep_lkAt rfl rfl b (off + i * 4) s rfl HQ1.out (hK _ ?_); clear hK K)
              | (refine qstep_lkAt rfl rfl b2 (off2 + i * 4) t rfl HQ2.out (hK _ ?_); clear hK K)
              | (refine qstep_nelk rfl rfl (lcs s) (lcs t) false rfl rfl (fun wx _ => HEQ.out wx) (hK _ ?_); clear hK K)
              | (go_simp
                 refine hK _ ?_; clear hK K))
          refine wpQuiet_nil ?_
          rintro _ ⟨tq, rfl⟩
          have HB2 : Hid (Below w.heap.size w tq.w') := HBw.out.trans (tq.h.mono HBw.out.size)
          go_wp2_with fail
          go_ret
          exact ⟨by rw [← HR.out, decide_eq_false HN.out]; rfl, HB2.out⟩
      · as_aux_lemma =>
        have g1 : ¬ (i : Int) < (ks.length : Int) := by omega
        have HN : Hid (ks = ls) := List.ext_getElem? fun j => by
          by_cases hj : j < i
          · exact HI.out j hj
          · rw [List.getElem?_eq_none (by omega), List.getElem?_eq_none (by rw [← HL.out]; omega)]
        go_wp2_with fail
        go_ret
        exact ⟨by rw [← HR.out, decide_eq_true HN.out]; rfl, HBw.out⟩
  · as_aux_lemma =>
    have g0 : ((ks.length : Int) != (ls.length : Int)) = true := by rw [nat_neL]; simp [hl]
    have HN : Hid (ks ≠ ls) := fun h => hl (by rw [h])
    clear hl HF HG
    go_enter Tryz.func47, Tryz.ntmps47
    go_wp2_with fail
    go_ret
    exact ⟨by rw [← HR.out, decide_eq_false HN.out]; rfl, Below.refl _ _⟩
end
section
open Go.RowKit Go
set_option maxRecDepth 1000000 in
set_option maxHeartbeats 1000000 in
theorem eqRows13_any {w : World} {v u : Value} {xs : List (List Nat)} (hv : RSl w v xs) (hu : RSl w u xs) :
    Calls Tryz.prog 48 #[v, u] w fun e w' => e = .returned (.bool true) ∧ Below w.heap.size w w' := by
  obtain ⟨⟨av, cv, rfl, _, hf⟩, _⟩ := hv
  obtain ⟨⟨au, cu, rfl, _, hg⟩, _⟩ := hu
  have HG := hide hg
  have HF := hide hf
  clear hf hg
  go_enter Tryz.func48, Tryz.ntmps48
  go_wp2_with fail
  go_loopw [5] (fun ii wx => ∃ i : Nat, i ≤ xs.length ∧ ii = .int .i64 (i : Nat) ∧ Hid (Below w.heap.size w wx)) (fun ii _ => xs.length - (intOf ii).toNat)
  case atStart => exact ⟨0, by omega, rfl, Below.refl _ _⟩
  case round =>
    obtain ⟨i, hi, rfl, HBw⟩ := hrel
    by_cases hlt : i < xs.length
    · have g1 : (i : Int) < (xs.length : Int) := by omega
      obtain ⟨x, hx⟩ : ∃ x, xs[i]? = some x := ⟨xs[i], List.getElem?_eq_getElem hlt⟩
      obtain ⟨b, off, rfl, hcc⟩ := HF.out.resolve_left (fun h => by rw [h] at hlt; simp at hlt)
      obtain ⟨b2, off2, rfl, hcd⟩ := HG.out.resolve_left (fun h => by rw [h] at hlt; simp at hlt)
      obtain ⟨_, ⟨vb, rfl, hb⟩, h1⟩ := hcc i x hx
      obtain ⟨_, ⟨vb2, rfl, hb2⟩, h2⟩ := hcd i x hx
      have f1 : ∀ t : Ext wr, t.w'.cell? ⟨b, off + i, none⟩ = some vb := fun t => keep_below t.h _ _ (keep_below HBw.out _ _ (by simpa using h1 0 vb rfl))
      have f2 : ∀ t : Ext wr, t.w'.cell? ⟨b2, off2 + i, none⟩ = some vb2 := fun t => keep_below t.h _ _ (keep_below HBw.out _ _ (by simpa using h2 0 vb2 rfl))
      have HCH : Hid (∀ t : Ext wr, Calls Tryz.prog 84 #[vb, vb2] t.w' fun e w'' => e = .returned (.bool true) ∧ ∃ t' : Ext wr, w'' = t'.w') := fun t => by
        have h := eq_any t.w' vb vb2 x x ((hb.move (keep_below HBw.out)).move (keep_below t.h)) ((hb2.move (keep_below HBw.out)).move (keep_below t.h))
        rw [decide_eq_true rfl] at h
        refine Calls.ext_below (h.mono ?_)
        rintro e w' ⟨he, hk⟩
        exact ⟨he, hk.below (Nat.le_refl _) (fun _ e => e.elim)⟩
      clear hcc hcd hx h1 h2 hb hb2
      go_upto_region 6 with fail
      refine region_ext (by kernel_rfl) (by kernel_rfl) ?_
      repeat (
        with_reducible refine wpQuiet_step (fun K hK => ?_)
        go_simp
        first
          | (with_reducible refine hK _ ?_; clear hK K)
          | (apply Exists.intro
             refine ⟨fun _ => ?_, hK _ ?_⟩
             (go_at_call 84; exact HCH.out _)
             clear hK K))
      refine wpQuiet_nil ?_
      rintro _ ⟨tq, rfl⟩
      have HB2 : Hid (Below w.heap.size w tq.w') := HBw.out.trans (tq.h.mono HBw.out.size)
      go_wp2_with fail
      go_roundw
      case rel => exact ⟨i + 1, by omega, by go_num, HB2⟩
      case measure => simp [intOf]; omega
    · have g1 : ¬ (i : Int) < (xs.length : Int) := by omega
      go_wp2_with fail
      go_ret
      exact ⟨rfl, HBw.out⟩
theorem LkSl.lsl {w : World} {v : Value} {ss : List Lk} (h : LkSl w v ss) : LSl w v ss := by
  obtain ⟨⟨a, cap, hv, hn, hc⟩, hm⟩ := h
  refine ⟨⟨a, cap, hv, hn, ?_⟩, hm, fun l hl => ?_⟩
  · rcases hc with hc | ⟨b, off, ha, hc⟩
    · exact .inl hc
    · refine .inr ⟨b, off, ha, fun i l hi j u hj => ?_⟩
      obtain ⟨c, ⟨rfl, _⟩, h2⟩ := hc i l hi
      exact h2 j u hj
  · rcases hc with hc | ⟨b, off, ha, hc⟩
    · rw [hc] at hl
      cases hl
    · obtain ⟨i, hi⟩ := List.getElem?_of_mem hl
      obtain ⟨c, ⟨_, h1⟩, _⟩ := hc i l hi
      exact h1.toLkb
set_option maxRecDepth 1000000 in
set_option maxHeartbeats 1000000 in
theorem same13_any {w : World} {vL vB vE uL uB uE : Value} {z : Int} {ss : List Lk} {rows : List (List Nat)} {es : List Nat} (h1 : LkSl w vL ss) (h2 : LkSl w uL ss) (h3 : RSl w vB rows) (h4 : RSl w uB rows) (h5 : ISl w vE es) (h6 : ISl w uE es) :
    Calls Tryz.prog 22 #[.agg #[vL, vB, vE, .int .i64 z], .agg #[uL, uB, uE, .int .i64 z]] w fun e w' => e = .returned (.bool true) ∧ Below w.heap.size w w' := by
  obtain ⟨⟨aE, cE, rfl, _, hf⟩, _⟩ := id h5
  obtain ⟨⟨bE, dE, rfl, _, hg⟩, _⟩ := id h6
  have HF := hide hf
  have HG := hide hg
  clear hf hg
  have H1 := hide h1
  have H2 := hide h2
  have H3 := hide h3
  have H4 := hide h4
  clear h1 h2 h3 h4 h5 h6
  have HZ : (w.alloc (.cells #[vL, vB, .slice aE es.length cE, .int .i64 z] 49)).heap.size = w.heap.size + 1 := by simp
  have HX : Hid (((w.alloc (.cells #[vL, vB, .slice aE es.length cE, .int .i64 z] 49)).alloc (.cells #[uL, uB, .slice bE es.length dE, .int .i64 z] 49)).heap[w.heap.size]? = some (.cells #[vL, vB, .slice aE es.length cE, .int .i64 z] 49 (0, 0))) := blk_alloc _ (heap_alloc_new w _)
  have HY : Hid (((w.alloc (.cells #[vL, vB, .slice aE es.length cE, .int .i64 z] 49)).alloc (.cells #[uL, uB, .slice bE es.length dE, .int .i64 z] 49)).heap[w.heap.size + 1]? = some (.cells #[uL, uB, .slice bE es.length dE, .int .i64 z] 49 (0, 0))) := by
    have h := heap_alloc_new (w.alloc (.cells #[vL, vB, .slice aE es.length cE, .int .i64 z] 49)) (.cells #[uL, uB, .slice bE es.length dE, .int .i64 z] 49)
    rw [HZ] at h
    exact h
  have HB : Hid (Below w.heap.size w ((w.alloc (.cells #[vL, vB, .slice aE es.length cE, .int .i64 z] 49)).alloc (.cells #[uL, uB, .slice bE es.length dE, .int .i64 z] 49))) := (below_alloc4 w _).trans ((below_alloc4 _ _).mono (by rw [HZ]; omega))
  clear HZ
  go_enter Tryz.func22, Tryz.ntmps22
  go_upto_region 1 with fail
  generalize (w.alloc (.cells #[vL, vB, .slice aE es.length cE, .int .i64 z] 49)).alloc (.cells #[uL, uB, .slice bE es.length dE, .int .i64 z] 49) = w0 at *
  have c0 : w0.cell? ⟨w.heap.size, 0, none⟩ = some vL := blk_cell (j := 0) HX.out rfl
  have d0 : w0.cell? ⟨w.heap.size + 1, 0, none⟩ = some uL := blk_cell (j := 0) HY.out rfl
  have HEL : Hid (Calls Tryz.prog 47 #[vL, uL] w0 fun e w' => e = .returned (.bool true) ∧ Below w0.heap.size w0 w') := by
    have h := eqLinks_any (LkSl.lsl (H1.out.mv (keep_below HB.out))) (LkSl.lsl (H2.out.mv (keep_below HB.out)))
    rw [decide_eq_true rfl] at h
    exact h
  have HER : Hid (∀ wx, Below w0.heap.size w0 wx → Calls Tryz.prog 48 #[vB, uB] wx fun e w' => e = .returned (.bool true) ∧ Below w0.heap.size w0 w') := fun wx hx => by
    refine (eqRows13_any ((H3.out.mv (keep_below HB.out)).mv (keep_below hx)) ((H4.out.mv (keep_below HB.out)).mv (keep_below hx))).mono ?_
    rintro e w' ⟨he, hb⟩
    exact ⟨he, hx.trans (hb.mono hx.size)⟩
  go_upto_region 4 with (first
    | (go_at_call 47; refine HEL.out.mono ?_; rintro e w1 ⟨rfl, hb1⟩; have c1 : w1.cell? ⟨w.heap.size, 1, none⟩ = some vB := keep_below hb1 _ _ (blk_cell (j := 1) HX.out rfl); have d1 : w1.cell? ⟨w.heap.size + 1, 1, none⟩ = some uB := keep_below hb1 _ _ (blk_cell (j := 1) HY.out rfl))
    | (go_at_call 48; refine (HER.out _ hb1).mono ?_; rintro e w2 ⟨rfl, hb2⟩; have c3 : w2.cell? ⟨w.heap.size, 3, none⟩ = some (.int .i64 z) := keep_below hb2 _ _ (blk_cell (j := 3) HX.out rfl); have d3 : w2.cell? ⟨w.heap.size + 1, 3, none⟩ = some (.int .i64 z) := keep_below hb2 _ _ (blk_cell (j := 3) HY.out rfl)))
  have HB2 := hide hb2
  clear c0 d0 c1 d1 c3 d3 hb1 hb2 HEL HER
  go_loopw [5] (fun ii wx => ∃ i : Nat, i ≤ es.length ∧ ii = .int .i64 (i : Nat) ∧ Hid (Below w0.heap.size w0 wx)) (fun ii _ => es.length - (intOf ii).toNat)
  case atStart => exact ⟨0, by omega, rfl, HB2.out⟩
  case round =>
    obtain ⟨i, hi, rfl, HBw⟩ := hrel
    clear HB2
    have f0 : ∀ t : Ext wr, t.w'.cell? ⟨w.heap.size, 2, none⟩ = some (.slice aE es.length cE) := fun t => keep_below t.h _ _ (keep_below HBw.out _ _ (blk_cell (j := 2) HX.out rfl))
    have e0 : ∀ t : Ext wr, t.w'.cell? ⟨w.heap.size + 1, 2, none⟩ = some (.slice bE es.length dE) := fun t => keep_below t.h _ _ (keep_below HBw.out _ _ (blk_cell (j := 2) HY.out rfl))
    have r0 : wr.cell? ⟨w.heap.size, 2, none⟩ = some (.slice aE es.length cE) := keep_below HBw.out _ _ (blk_cell (j := 2) HX.out rfl)
    by_cases hlt : i < es.length
    · have g1 : (i : Int) < (es.length : Int) := by omega
      obtain ⟨x, hx⟩ : ∃ x, es[i]? = some x := ⟨es[i], List.getElem?_eq_getElem hlt⟩
      obtain ⟨b, off, rfl, hcc⟩ := HF.out.resolve_left (fun h => by rw [h] at hlt; simp at hlt)
      obtain ⟨b2, off2, rfl, hcd⟩ := HG.out.resolve_left (fun h => by rw [h] at hlt; simp at hlt)
      obtain ⟨_, rfl, k1⟩ := hcc i x hx
      obtain ⟨_, rfl, k2⟩ := hcd i x hx
      have f1 : ∀ t : Ext wr, t.w'.cell? ⟨b, off + i, none⟩ = some (.int .i64 (x : Nat)) := fun t => keep_below t.h _ _ (keep_below HBw.out _ _ (keep_below HB.out _ _ (by simpa using k1 0 _ rfl)))
      have f2 : ∀ t : Ext wr, t.w'.cell? ⟨b2, off2 + i, none⟩ = some (.int .i64 (x : Nat)) := fun t => keep_below t.h _ _ (keep_below HBw.out _ _ (keep_below HB.out _ _ (by simpa using k2 0 _ rfl)))
      clear hcc hcd hx k1 k2
      go_upto_region 6 with fail
      refine region_ext (by kernel_rfl) (by kernel_rfl) ?_
      repeat (
        with_reducible refine wpQuiet_step (fun K hK => ?_)
        go_simp
        with_reducible refine hK _ ?_
        clear hK K)
      refine wpQuiet_nil ?_
      rintro _ ⟨tq, rfl⟩
      have HB2 : Hid (Below w0.heap.size w0 tq.w') := HBw.out.trans (tq.h.mono HBw.out.size)
      go_wp2_with fail
      go_roundw
      case rel => exact ⟨i + 1, by omega, by go_num, HB2⟩
      case measure => simp [intOf]; omega
    · have g1 : ¬ (i : Int) < (es.length : Int) := by omega
      go_wp2_with fail
      go_ret
      exact ⟨rfl, HB.out.trans (HBw.out.mono HB.out.size)⟩
end
section
open Go.RowKit Go
theorem infoBy13 : (Tryz.prog.info? 39).map (fun i => (i.zero, i.size, i.bytes)) = some (some (.slice none 0 0), 1, 24) := by kernel_rfl
theorem infoEr13 : (Tryz.prog.info? 29).map (fun i => (i.zero, i.size, i.bytes)) = some (some (.int .i64 0), 1, 8) := by kernel_rfl
theorem own_blk13 {w : World} {base : Nat} {e : TypeId} {k : Nat} {v : Value} {n : Nat} {xs : List Value} (h : w.ownsRow base e k v n xs) {q : Nat} (hq : v.ownBlock = some q) : ∃ cur, w.heap[q]? = some (.cells cur e (0, 0)) := by
  rcases h.2 with ⟨rfl, _⟩ | ⟨g, cap, cur, rfl, _, hgb, _⟩
  · cases hq
  · have e1 : g = q := by simpa [Value.ownBlock] using hq
    subst e1
    exact ⟨cur, hgb⟩
theorem own_typ13 {w : World} {base : Nat} {e f : TypeId} {k : Nat} {v : Value} {n : Nat} {xs : List Value} (h : w.ownsRow base e k v n xs) {q : Nat} {cs : Array Value} {z : Nat × Nat} (hq : w.heap[q]? = some (.cells cs f z)) (hef : f ≠ e) : v.ownBlock ≠ some q := fun h' => by
  obtain ⟨c2, e2⟩ := own_blk13 h h'
  rw [hq] at e2
  injection e2 with e2
  injection e2 with _ e2
  exact hef e2
structure Byv (A : Nat) (w : World) (v : Value) (x : List Nat) : Prop where
  b : BSl w v x
  o : ∀ q, v.ownBlock = some q → A ≤ q ∧ ∃ cs z, w.heap[q]? = some (.cells cs 5 z)
theorem Byv.kp {S : Nat → Prop} {A : Nat} {w w' : World} {v : Value} {x : List Nat} (h : Byv A w v x) (hk : Kp S w w') (hs : ∀ q, A ≤ q → S q → ∃ cs t z, w.heap[q]? = some (.cells cs t z) ∧ t ≠ 5) : Byv A w' v x := by
  have hn : ∀ q, v.ownBlock = some q → ¬ S q := fun q hq hS => by
    obtain ⟨h1, cs, z, h2⟩ := h.o q hq
    obtain ⟨cs', t, z', h3, h4⟩ := hs q h1 hS
    rw [h2] at h3
    injection h3 with h3
    injection h3 with _ h3
    exact h4 h3.symm
  refine ⟨hk.bsl h.b hn, fun q hq => ?_⟩
  obtain ⟨h1, cs, z, h2⟩ := h.o q hq
  exact ⟨h1, cs, z, (hk.block q (blk_lt h2) (hn q hq)).trans h2⟩
theorem Byv.mono {A A' : Nat} {w : World} {v : Value} {x : List Nat} (h : Byv A w v x) (ha : A' ≤ A) : Byv A' w v x := ⟨h.b, fun q hq => ⟨Nat.le_trans ha (h.o q hq).1, (h.o q hq).2⟩⟩
structure Rwg (A : Nat) (w : World) (v : Value) (Bs : List (Array Value)) (rows : List (List Nat)) : Prop where
  o : w.ownsRow A 39 1 v Bs.length (gfl Bs)
  n : Bs.length = rows.length
  e : ∀ (i : Nat) (x : List Nat) (c : Array Value), rows[i]? = some x → Bs[i]? = some c → ∃ vb, c = #[vb] ∧ Byv A w vb x
theorem Rwg.kp {S : Nat → Prop} {A : Nat} {w w' : World} {v : Value} {Bs : List (Array Value)} {rows : List (List Nat)} (h : Rwg A w v Bs rows) (hk : Kp S w w') (hs : ∀ q, A ≤ q → S q → ∃ cs t z, w.heap[q]? = some (.cells cs t z) ∧ t ≠ 5 ∧ t ≠ 39) : Rwg A w' v Bs rows := by
  refine ⟨hk.owns h.o (fun q hq hS => ?_), h.n, fun i x c h1 h2 => ?_⟩
  · obtain ⟨cs, t, z, h1, _, h2⟩ := hs q (h.o.lt q hq).1 hS
    exact own_typ13 h.o h1 h2 hq
  · obtain ⟨vb, e, hb⟩ := h.e i x c h1 h2
    exact ⟨vb, e, hb.kp hk (fun q h3 h4 => by obtain ⟨cs, t, z, h5, h6, _⟩ := hs q h3 h4; exact ⟨cs, t, z, h5, h6⟩)⟩
theorem get_snoc13 {α : Type} {l : List α} {a : α} {i : Nat} {x : α} (h : (l ++ [a])[i]? = some x) : (i < l.length ∧ l[i]? = some x) ∨ (i = l.length ∧ x = a) := by
  by_cases hi : i < l.length
  · rw [List.getElem?_append_left hi] at h
    exact .inl ⟨hi, h⟩
  · rw [List.getElem?_append_right (by omega)] at h
    have h0 : i - l.length = 0 := by
      rcases Nat.eq_zero_or_pos (i - l.length) with e | e
      · exact e
      · rw [List.getElem?_eq_none (by simp; omega)] at h
        cases h
    rw [h0] at h
    exact .inr ⟨by omega, (Option.some.inj h).symm⟩
theorem Rwg.app {A : Nat} {w w' : World} {v v' vb : Value} {x : List Nat} {Bs : List (Array Value)} {rows : List (List Nat)} (h : Rwg A w v Bs rows) (hx : Byv A w vb x) (h6 : w'.ownsRow A 39 1 v' (Bs.length + 1) (gfl (Bs ++ [#[vb]]))) (hg : w.grownBy w' v.ownBlock) : Rwg A w' v' (Bs ++ [#[vb]]) (rows ++ [x]) := by
  have hk : Kp (fun q => v.ownBlock = some q) w w' := (Kp.refl _ w).grown hg (fun q _ e => e)
  have hs : ∀ q, A ≤ q → v.ownBlock = some q → ∃ cs t z, w.heap[q]? = some (.cells cs t z) ∧ t ≠ 5 := fun q _ hq => by
    obtain ⟨cur, e⟩ := own_blk13 h.o hq
    exact ⟨cur, _, _, e, by decide⟩
  refine ⟨by rw [List.length_append]; exact h6, by rw [List.length_append, List.length_append, h.n]; rfl, fun i y c h1 h2 => ?_⟩
  rcases get_snoc13 h2 with ⟨h3, h4⟩ | ⟨h3, h4⟩
  · rcases get_snoc13 h1 with ⟨_, h5⟩ | ⟨h5, _⟩
    · obtain ⟨vc, e, hb⟩ := h.e i y c h5 h4
      exact ⟨vc, e, hb.kp hk hs⟩
    · rw [h.n] at h3
      omega
  · rcases get_snoc13 h1 with ⟨h5, _⟩ | ⟨_, h5⟩
    · rw [h.n] at h3
      omega
    · rw [h4, h5]
      exact ⟨vb, rfl, hx.kp hk hs⟩
theorem Rwg.rsl {A : Nat} {w : World} {v : Value} {Bs : List (Array Value)} {rows : List (List Nat)} (h : Rwg A w v Bs rows) (hm : rows.length ≤ 1000000) : RSl w v rows :=
  own_gsl h.o (fun c hc => by
    obtain ⟨i, hi⟩ := List.getElem?_of_mem hc
    have hl := (List.getElem?_eq_some_iff.1 hi).1
    rw [h.n] at hl
    obtain ⟨vb, e, _⟩ := h.e i _ c (List.getElem?_eq_getElem hl) hi
    rw [e]
    rfl) h.n (by omega) (fun i x c h1 h2 => by
    obtain ⟨vb, e, hb⟩ := h.e i x c h1 h2
    exact ⟨vb, e, hb.b⟩)
def igf (es : List Nat) : List (Array Value) := es.map fun x => #[.int .i64 (x : Nat)]
structure Ivg (A : Nat) (w : World) (v : Value) (es : List Nat) : Prop where
  o : w.ownsRow A 29 1 v (igf es).length (gfl (igf es))
theorem Ivg.kp {S : Nat → Prop} {A : Nat} {w w' : World} {v : Value} {es : List Nat} (h : Ivg A w v es) (hk : Kp S w w') (hs : ∀ q, A ≤ q → S q → ∃ cs t z, w.heap[q]? = some (.cells cs t z) ∧ t ≠ 29) : Ivg A w' v es :=
  ⟨hk.owns h.o (fun q hq hS => by
    obtain ⟨cs, t, z, h1, h2⟩ := hs q (h.o.lt q hq).1 hS
    exact own_typ13 h.o h1 h2 hq)⟩
theorem Ivg.isl {A : Nat} {w : World} {v : Value} {es : List Nat} (h : Ivg A w v es) (hm : es.length ≤ 1000000) : ISl w v es :=
  own_gsl h.o (fun c hc => by
    obtain ⟨x, _, rfl⟩ := List.mem_map.1 hc
    rfl) (List.length_map _) (by omega) (fun i x c h1 h2 => by
    unfold igf at h2
    rw [List.getElem?_map, h1] at h2
    exact (Option.some.inj h2).symm)
structure Lvg (A : Nat) (w : World) (v : Value) (ss : List Lk) : Prop where
  o : w.ownsRow A 41 4 v ss.length (lfl ss)
  b : ∀ l ∈ ss, Lkx l
theorem Lvg.kp {S : Nat → Prop} {A : Nat} {w w' : World} {v : Value} {ss : List Lk} (h : Lvg A w v ss) (hk : Kp S w w') (hs : ∀ q, A ≤ q → S q → ∃ cs t z, w.heap[q]? = some (.cells cs t z) ∧ t ≠ 41) : Lvg A w' v ss :=
  ⟨hk.owns h.o (fun q hq hS => by
    obtain ⟨cs, t, z, h1, h2⟩ := hs q (h.o.lt q hq).1 hS
    exact own_typ13 h.o h1 h2 hq), h.b⟩
theorem Lvg.lksl {A : Nat} {w : World} {v : Value} {ss : List Lk} (h : Lvg A w v ss) (hm : ss.length ≤ 1000000) : LkSl w v ss := by
  have h1 : (ss.map lcs).length = ss.length := List.length_map _
  have ho := h.o
  rw [lfl_gfl, ← h1] at ho
  refine own_gsl ho (fun c hc => ?_) h1 (by omega) (fun i x c hx hc => ?_)
  · obtain ⟨l, -, rfl⟩ := List.mem_map.1 hc
    rfl
  · rw [List.getElem?_map, hx] at hc
    exact ⟨(Option.some.inj hc).symm, h.b x (List.mem_of_getElem? hx)⟩
theorem links13_own (w : World) (g B r : Nat) (L : List Blk) (hS : Sto w g B r L) (hok : Gok L) : Calls Tryz.prog 33 #[.pointer (some ⟨g, 0, none⟩)] w fun e w' => (∃ a n cap ss, e = .returned (.slice a n cap) ∧ Srtd L ss ∧ Lvg w.heap.size w' (.slice a n cap) ss) ∧ Below w.heap.size w w' := by
  refine (links13_any w g B r L hS (fun p hp => (hok p hp).1)).mono ?_
  rintro e w' ⟨⟨a, cap, ss, he, hl, hp, hs, ho⟩, hs', hk⟩
  refine ⟨⟨a, _, cap, ss, he, srtd_of hl hp hs, ho, fun l hl => ?_⟩, sto_below hS hs' hk⟩
  obtain ⟨p, hp2, rfl⟩ := List.mem_map.1 (hp.mem_iff.1 hl)
  exact (hS.m.ok p hp2).l
end
end Go.Proofs.YtnkghcndaafmoaaGreatDoor
