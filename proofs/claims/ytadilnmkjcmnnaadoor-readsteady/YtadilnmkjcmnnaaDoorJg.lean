import Derived.Test.YtadilnmkjcmnnaaDoorJf
import Derived.Deep.RegionHeld
namespace Go.Proofs.YtadilnmkjcmnnaaDoor
section
open Go.RowKit Go
/-- A value out of its parts, none of which lies in S. -/
theorem Tis.of {w : World} {S : Nat → Prop} {t : Tv} {vy vk vi : Value} {B : Nat} {L : List (Array Value)} (hb : Tbd t) (hy : BSl w vy t.y) (hys : t.y ≠ [] → ∀ q, vy.ownBlock = some q → ¬ S q) (hk : SSl w vk t.ks) (hks : t.ks ≠ [] → ∀ q, vk.ownBlock = some q → ¬ S q)
    (hv : w.ownsRow B 40 13 vi t.is.length (vfl L)) (hvs : t.is ≠ [] → ∀ q, vi.ownBlock = some q → ¬ S q) (hm : t.is.length ≤ 140737488351232) (hL : L.length = t.is.length) (h13 : ∀ c ∈ L, c.size = 13) (hi : ∀ (i : Nat) (u : Tv) (c : Array Value), t.is[i]? = some u → L[i]? = some c → Tis w S u c) : Tis w S t (vcs t vy vk vi) := by
  rcases id hv.2 with ⟨e, h0⟩ | ⟨g, cap, cur, e, _, _, h1, _⟩
  · subst e
    have e2 : t.is = [] := List.length_eq_zero_iff.1 h0
    exact Tis.mk t vy vk _ hb hy hys hk hks (fun _ => #[]) none 0 (by rw [h0]) ⟨by omega, fun _ => rfl⟩ hm (fun i u hu => by rw [e2] at hu; simp at hu) (.inl e2)
  · subst e
    refine Tis.mk t vy vk _ hb hy hys hk hks (fun i => L.getD i #[]) (some ⟨g, 0, none⟩) cap rfl ⟨by omega, fun h => by cases h⟩ hm (fun i u hu => ?_) ?_
    · have hil := (List.getElem?_eq_some_iff.1 hu).1
      have hc : L[i]? = some (L.getD i #[]) := by rw [List.getD_eq_getElem?_getD, List.getElem?_eq_getElem (by omega)]; rfl
      exact hi i u _ hu hc
    · by_cases e2 : t.is = []
      · exact .inl e2
      · refine .inr ⟨g, 0, rfl, hvs e2 g rfl, fun i hil j u hu => ?_⟩
        rw [Nat.zero_add]
        have hc : L[i]? = some (L.getD i #[]) := by rw [List.getD_eq_getElem?_getD, List.getElem?_eq_getElem (by omega)]; rfl
        exact own_val hv h13 hc j u hu
end
section
open Go.RowKit Go
/-! ### The lists and maps that are open, in memory -/
/-- A nest's cells. -/
def ncs (x : Nst) (vk vi : Value) : Array Value := (vcs x.val (.slice none 0 0) vk vi).push (.int .u64 (x.n : Nat))
/-- The blocks that are written to. -/
def Lvs (M : Nat → Prop) (v : Value) (n : Nat) (K I : Nat → Value) (q : Nat) : Prop := M q ∨ v.ownBlock = some q ∨ ∃ i, i < n ∧ ((K i).ownBlock = some q ∨ (I i).ownBlock = some q)
/-- One that is open: its rows and its items. -/
structure Ent8 (w : World) (lo : Nat) (S : Nat → Prop) (x : Nst) (vk vi : Value) (L : List (Array Value)) : Prop where
  k : w.ownsRow lo 9 1 vk x.ks.length (sv x.ks)
  i : w.ownsRow lo 40 13 vi x.is.length (vfl L)
  kz : ∀ s ∈ x.ks, s.size ≤ 140737488351232
  kl : x.ks.length ≤ 140737488351232
  il : x.is.length ≤ 140737488351232
  n : L.length = x.is.length
  s : ∀ c ∈ L, c.size = 13
  t : ∀ (j : Nat) (u : Tv) (c : Array Value), x.is[j]? = some u → L[j]? = some c → Tis w S u c
  z : x.n < 18446744073709551616
structure Opn (w : World) (lo : Nat) (M : Nat → Prop) (v : Value) (st : List Nst) (C : List (Array Value)) (K I : Nat → Value) (L : Nat → List (Array Value)) : Prop where
  o : w.ownsRow lo 61 14 v st.length (vfl C)
  n : C.length = st.length
  c : ∀ i x, st[i]? = some x → C[i]? = some (ncs x (K i) (I i))
  m : ∀ q, M q → v.ownBlock ≠ some q
  mz : ∀ q, M q → q < w.heap.size
  e : ∀ i x, st[i]? = some x → Ent8 w lo (Lvs M v st.length K I) x (K i) (I i) (L i)
  d : ∀ i, i < st.length → ∀ q, (K i).ownBlock = some q ∨ (I i).ownBlock = some q → ¬ M q ∧ v.ownBlock ≠ some q ∧ ∀ j, j < st.length → j ≠ i → (K j).ownBlock ≠ some q ∧ (I j).ownBlock ≠ some q
  dd : ∀ i, i < st.length → ∀ q, (K i).ownBlock = some q → (I i).ownBlock ≠ some q
theorem Opn.live {w : World} {lo : Nat} {M : Nat → Prop} {v : Value} {st : List Nst} {C : List (Array Value)} {K I : Nat → Value} {L : Nat → List (Array Value)} (h : Opn w lo M v st C K I L) {q : Nat} (hq : Lvs M v st.length K I q) : q < w.heap.size := by
  rcases hq with hq | hq | ⟨i, hi, hq⟩
  · exact h.mz q hq
  · exact (h.o.lt q hq).2
  · have he := h.e i _ (List.getElem?_eq_getElem hi)
    rcases hq with hq | hq
    · exact (he.k.lt q hq).2
    · exact (he.i.lt q hq).2
/-- Writing elsewhere, or at the machine's own block. -/
theorem Opn.kp {w w' : World} {lo : Nat} {M : Nat → Prop} {v : Value} {st : List Nst} {C : List (Array Value)} {K I : Nat → Value} {L : Nat → List (Array Value)} (h : Opn w lo M v st C K I L) (hk : Kp M w w') : Opn w' lo M v st C K I L := by
  refine ⟨hk.owns h.o (fun q hq e => h.m q e hq), h.n, h.c, h.m, fun q hq => Nat.lt_of_lt_of_le (h.mz q hq) hk.size, fun i x hx => ?_, h.d, h.dd⟩
  have hi := (List.getElem?_eq_some_iff.1 hx).1
  obtain ⟨a1, a2, a3, a4, a5, a6, a7, a8, a9⟩ := h.e i x hx
  exact ⟨hk.owns a1 (fun q hq e => (h.d i hi q (.inl hq)).1 e), hk.owns a2 (fun q hq e => (h.d i hi q (.inr hq)).1 e), a3, a4, a5, a6, a7, fun j u c e1 e2 => (a8 j u c e1 e2).kp (hk.mono (fun _ _ e => .inl e)), a9⟩
theorem Opn.next {w w' : World} {lo : Nat} {M : Nat → Prop} {v : Value} {st : List Nst} {C : List (Array Value)} {K I : Nat → Value} {L : Nat → List (Array Value)} (h : Opn w lo M v st C K I L) (hb : Below w.heap.size w w') : Opn w' lo M v st C K I L := h.kp (Kp.of_below hb)
/-- A value that lies in none of these blocks goes on so. -/
theorem Tis.live {w w' : World} {S T : Nat → Prop} {u : Tv} {c : Array Value} (h : Tis w S u c) (hk : Kp S w w') (ht : ∀ q, T q → S q ∨ w.heap.size ≤ q) : Tis w' T u c :=
  (h.widen.kp (hk.mono (fun _ _ e => .inl e))).mono ht
theorem set_at {α : Type} {l : List α} {i : Nat} {x y : α} (hi : i < l.length) (h : (l.set i x)[i]? = some y) : y = x := by
  rw [List.getElem?_set_self hi] at h
  injection h with h
  exact h.symm
/-- The innermost one is changed. -/
theorem Opn.upd {w w' : World} {lo : Nat} {M : Nat → Prop} {v : Value} {st : List Nst} {C : List (Array Value)} {K I : Nat → Value} {L : Nat → List (Array Value)} (h : Opn w lo M v st C K I L) {t : Nat} (ht : t < st.length) {x' : Nst} {vk' vi' : Value} {L' : List (Array Value)}
    (hk : Kp (fun q => v.ownBlock = some q ∨ (K t).ownBlock = some q ∨ (I t).ownBlock = some q) w w') (ho : w'.ownsRow lo 61 14 v st.length (vfl (C.set t (ncs x' vk' vi'))))
    (hk1 : w'.ownsRow lo 9 1 vk' x'.ks.length (sv x'.ks)) (hkb : vk'.ownBlock = (K t).ownBlock ∨ ∀ q, vk'.ownBlock = some q → w.heap.size ≤ q) (hi1 : w'.ownsRow lo 40 13 vi' x'.is.length (vfl L')) (hib : vi'.ownBlock = (I t).ownBlock ∨ ∀ q, vi'.ownBlock = some q → w.heap.size ≤ q) (hne : ∀ q, vk'.ownBlock = some q → vi'.ownBlock ≠ some q)
    (kz : ∀ s ∈ x'.ks, s.size ≤ 140737488351232) (kl : x'.ks.length ≤ 140737488351232) (il : x'.is.length ≤ 140737488351232) (hn : L'.length = x'.is.length) (hs : ∀ c ∈ L', c.size = 13) (hz : x'.n < 18446744073709551616)
    (hit : ∀ (j : Nat) (u : Tv) (c : Array Value), x'.is[j]? = some u → L'[j]? = some c → Tis w (Lvs M v st.length K I) u c) :
    Opn w' lo M v (st.set t x') (C.set t (ncs x' vk' vi')) (fun i => if i = t then vk' else K i) (fun i => if i = t then vi' else I i) (fun i => if i = t then L' else L i) := by
  have hsub : ∀ q, (v.ownBlock = some q ∨ (K t).ownBlock = some q ∨ (I t).ownBlock = some q) → Lvs M v st.length K I q := fun q hq => by
    rcases hq with hq | hq | hq
    · exact .inr (.inl hq)
    · exact .inr (.inr ⟨t, ht, .inl hq⟩)
    · exact .inr (.inr ⟨t, ht, .inr hq⟩)
  have hkL : Kp (Lvs M v st.length K I) w w' := hk.mono (fun q _ e => hsub q e)
  have hnew : ∀ q, (vk'.ownBlock = some q ∨ vi'.ownBlock = some q) → ((K t).ownBlock = some q ∨ (I t).ownBlock = some q) ∨ w.heap.size ≤ q := fun q hq => by
    rcases hq with hq | hq
    · rcases hkb with e | e
      · exact .inl (.inl (e ▸ hq))
      · exact .inr (e q hq)
    · rcases hib with e | e
      · exact .inl (.inr (e ▸ hq))
      · exact .inr (e q hq)
  have hT : ∀ q, Lvs M v (st.set t x').length (fun i => if i = t then vk' else K i) (fun i => if i = t then vi' else I i) q → Lvs M v st.length K I q ∨ w.heap.size ≤ q := fun q hq => by
    rcases hq with hq | hq | ⟨i, hi, hq⟩
    · exact .inl (.inl hq)
    · exact .inl (.inr (.inl hq))
    · rw [List.length_set] at hi
      by_cases e : i = t
      · simp only [e, if_true] at hq
        rcases hnew q hq with h1 | h1
        · exact .inl (hsub q (.inr h1))
        · exact .inr h1
      · simp only [if_neg e] at hq
        exact .inl (.inr (.inr ⟨i, hi, hq⟩))
  have hold : ∀ i, i < st.length → i ≠ t → ∀ q, ((K i).ownBlock = some q ∨ (I i).ownBlock = some q) → ¬ (v.ownBlock = some q ∨ (K t).ownBlock = some q ∨ (I t).ownBlock = some q) := fun i hi e q hq hf => by
    obtain ⟨d1, d2, d3⟩ := h.d i hi q hq
    rcases hf with hf | hf | hf
    · exact d2 hf
    · exact (d3 t ht (fun e2 => e e2.symm)).1 hf
    · exact (d3 t ht (fun e2 => e e2.symm)).2 hf
  refine ⟨by rw [List.length_set]; exact ho, by rw [List.length_set, List.length_set]; exact h.n, fun i x hx => ?_, h.m, fun q hq => Nat.lt_of_lt_of_le (h.mz q hq) hk.size, fun i x hx => ?_, fun i hi q hq => ?_, fun i hi q hq => ?_⟩
  · by_cases e : i = t
    · subst e
      rw [set_at ht hx]
      simp only [if_true]
      rw [List.getElem?_set_self (by rw [h.n]; exact ht)]
    · rw [List.getElem?_set_ne (fun e2 => e e2.symm)] at hx
      simp only [if_neg e]
      rw [List.getElem?_set_ne (fun e2 => e e2.symm)]
      exact h.c i x hx
  · by_cases e : i = t
    · subst e
      rw [set_at ht hx]
      simp only [if_true]
      exact ⟨hk1, hi1, kz, kl, il, hn, hs, fun j u c e1 e2 => (hit j u c e1 e2).live hkL hT, hz⟩
    · rw [List.getElem?_set_ne (fun e2 => e e2.symm)] at hx
      have hi := (List.getElem?_eq_some_iff.1 hx).1
      simp only [if_neg e]
      obtain ⟨a1, a2, a3, a4, a5, a6, a7, a8, a9⟩ := h.e i x hx
      exact ⟨hk.owns a1 (fun q hq => hold i hi e q (.inl hq)), hk.owns a2 (fun q hq => hold i hi e q (.inr hq)), a3, a4, a5, a6, a7, fun j u c e1 e2 => (a8 j u c e1 e2).live hkL hT, a9⟩
  · rw [List.length_set] at hi
    by_cases e : i = t
    · subst e
      simp only [if_true] at hq
      rcases hnew q hq with h1 | h1
      · obtain ⟨d1, d2, d3⟩ := h.d i ht q h1
        refine ⟨d1, d2, fun j hj hji => ?_⟩
        rw [List.length_set] at hj
        simp only [if_neg hji]
        exact d3 j hj hji
      · have hlt := fun hl => Nat.lt_irrefl _ (Nat.lt_of_le_of_lt h1 (h.live (q := q) hl))
        refine ⟨fun e => hlt (.inl e), fun e => hlt (.inr (.inl e)), fun j hj hji => ?_⟩
        rw [List.length_set] at hj
        simp only [if_neg hji]
        exact ⟨fun e => hlt (.inr (.inr ⟨j, hj, .inl e⟩)), fun e => hlt (.inr (.inr ⟨j, hj, .inr e⟩))⟩
    · simp only [if_neg e] at hq
      obtain ⟨d1, d2, d3⟩ := h.d i hi q hq
      have hqL : q < w.heap.size := h.live (.inr (.inr ⟨i, hi, hq⟩))
      refine ⟨d1, d2, fun j hj hji => ?_⟩
      rw [List.length_set] at hj
      by_cases e2 : j = t
      · subst e2
        simp only [if_true]
        have hn2 : ¬ (vk'.ownBlock = some q ∨ vi'.ownBlock = some q) := fun hv => by
          rcases hnew q hv with h1 | h1
          · rcases h1 with h1 | h1
            · exact (d3 j hj hji).1 h1
            · exact (d3 j hj hji).2 h1
          · omega
        exact ⟨fun e => hn2 (.inl e), fun e => hn2 (.inr e)⟩
      · simp only [if_neg e2]
        exact d3 j hj hji
  · rw [List.length_set] at hi
    by_cases e : i = t
    · subst e
      simp only [if_true] at hq ⊢
      exact hne q hq
    · simp only [if_neg e] at hq ⊢
      exact h.dd i hi q hq
/-- One more is opened. -/
theorem Opn.push {w w' : World} {lo : Nat} {M : Nat → Prop} {v v' : Value} {st : List Nst} {C : List (Array Value)} {K I : Nat → Value} {L : Nat → List (Array Value)} (h : Opn w lo M v st C K I L) {k : Int} {n : Nat} (hz : n < 18446744073709551616) {c : Array Value} (hc : c = ncs ⟨k, [], [], n⟩ (.slice none 0 0) (.slice none 0 0))
    (ho : w'.ownsRow lo 61 14 v' (st.length + 1) (vfl C ++ c.toList)) (hg : w.grownBy w' v.ownBlock) (hv : v'.ownBlock = v.ownBlock ∨ v'.ownBlock = some w.heap.size) :
    Opn w' lo M v' (st ++ [⟨k, [], [], n⟩]) (C ++ [c]) (fun i => if i = st.length then .slice none 0 0 else K i) (fun i => if i = st.length then .slice none 0 0 else I i) (fun i => if i = st.length then [] else L i) := by
  have hk : Kp (fun q => v.ownBlock = some q) w w' := (Kp.refl _ _).grown hg (fun k _ h => h)
  have hkL : Kp (Lvs M v st.length K I) w w' := hk.mono (fun q _ e => .inr (.inl e))
  have hvn : ∀ q, v'.ownBlock = some q → v.ownBlock = some q ∨ q = w.heap.size := fun q hq => by
    rcases hv with e | e
    · exact .inl (e ▸ hq)
    · rw [e] at hq
      injection hq with hq
      exact .inr hq.symm
  have hT : ∀ q, Lvs M v' (st ++ [(⟨k, [], [], n⟩ : Nst)]).length (fun i => if i = st.length then .slice none 0 0 else K i) (fun i => if i = st.length then .slice none 0 0 else I i) q → Lvs M v st.length K I q ∨ w.heap.size ≤ q := fun q hq => by
    rcases hq with hq | hq | ⟨i, hi, hq⟩
    · exact .inl (.inl hq)
    · rcases hvn q hq with e | e
      · exact .inl (.inr (.inl e))
      · exact .inr (by omega)
    · rw [List.length_append, List.length_singleton] at hi
      by_cases e : i = st.length
      · simp only [e, if_true] at hq
        rcases hq with hq | hq <;> cases hq
      · simp only [if_neg e] at hq
        exact .inl (.inr (.inr ⟨i, by omega, hq⟩))
  have hlv : ∀ q, q < w.heap.size → v'.ownBlock = some q → v.ownBlock = some q := fun q hq e => by
    rcases hvn q e with e | e
    · exact e
    · omega
  refine ⟨?_, ?_, fun i x hx => ?_, fun q hq e => h.m q hq (hlv q (h.mz q hq) e), fun q hq => Nat.lt_of_lt_of_le (h.mz q hq) hk.size, fun i x hx => ?_, fun i hi q hq => ?_, fun i hi q hq => ?_⟩
  · rw [vfl_app, List.length_append]
    have e : vfl [c] = c.toList := by simp [vfl]
    rw [e]
    exact ho
  · rw [List.length_append, List.length_append, h.n]
    rfl
  · have hi := (List.getElem?_eq_some_iff.1 hx).1
    rw [List.length_append, List.length_singleton] at hi
    by_cases e : i = st.length
    · subst e
      have hx2 : x = ⟨k, [], [], n⟩ := by simpa using hx.symm
      subst hx2
      simp only [if_true]
      rw [← h.n]
      simp [hc]
    · rw [List.getElem?_append_left (by omega)] at hx
      simp only [if_neg e]
      rw [List.getElem?_append_left (by rw [h.n]; omega)]
      exact h.c i x hx
  · have hi := (List.getElem?_eq_some_iff.1 hx).1
    rw [List.length_append, List.length_singleton] at hi
    by_cases e : i = st.length
    · subst e
      have hx2 : x = ⟨k, [], [], n⟩ := by simpa using hx.symm
      subst hx2
      simp only [if_true]
      exact ⟨World.ownsRow_nil _ _ _ _, World.ownsRow_nil _ _ _ _, by simp, by simp, by simp, rfl, by simp, fun j u c e1 _ => by simp at e1, hz⟩
    · rw [List.getElem?_append_left (by omega)] at hx
      simp only [if_neg e]
      obtain ⟨a1, a2, a3, a4, a5, a6, a7, a8, a9⟩ := h.e i x hx
      exact ⟨hk.owns a1 (fun q hq => (h.d i (by omega) q (.inl hq)).2.1), hk.owns a2 (fun q hq => (h.d i (by omega) q (.inr hq)).2.1), a3, a4, a5, a6, a7, fun j u c e1 e2 => (a8 j u c e1 e2).live hkL hT, a9⟩
  · rw [List.length_append, List.length_singleton] at hi
    by_cases e : i = st.length
    · simp only [e, if_true] at hq
      rcases hq with hq | hq <;> cases hq
    · simp only [if_neg e] at hq
      have hil : i < st.length := by omega
      obtain ⟨d1, d2, d3⟩ := h.d i hil q hq
      refine ⟨d1, fun e2 => d2 (hlv q (h.live (.inr (.inr ⟨i, hil, hq⟩))) e2), fun j hj hji => ?_⟩
      rw [List.length_append, List.length_singleton] at hj
      by_cases e2 : j = st.length
      · simp only [e2, if_true]
        exact ⟨fun h => (by cases h), fun h => (by cases h)⟩
      · simp only [if_neg e2]
        exact d3 j (by omega) hji
  · rw [List.length_append, List.length_singleton] at hi
    by_cases e : i = st.length
    · simp only [e, if_true] at hq
      cases hq
    · simp only [if_neg e] at hq ⊢
      exact h.dd i (by omega) q hq
theorem own_less {w : World} {B e s g n cap : Nat} {C : List (Array Value)} {c : Array Value} (hs : ∀ d ∈ C, d.size = s) (h : w.ownsRow B e s (.slice (some ⟨g, 0, none⟩) (n + 1) cap) (n + 1) (vfl (C ++ [c]))) (hn : C.length = n) : w.ownsRow B e s (.slice (some ⟨g, 0, none⟩) n cap) n (vfl C) := by
  have hl : (vfl C).length = n * s := by
    rw [← hn]
    clear h hn
    induction C with
    | nil => simp [vfl]
    | cons a r ih =>
      have h1 := ih (fun d hd => hs d (List.mem_cons_of_mem _ hd))
      have h2 := hs a (List.mem_cons_self ..)
      have e : vfl (a :: r) = a.toList ++ vfl r := by simp [vfl]
      rw [e, List.length_append, h1, Array.length_toList, h2, List.length_cons, Nat.succ_mul, Nat.add_comm]
  rcases h.2 with ⟨hv, _⟩ | ⟨g', cap', cur, hv, hb, hg, h1, h2, h3, h4⟩
  · cases hv
  injection hv with e1 e2 e3
  injection e1 with e1
  injection e1 with e1 _ _
  subst e1
  subst e3
  refine ⟨hl, .inr ⟨g, cap, cur, rfl, hb, hg, by omega, h2, h3, ?_⟩⟩
  have h5 : (cur.toList.take ((n + 1) * s)).take (n * s) = (vfl (C ++ [c])).take (n * s) := by rw [h4]
  rw [List.take_take, Nat.min_eq_left (by rw [Nat.succ_mul]; omega), vfl_app, List.take_append_of_le_length (by omega)] at h5
  rw [h5, List.take_of_length_le (by omega)]
theorem val_tbd (x : Nst) : Tbd x.val := by
  obtain ⟨k, ks, is, n⟩ := x
  exact ⟨by show (0 : Nat) < _; decide, by show (0 : Nat) < _; decide, by show (ByteArray.mk #[]).size ≤ _; decide, by show ([] : List Nat).length ≤ _; decide, ⟨by show (0 : Nat) < _; decide, by show (0 : Nat) < _; decide, fun x hx => (by cases hx), by show ([] : List Nat).length ≤ _; decide⟩, by show ([] : List Nat).length ≤ _; decide⟩
theorem bsl_none (w : World) : BSl w (.slice none 0 0) [] := ⟨⟨none, 0, rfl, ⟨by simp, fun _ => rfl⟩, .inl rfl⟩, by simp, by simp⟩
/-- The innermost one is whole. -/
theorem Opn.pop {w : World} {lo : Nat} {M : Nat → Prop} {v : Value} {q : List Nst} {x : Nst} {C : List (Array Value)} {K I : Nat → Value} {L : Nat → List (Array Value)} (h : Opn w lo M v (q ++ [x]) C K I L) :
    ∃ g cap, v = .slice (some ⟨g, 0, none⟩) (q.length + 1) cap ∧ q.length + 1 ≤ cap ∧ Opn w lo M (.slice (some ⟨g, 0, none⟩) q.length cap) q (C.take q.length) K I L ∧ Tis w (Lvs M (.slice (some ⟨g, 0, none⟩) q.length cap) q.length K I) x.val (vcs x.val (.slice none 0 0) (K q.length) (I q.length)) := by
  have hlen : (q ++ [x]).length = q.length + 1 := by simp
  have ho := h.o
  rw [hlen] at ho
  obtain ⟨g, cap, hv, hcap⟩ : ∃ g cap, v = .slice (some ⟨g, 0, none⟩) (q.length + 1) cap ∧ q.length + 1 ≤ cap := by
    rcases ho.2 with ⟨_, h0⟩ | ⟨g, cap, cur, hv, _, _, h1, _⟩
    · omega
    · exact ⟨g, cap, hv, h1⟩
  subst hv
  have hcl : C.length = q.length + 1 := by rw [h.n, hlen]
  have hctop : C[q.length]? = some (ncs x (K q.length) (I q.length)) := h.c q.length x (by simp)
  have hC : C = C.take q.length ++ [ncs x (K q.length) (I q.length)] := by
    refine List.ext_getElem? fun i => ?_
    by_cases hi : i < q.length
    · rw [List.getElem?_append_left (by rw [List.length_take]; omega), List.getElem?_take_of_lt hi]
    · by_cases hi2 : i = q.length
      · subst hi2
        rw [List.getElem?_append_right (by rw [List.length_take]; omega), List.length_take, Nat.min_eq_left (by omega), Nat.sub_self]
        exact hctop
      · rw [List.getElem?_eq_none (by omega), List.getElem?_eq_none (by rw [List.length_append, List.length_take, List.length_singleton]; omega)]
  have hz14 : ∀ d ∈ C.take q.length, d.size = 14 := fun d hd => by
    obtain ⟨i, hi⟩ := List.getElem?_of_mem hd
    have hil : i < q.length := by have := (List.getElem?_eq_some_iff.1 hi).1; rw [List.length_take] at this; omega
    rw [List.getElem?_take_of_lt hil] at hi
    have hx : (q ++ [x])[i]? = some q[i] := by rw [List.getElem?_append_left hil]; exact List.getElem?_eq_getElem hil
    rw [h.c i _ hx] at hi
    injection hi with hi
    rw [← hi]
    rfl
  have ho2 : w.ownsRow lo 61 14 (.slice (some ⟨g, 0, none⟩) q.length cap) q.length (vfl (C.take q.length)) := by
    rw [hC] at ho
    exact own_less hz14 ho (by rw [List.length_take]; omega)
  have hsub : ∀ p, Lvs M (.slice (some ⟨g, 0, none⟩) q.length cap) q.length K I p → Lvs M (.slice (some ⟨g, 0, none⟩) (q.length + 1) cap) (q ++ [x]).length K I p := fun p hp => by
    rcases hp with hp | hp | ⟨i, hi, hp⟩
    · exact .inl hp
    · exact .inr (.inl hp)
    · exact .inr (.inr ⟨i, by rw [hlen]; omega, hp⟩)
  refine ⟨g, cap, rfl, hcap, ⟨ho2, by rw [List.length_take]; omega, fun i y hy => ?_, h.m, h.mz, fun i y hy => ?_, fun i hi p hp => ?_, fun i hi p hp => ?_⟩, ?_⟩
  · have hi := (List.getElem?_eq_some_iff.1 hy).1
    rw [List.getElem?_take_of_lt hi]
    exact h.c i y (by rw [List.getElem?_append_left hi]; exact hy)
  · have hi := (List.getElem?_eq_some_iff.1 hy).1
    obtain ⟨a1, a2, a3, a4, a5, a6, a7, a8, a9⟩ := h.e i y (by rw [List.getElem?_append_left hi]; exact hy)
    exact ⟨a1, a2, a3, a4, a5, a6, a7, fun j u c e1 e2 => (a8 j u c e1 e2).mono hsub, a9⟩
  · obtain ⟨d1, d2, d3⟩ := h.d i (by rw [hlen]; omega) p hp
    exact ⟨d1, d2, fun j hj hji => d3 j (by rw [hlen]; omega) hji⟩
  · exact h.dd i (by rw [hlen]; omega) p hp
  · obtain ⟨a1, a2, a3, a4, a5, a6, a7, a8, a9⟩ := h.e q.length x (by simp)
    have hno : ∀ p, (K q.length).ownBlock = some p ∨ (I q.length).ownBlock = some p → ¬ Lvs M (.slice (some ⟨g, 0, none⟩) q.length cap) q.length K I p := fun p hp hl => by
      obtain ⟨d1, d2, d3⟩ := h.d q.length (by rw [hlen]; omega) p hp
      rcases hl with hl | hl | ⟨i, hi, hl⟩
      · exact d1 hl
      · exact d2 hl
      · have h9 := d3 i (by rw [hlen]; omega) (by omega)
        rcases hl with hl | hl
        · exact h9.1 hl
        · exact h9.2 hl
    exact Tis.of (val_tbd x) (bsl_none w) (fun h => absurd rfl h) (SSl.own a1 rfl a4 a3) (fun _ p hp => hno p (.inl hp)) a2 (fun _ p hp => hno p (.inr hp)) a5 a6 a7 (fun j u c e1 e2 => (a8 j u c e1 e2).mono hsub)
end
section
open Go.RowKit Go
def zi : Array Value := #[.int .i64 0, .int .i64 0, .int .u64 0, .int .i64 0, .bool false, .slice none 0 0, .string ⟨#[]⟩, .int .i64 0, .int .u64 0, .int .u64 0, .string ⟨#[]⟩]
theorem infoI : (Tryd.prog.info? 54).map (·.size) = some 11 := by kernel_rfl
theorem infoH8 : (Tryd.prog.info? 52).map (·.size) = some 5 := by kernel_rfl
/-- Where look stands: its answer, the head. -/
structure Lkw (w wx : World) : Prop where
  b : Below w.heap.size w wx
  r : wx.heap[w.heap.size]? = some (.cells zi 54 (0, 0))
theorem Lkw.next {w wx wy : World} (h : Lkw w wx) (hb : Below wx.heap.size wx wy) : Lkw w wy := ⟨h.b.trans (hb.mono h.b.size), (hb.block _ (blk_lt h.r)).trans h.r⟩
theorem end_look {wx : World} {R : Nat} {c : Array Value} {e : Int} {tmps : Array Value} (hn : c.size = 11) (hr : wx.heap[R]? = some (.cells c 54 (0, 0))) (hp : tmps.getD 4 undef = .pointer (some ⟨R, 0, none⟩)) (he : tmps.getD 5 undef = .int .i64 e) : (results Tryd.f20 tmps).run Tryd.prog wx = .ok (.tuple #[.agg c, .int .i64 e]) wx := by
  have h1 := run_loadVar_row (P := Tryd.prog) wx R 54 54 c (0, 0) _ hr Tryd.underlying54 rfl (by rw [hn]; exact infoI)
  refine (results_cell_tmp rfl _ _ _).trans ?_
  rw [hp, he]
  simp [asAddr, h1, Result.andThen]
theorem hrd_bd (b : List Nat) (hb : ∀ x ∈ b, x < 256) : (hrd b).n < 18446744073709551616 ∧ (hrd b).m ≤ 7 ∧ ((hrd b).e = 0 → (hrd b).u ≤ b.length) := by
  cases b with
  | nil => exact ⟨by decide, by decide, fun h => by cases h⟩
  | cons x r =>
    have hx := hb x (List.mem_cons_self ..)
    refine ⟨?_, ?_, fun h => (hrd_app (tl := []) (b := x :: r) (by rw [h]; decide)).2⟩
    · by_cases h1 : 27 < x % 32
      · by_cases h2 : x % 32 = 31 ∧ x / 32 ≠ 0 ∧ x / 32 ≠ 1 ∧ x / 32 ≠ 6
        · rw [hrd_end h2.1 h2.2]; show 0 < _; decide
        · rw [hrd_info h1 h2]; show 0 < _; decide
      · by_cases h2 : x % 32 < 24
        · rw [hrd_small h2]; show x % 32 < _; omega
        · by_cases h3 : r.length < hwide (x % 32)
          · rw [hrd_short (by omega) (by omega) h3]; show 0 < _; decide
          · by_cases h4 : x / 32 = 7 ∧ x % 32 = 24 ∧ bnum 0 (r.take (hwide (x % 32))) < 32
            · rw [hrd_low h4.2.1 h3 h4.1 h4.2.2]; show 0 < _; decide
            · rw [hrd_long (by omega) (by omega) h3 h4]
              show bnum 0 (r.take (hwide (x % 32))) < _
              have h5 := bnum_lt (r.take (hwide (x % 32))) 0 (fun y hy => hb y (List.mem_cons_of_mem _ (List.mem_of_mem_take hy)))
              have h6 : (r.take (hwide (x % 32))).length ≤ 8 := by rw [List.length_take]; have := hwide_le (x % 32); omega
              have h7 : 256 ^ (r.take (hwide (x % 32))).length ≤ 256 ^ 8 := Nat.pow_le_pow_right (by decide) h6
              have h8 : (256 : Nat) ^ 8 = 18446744073709551616 := by decide
              omega
    · by_cases h0 : (hrd (x :: r)).e = 0
      · rw [hrd_m h0]; omega
      · by_cases h1 : 27 < x % 32
        · by_cases h2 : x % 32 = 31 ∧ x / 32 ≠ 0 ∧ x / 32 ≠ 1 ∧ x / 32 ≠ 6
          · rw [hrd_end h2.1 h2.2]; show x / 32 ≤ 7; omega
          · rw [hrd_info h1 h2]; exact Nat.zero_le _
        · by_cases h2 : x % 32 < 24
          · rw [hrd_small h2]; show x / 32 ≤ 7; omega
          · by_cases h3 : r.length < hwide (x % 32)
            · rw [hrd_short (by omega) (by omega) h3]; exact Nat.zero_le _
            · by_cases h4 : x / 32 = 7 ∧ x % 32 = 24 ∧ bnum 0 (r.take (hwide (x % 32))) < 32
              · rw [hrd_low h4.2.1 h3 h4.1 h4.2.2]; exact Nat.zero_le _
              · rw [hrd_long (by omega) (by omega) h3 h4]; show x / 32 ≤ 7; omega
theorem exec_itemAt {o : Oper} {a : Act} {p : Operand} {g : Nat} {h : HR} {vb : Value} {s : ByteArray} {l : Lk} {w : World} (ho : o.op = .load 54 p) (hp : a.eval p = .pointer (some ⟨g, 0, none⟩)) (hg : w.heap[g]? = some (.cells (ics h vb s l) 54 (0, 0))) : (execOp a.eval o).run Tryd.prog w = .ok (.value (.agg (ics h vb s l))) w := by
  have h1 := run_loadVar_row (P := Tryd.prog) w g 54 54 (ics h vb s l) (0, 0) _ hg Tryd.underlying54 rfl infoI
  unfold execOp
  simp only [ho, Sem.run_bind, hp, Instr.loadAt, Instr.sureAddr, Sem.run_pure, Result.andThen, h1]
/-- What look tells. -/
theorem ics_all (h : HR) {vb : Value} (s : ByteArray) (l : Lk) (h1 : vb.oneCell' = true) : (ics h vb s l).all (·.oneCell') = true := by
  rw [Array.all_eq_true']
  intro u hu
  simp only [ics, List.mem_toArray, List.mem_cons, List.not_mem_nil, or_false] at hu
  rcases hu with rfl | rfl | rfl | rfl | rfl | rfl | rfl | rfl | rfl | rfl | rfl <;> first | rfl | exact h1
theorem zi_all : zi.all (·.oneCell') = true := by
  rw [Array.all_eq_true']
  intro u hu
  simp only [zi, List.mem_toArray, List.mem_cons, List.not_mem_nil, or_false] at hu
  rcases hu with rfl | rfl | rfl | rfl | rfl | rfl | rfl | rfl | rfl | rfl | rfl <;> rfl
def LookP (w : World) (want : Nat) (b : List Nat) (e : Ending) (w' : World) : Prop := Below w.heap.size w w' ∧ ∃ c, c.size = 11 ∧ c.all (·.oneCell') = true ∧ e = .returned (.tuple #[.agg c, .int .i64 (rlook want b : Nat)]) ∧ (rlook want b = 0 → ∃ vb, c = ics (hrd b) vb (rtext (hrd b) (rbody b) ⟨#[]⟩) (rlink want (hrd b) (rbody b) ⟨0, 0, 0, []⟩) ∧ BSl w' vb (rbody b))
theorem LookP.bad {w w' : World} {want : Nat} {b : List Nat} {k : Nat} (hb : Below w.heap.size w w') (hk : rlook want b = k) (h0 : k ≠ 0) : LookP w want b (.returned (.tuple #[.agg zi, .int .i64 (k : Nat)])) w' :=
  ⟨hb, zi, rfl, zi_all, by rw [hk], fun h => absurd (hk.symm.trans h) h0⟩
theorem LookP.good {w w' : World} {want : Nat} {b : List Nat} {h : HR} {y : List Nat} {s : ByteArray} {l : Lk} {vb : Value} (hb : Below w.heap.size w w') (hk : rlook want b = 0) (hh : hrd b = h) (hy : rbody b = y) (hs : s = rtext h y ⟨#[]⟩) (hl : l = rlink want h y ⟨0, 0, 0, []⟩) (hv : BSl w' vb y) (h1 : vb.oneCell' = true) : LookP w want b (.returned (.tuple #[.agg (ics h vb s l), .int .i64 0])) w' :=
  ⟨hb, ics h vb s l, rfl, ics_all h s l h1, by rw [hk]; rfl, fun _ => ⟨vb, by rw [hh, hy, hs, hl], by rw [hy]; exact hv⟩⟩
theorem bsl_one {w : World} {v : Value} {xs : List Nat} (h : BSl w v xs) : v.oneCell' = true := by
  obtain ⟨⟨a, c, hv, _⟩, _⟩ := h
  rw [hv]
  rfl
set_option maxRecDepth 1000000 in
set_option maxHeartbeats 4000000 in
theorem look8_any (W : World) (hT : Tabs W) (w : World) (hW : Below W.heap.size W w) (v : Value) (b : List Nat) (hb : BSl w v b) (hbl : b.length ≤ 140737488351232) (want : Nat) :
    Calls Tryd.prog 20 #[v, .int .i64 (want : Nat)] w (LookP w want b) := by
  have HBB := hide hb
  have HT := hide hT
  have HWW := hide hW
  have HQ0 : Hid (Lkw w (w.alloc (.cells zi 54))) := ⟨below_alloc4 w _, heap_alloc_new w _⟩
  obtain ⟨⟨a, cap, rfl, hn2, hc⟩, hmax, hby⟩ := hb
  have HN2 := hide hn2
  clear hT hW hc hn2 hmax hby
  unfold zi at HQ0
  go_enter Tryd.func20, Tryd.ntmps20
  go_wp2_with fail
  generalize w.alloc (.cells #[.int .i64 0, .int .i64 0, .int .u64 0, .int .i64 0, .bool false, .slice none 0 0, .string ⟨#[]⟩, .int .i64 0, .int .u64 0, .int .u64 0, .string ⟨#[]⟩] 54) = w0 at *
  refine (read_any w0 _ b (HBB.out.move (keep_below HQ0.out.b))).mono ?_
  rintro e w1 ⟨rfl, hb1⟩
  have HQ1 := hide (HQ0.out.next hb1)
  have HWX : Hid (w.heap.size < w1.heap.size) := blk_lt HQ1.out.r
  clear hb1 HQ0
  have HRK : Hid (rlook want b = if (hrd b).e = 20 then 82 else if (hrd b).e ≠ 0 ∨ (hrd b).i = 31 then 83 else if ((hrd b).m = 2 ∨ (hrd b).m = 3) ∧ b.length - (hrd b).u < (hrd b).n then 82 else if rmay (hrd b) (rbody b) = false ∨ rfit want (hrd b) (rbody b) = false then 83 else 0) := rfl
  have HRY : Hid (rbody b = if (hrd b).m = 2 ∨ (hrd b).m = 3 then (b.drop (hrd b).u).take (hrd b).n else []) := rfl
  have HHN : Hid ((hrd b).n < 18446744073709551616 ∧ (hrd b).m ≤ 7 ∧ ((hrd b).e = 0 → (hrd b).u ≤ b.length)) := hrd_bd b HBB.out.byte
  generalize hh : hrd b = h at *
  have HHH := hide hh
  clear hh
  obtain ⟨hm, hi, hn, hu, hs, he⟩ := h
  simp only at HRK HRY HHN
  have HQ2 := hide (HQ1.out.next (below_alloc4 w1 (.cells #[.int .i64 (hm : Nat), .int .i64 (hi : Nat), .int .u64 (hn : Nat), .int .i64 (hu : Nat), .bool hs] 52)))
  have HG2 : Hid ((w1.alloc (.cells #[.int .i64 (hm : Nat), .int .i64 (hi : Nat), .int .u64 (hn : Nat), .int .i64 (hu : Nat), .bool hs] 52)).heap[w1.heap.size]? = some (.cells #[.int .i64 (hm : Nat), .int .i64 (hi : Nat), .int .u64 (hn : Nat), .int .i64 (hu : Nat), .bool hs] 52 (0, 0))) := heap_alloc_new w1 _
  have HI1 : Hid ((Tryd.prog.info? 54).map (·.size) = some zi.size) := infoI
  have HA1 : Hid (zi.all (·.oneCell') = true) := zi_all
  simp only [HR.val]
  clear HQ1
  by_cases h20 : he = 20
  · as_aux_lemma =>
    have g1 : ((he : Int) == 20) = true := beq_iff_eq.2 (by omega)
    have HK : Hid (rlook want b = 82) := by show _ = _; rw [HRK.out, if_pos h20]
    have HR2 := hide HQ2.out.r
    clear h20 HRK HRY
    go_wp2_with (refine wpList_storeRow rfl rfl w.heap.size zi zi 54 rfl rfl HR2.out HI1.out rfl HA1.out ?_)
    exact bodyPost_ret (end_look rfl (row_same HR2.out) rfl rfl) rfl (LookP.bad (HQ2.out.b.trans ((row_kp _ _ _).below HQ2.out.b.size (fun q e => by omega))) HK.out (by decide))
  have g1 : ((he : Int) == 20) = false := beq_eq_false_iff_ne.2 (by omega)
  by_cases h0 : he = 0
  case neg => as_aux_lemma =>
    have g2 : ((he : Int) != 0) = true := by rw [bne_iff_ne]; omega
    have HK : Hid (rlook want b = 83) := by show _ = _; rw [HRK.out, if_neg h20, if_pos (.inl h0)]
    have HR2 := hide HQ2.out.r
    clear h20 h0 HRK HRY
    go_wp2_with (refine wpList_storeRow rfl rfl w.heap.size zi zi 54 rfl rfl HR2.out HI1.out rfl HA1.out ?_)
    exact bodyPost_ret (end_look rfl (row_same HR2.out) rfl rfl) rfl (LookP.bad (HQ2.out.b.trans ((row_kp _ _ _).below HQ2.out.b.size (fun q e => by omega))) HK.out (by decide))
  have g2 : ((he : Int) != 0) = false := by rw [bne_eq_false_iff_eq]; omega
  by_cases h31 : hi = 31
  · as_aux_lemma =>
    have g3 : ((hi : Int) == 31) = true := beq_iff_eq.2 (by omega)
    have HK : Hid (rlook want b = 83) := by show _ = _; rw [HRK.out, if_neg h20, if_pos (.inr h31)]
    have HR2 := hide HQ2.out.r
    clear h20 h0 h31 HRK HRY
    go_wp2_with (refine wpList_storeRow rfl rfl w.heap.size zi zi 54 rfl rfl HR2.out HI1.out rfl HA1.out ?_)
    exact bodyPost_ret (end_look rfl (row_same HR2.out) rfl rfl) rfl (LookP.bad (HQ2.out.b.trans ((row_kp _ _ _).below HQ2.out.b.size (fun q e => by omega))) HK.out (by decide))
  have g3 : ((hi : Int) == 31) = false := beq_eq_false_iff_ne.2 (by omega)
  have HRK2 : Hid (rlook want b = if (hm = 2 ∨ hm = 3) ∧ b.length - hu < hn then 82 else if rmay ⟨hm, hi, hn, hu, hs, he⟩ (rbody b) = false ∨ rfit want ⟨hm, hi, hn, hu, hs, he⟩ (rbody b) = false then 83 else 0) := by
    show _ = _
    rw [HRK.out, if_neg h20, if_neg (by omega)]
  have HUB : Hid (hu ≤ b.length) := HHN.out.2.2 h0
  clear HRK h20 h31 h0
  have HG3 : Hid (((w1.alloc (.cells #[.int .i64 (hm : Nat), .int .i64 (hi : Nat), .int .u64 (hn : Nat), .int .i64 (hu : Nat), .bool hs] 52)).alloc (.cells #[.int .i64 (hm : Nat), .int .i64 (hi : Nat), .int .u64 (hn : Nat), .int .i64 (hu : Nat), .bool hs, .slice none 0 0, .string ⟨#[]⟩, .int .i64 0, .int .u64 0, .int .u64 0, .string ⟨#[]⟩] 54)).heap[w1.heap.size + 1]? = some (.cells (ics ⟨hm, hi, hn, hu, hs, he⟩ (.slice none 0 0) ⟨#[]⟩ ⟨0, 0, 0, []⟩) 54 (0, 0))) := by
    have h := heap_alloc_new (w1.alloc (.cells #[.int .i64 (hm : Nat), .int .i64 (hi : Nat), .int .u64 (hn : Nat), .int .i64 (hu : Nat), .bool hs] 52)) (.cells #[.int .i64 (hm : Nat), .int .i64 (hi : Nat), .int .u64 (hn : Nat), .int .i64 (hu : Nat), .bool hs, .slice none 0 0, .string ⟨#[]⟩, .int .i64 0, .int .u64 0, .int .u64 0, .string ⟨#[]⟩] 54)
    have e : (w1.alloc (.cells #[.int .i64 (hm : Nat), .int .i64 (hi : Nat), .int .u64 (hn : Nat), .int .i64 (hu : Nat), .bool hs] 52)).heap.size = w1.heap.size + 1 := by simp
    rw [e] at h
    exact h
  have HQ3 := hide (HQ2.out.next (below_alloc4 _ (.cells #[.int .i64 (hm : Nat), .int .i64 (hi : Nat), .int .u64 (hn : Nat), .int .i64 (hu : Nat), .bool hs, .slice none 0 0, .string ⟨#[]⟩, .int .i64 0, .int .u64 0, .int .u64 0, .string ⟨#[]⟩] 54)))
  have HGH := hide (blk_alloc (.cells #[.int .i64 (hm : Nat), .int .i64 (hi : Nat), .int .u64 (hn : Nat), .int .i64 (hu : Nat), .bool hs, .slice none 0 0, .string ⟨#[]⟩, .int .i64 0, .int .u64 0, .int .u64 0, .string ⟨#[]⟩] 54) HG2.out)
  go_upto_region 7 with fail
  generalize (w1.alloc (.cells #[.int .i64 (hm : Nat), .int .i64 (hi : Nat), .int .u64 (hn : Nat), .int .i64 (hu : Nat), .bool hs] 52)).alloc (.cells #[.int .i64 (hm : Nat), .int .i64 (hi : Nat), .int .u64 (hn : Nat), .int .i64 (hu : Nat), .bool hs, .slice none 0 0, .string ⟨#[]⟩, .int .i64 0, .int .u64 0, .int .u64 0, .string ⟨#[]⟩] 54) = w3 at *
  clear HQ2 HG2
  have d0 : w3.cell? ⟨w1.heap.size, 0, none⟩ = some (.int .i64 (hm : Nat)) := blk_cell HGH.out rfl
  by_cases hs2 : hm = 2 ∨ hm = 3
  · as_aux_lemma =>
    have HDR := hide (bsl_drop8 (k := hu) HBB.out HUB.out)
    obtain ⟨a2, n2, c2, hd2, hn2, hc2⟩ : ∃ a2 n2 c2, dropS a b.length cap hu = .slice a2 n2 c2 ∧ n2 = b.length - hu ∧ n2 ≤ c2 := by
      obtain ⟨⟨a2, c2, h1, h2, _⟩, _⟩ := HDR.out
      rw [List.length_drop] at h1 h2
      exact ⟨a2, _, c2, h1, rfl, h2.1⟩
    have HD2 := hide hd2
    rw [hd2] at HDR
    have HC2 := hide hc2
    have d2 : w3.cell? ⟨w1.heap.size, 2, none⟩ = some (.int .u64 (hn : Nat)) := blk_cell HGH.out rfl
    have d3 : w3.cell? ⟨w1.heap.size, 3, none⟩ = some (.int .i64 (hu : Nat)) := blk_cell HGH.out rfl
    have HS2 := hide hs2
    go_cut [35] from 28 to 35 (fun bb wx => bb = .bool true ∧ wx = w3)
    case first => as_aux_lemma =>
      by_cases hm2 : hm = 2
      · as_aux_lemma =>
        have g4 : ((hm : Int) == 2) = true := beq_iff_eq.2 (by omega)
        go_wp2_with fail
        go_meet
        case rel => exact ⟨rfl, rfl⟩
      · as_aux_lemma =>
        have g4 : ((hm : Int) == 2) = false := beq_eq_false_iff_ne.2 (by omega)
        have g5 : ((hm : Int) == 3) = true := beq_iff_eq.2 (by have := HS2.out; omega)
        go_wp2_with fail
        go_meet
        case rel => exact ⟨rfl, rfl⟩
    obtain ⟨rfl, hwc⟩ := hcut
    have hwc2 := hwc.symm
    subst hwc2
    have gw : IntKind.u64.wrap (n2 : Int) = (n2 : Int) := by rw [IntKind.wrap_u64]; omega
    by_cases hlt : n2 < hn
    · as_aux_lemma =>
      have g6 : (n2 : Int) < (hn : Int) := by omega
      have HK : Hid (rlook want b = 82) := by show _ = _; rw [HRK2.out, if_pos ⟨HS2.out, by omega⟩]
      have HR2 := hide HQ3.out.r
      have HEX : Hid (hu ≤ b.length ∧ b.length ≤ cap ∧ (a = none → cap = 0)) := ⟨HUB.out, HN2.out.1, HN2.out.2⟩
      clear hlt HRK2 HRY hs2
      go_wp2_with (first
        | (refine wpList_exec rfl (v := .slice a2 n2 c2) (by rw [← HD2.out]; exact exec_drop (k := hu) rfl rfl rfl HEX.out.1 HEX.out.2.1 HEX.out.2.2) ?_)
        | (refine wpList_storeRow rfl rfl w.heap.size zi zi 54 rfl rfl HR2.out HI1.out rfl HA1.out ?_))
      exact bodyPost_ret (end_look rfl (row_same HR2.out) rfl rfl) rfl (LookP.bad (HQ3.out.b.trans ((row_kp _ _ _).below HQ3.out.b.size (fun q e => by omega))) HK.out (by decide))
    have g6 : ¬ (n2 : Int) < (hn : Int) := by omega
    have HRK3 : Hid (rlook want b = if rmay ⟨hm, hi, hn, hu, hs, he⟩ (rbody b) = false ∨ rfit want ⟨hm, hi, hn, hu, hs, he⟩ (rbody b) = false then 83 else 0) := by show _ = _; rw [HRK2.out, if_neg (fun h => hlt (by have := h.2; omega))]
    have HYE : Hid (rbody b = (b.drop hu).take hn) := by show _ = _; rw [HRY.out, if_pos HS2.out]
    have HBV : Hid (BSl w (.slice a2 hn c2) (rbody b)) := by
      rw [HYE.out]
      exact bsl_take8 HDR.out (by rw [List.length_drop]; omega)
    have HYL : Hid ((rbody b).length ≤ 140737488351232) := by
      show _ ≤ _
      rw [HYE.out, List.length_take, List.length_drop]
      omega
    have HEX : Hid (hu ≤ b.length ∧ b.length ≤ cap ∧ (a = none → cap = 0)) := ⟨HUB.out, HN2.out.1, HN2.out.2⟩
    have HEY : Hid (hn ≤ n2 ∧ n2 ≤ c2) := ⟨by omega, HC2.out⟩
    have c5 : w3.cell? ⟨w1.heap.size + 1, 5, none⟩ = some (.slice none 0 0) := blk_cell HG3.out rfl
    have f5 := blk_frozen 5 HG3.out
    have hst := item_set 5 (.slice a2 hn c2) HG3.out
    have HG5 : Hid ((w3.setCell ⟨w1.heap.size + 1, 5, none⟩ (.slice a2 hn c2)).heap[w1.heap.size + 1]? = some (.cells (ics ⟨hm, hi, hn, hu, hs, he⟩ (.slice a2 hn c2) ⟨#[]⟩ ⟨0, 0, 0, []⟩) 54 (0, 0))) := hst.1
    have HQ5 : Hid (Lkw w (w3.setCell ⟨w1.heap.size + 1, 5, none⟩ (.slice a2 hn c2))) := ⟨HQ3.out.b.trans (hst.2.below HQ3.out.b.size (fun q e => by have := HWX.out; omega)), (hst.2.block _ (blk_lt HQ3.out.r) (by have := HWX.out; omega)).trans HQ3.out.r⟩
    clear hst hlt HRK2 HRY HYE hs2 HS2
    go_upto_region 12 with (first
      | (refine wpList_exec rfl (v := .slice a2 n2 c2) (by rw [← HD2.out]; exact exec_drop (k := hu) rfl rfl rfl HEX.out.1 HEX.out.2.1 HEX.out.2.2) ?_)
      | (refine wpList_exec rfl (v := .slice a2 hn c2) (exec_take (k := hn) rfl rfl rfl HEY.out.1 HEY.out.2) ?_))
    generalize w3.setCell ⟨w1.heap.size + 1, 5, none⟩ (.slice a2 hn c2) = w5 at *
    have HQ6b : Hid (W.heap.size ≤ w1.heap.size + 1) := by have := HWW.out.size; have := HWX.out; show _ ≤ _; omega
    go_wp2_with fail
    refine (maybe_any W HT.out w5 (HWW.out.trans (HQ5.out.b.mono HWW.out.size)) (w1.heap.size + 1) HQ6b.out ⟨hm, hi, hn, hu, hs, he⟩ (.slice a2 hn c2) (rbody b) ⟨#[]⟩ ⟨0, 0, 0, []⟩ HG5.out (HBV.out.move (keep_below HQ5.out.b)) HYL.out HHN.out.1).mono ?_
    rintro e w6 ⟨rfl, hg6, hk6⟩
    have HG6 := hide hg6
    have HQ6 : Hid (Lkw w w6) := ⟨HQ5.out.b.trans (hk6.below HQ5.out.b.size (fun q e => by have := HWX.out; omega)), (hk6.block _ (blk_lt HQ5.out.r) (by have := HWX.out; omega)).trans HQ5.out.r⟩
    clear hg6 hk6
    by_cases hmb : rmay ⟨hm, hi, hn, hu, hs, he⟩ (rbody b) = false
    · as_aux_lemma =>
      rw [hmb]
      have HK : Hid (rlook want b = 83) := by show _ = _; rw [HRK3.out, if_pos (.inl hmb)]
      have HR2 := hide HQ6.out.r
      clear hmb HRK3
      go_wp2_with (refine wpList_storeRow rfl rfl w.heap.size zi zi 54 rfl rfl HR2.out HI1.out rfl HA1.out ?_)
      exact bodyPost_ret (end_look rfl (row_same HR2.out) rfl rfl) rfl (LookP.bad (HQ6.out.b.trans ((row_kp _ _ _).below HQ6.out.b.size (fun q e => by omega))) HK.out (by decide))
    have HMB : Hid (rmay ⟨hm, hi, hn, hu, hs, he⟩ (rbody b) = true) := by show _ = _; simpa using hmb
    rw [HMB.out]
    clear hmb
    go_wp2_with fail
    refine (fits8_any w6 (w1.heap.size + 1) want ⟨hm, hi, hn, hu, hs, he⟩ (.slice a2 hn c2) (rbody b) _ ⟨0, 0, 0, []⟩ HG6.out (HBV.out.move (keep_below HQ6.out.b)) HYL.out).mono ?_
    rintro e w7 ⟨rfl, hg7, hk7⟩
    have HG7 := hide hg7
    have HQ7 : Hid (Lkw w w7) := ⟨HQ6.out.b.trans (hk7.below HQ6.out.b.size (fun q e => by have := HWX.out; omega)), (hk7.block _ (blk_lt HQ6.out.r) (by have := HWX.out; omega)).trans HQ6.out.r⟩
    clear hg7 hk7 HQ6 HG6
    have HR2 := hide HQ7.out.r
    by_cases hft : rfit want ⟨hm, hi, hn, hu, hs, he⟩ (rbody b) = false
    · as_aux_lemma =>
      rw [hft]
      have HK : Hid (rlook want b = 83) := by show _ = _; rw [HRK3.out, if_pos (.inr hft)]
      clear hft HRK3
      go_wp2_with (refine wpList_storeRow rfl rfl w.heap.size zi zi 54 rfl rfl HR2.out HI1.out rfl HA1.out ?_)
      exact bodyPost_ret (end_look rfl (row_same HR2.out) rfl rfl) rfl (LookP.bad (HQ7.out.b.trans ((row_kp _ _ _).below HQ7.out.b.size (fun q e => by omega))) HK.out (by decide))
    have HFT : Hid (rfit want ⟨hm, hi, hn, hu, hs, he⟩ (rbody b) = true) := by show _ = _; simpa using hft
    rw [HFT.out]
    have HK : Hid (rlook want b = 0) := by show _ = _; rw [HRK3.out, if_neg (by rw [HMB.out, HFT.out]; simp)]
    have HV1 := hide (bsl_one HBV.out)
    have HA3 := hide (ics_all (⟨hm, hi, hn, hu, hs, he⟩ : HR) (rtext ⟨hm, hi, hn, hu, hs, he⟩ (rbody b) ⟨#[]⟩) (rlink want ⟨hm, hi, hn, hu, hs, he⟩ (rbody b) ⟨0, 0, 0, []⟩) HV1.out)
    have HI3 : Hid ((Tryd.prog.info? 54).map (·.size) = some (ics ⟨hm, hi, hn, hu, hs, he⟩ (.slice a2 hn c2) (rtext ⟨hm, hi, hn, hu, hs, he⟩ (rbody b) ⟨#[]⟩) (rlink want ⟨hm, hi, hn, hu, hs, he⟩ (rbody b) ⟨0, 0, 0, []⟩)).size) := infoI
    have HZ3 : Hid (zi.size = (ics ⟨hm, hi, hn, hu, hs, he⟩ (.slice a2 hn c2) (rtext ⟨hm, hi, hn, hu, hs, he⟩ (rbody b) ⟨#[]⟩) (rlink want ⟨hm, hi, hn, hu, hs, he⟩ (rbody b) ⟨0, 0, 0, []⟩)).size) := rfl
    clear hft
    go_wp2_with (first
      | (refine wpList_exec rfl (exec_itemAt (g := w1.heap.size + 1) rfl rfl HG7.out) ?_)
      | (refine wpList_storeRow rfl rfl w.heap.size zi (ics ⟨hm, hi, hn, hu, hs, he⟩ (.slice a2 hn c2) (rtext ⟨hm, hi, hn, hu, hs, he⟩ (rbody b) ⟨#[]⟩) (rlink want ⟨hm, hi, hn, hu, hs, he⟩ (rbody b) ⟨0, 0, 0, []⟩)) 54 rfl rfl HR2.out HI3.out HZ3.out HA3.out ?_))
    have hbz : Below w.heap.size w (w7.setRow w.heap.size (ics ⟨hm, hi, hn, hu, hs, he⟩ (.slice a2 hn c2) (rtext ⟨hm, hi, hn, hu, hs, he⟩ (rbody b) ⟨#[]⟩) (rlink want ⟨hm, hi, hn, hu, hs, he⟩ (rbody b) ⟨0, 0, 0, []⟩))) := HQ7.out.b.trans ((row_kp _ _ _).below HQ7.out.b.size (fun q e => by omega))
    exact bodyPost_ret (end_look rfl (row_same HR2.out) rfl rfl) rfl (LookP.good hbz HK.out HHH.out rfl rfl rfl (HBV.out.move (keep_below hbz)) HV1.out)
  · as_aux_lemma =>
    have g4 : ((hm : Int) == 2) = false := beq_eq_false_iff_ne.2 (by omega)
    have g5 : ((hm : Int) == 3) = false := beq_eq_false_iff_ne.2 (by omega)
    have HRK3 : Hid (rlook want b = if rmay ⟨hm, hi, hn, hu, hs, he⟩ (rbody b) = false ∨ rfit want ⟨hm, hi, hn, hu, hs, he⟩ (rbody b) = false then 83 else 0) := by show _ = _; rw [HRK2.out, if_neg (fun h => hs2 h.1)]
    have HYE : Hid (rbody b = []) := by show _ = _; rw [HRY.out, if_neg hs2]
    have HBV : Hid (BSl w (.slice none 0 0) (rbody b)) := by rw [HYE.out]; exact bsl_none w
    have HYL : Hid ((rbody b).length ≤ 140737488351232) := by rw [HYE.out]; exact Nat.zero_le _
    clear HRK2 hs2 HRY HYE
    go_upto_region 12 with fail
    have HQ6b : Hid (W.heap.size ≤ w1.heap.size + 1) := by have := HWW.out.size; have := HWX.out; show _ ≤ _; omega
    go_wp2_with fail
    refine (maybe_any W HT.out w3 (HWW.out.trans (HQ3.out.b.mono HWW.out.size)) (w1.heap.size + 1) HQ6b.out ⟨hm, hi, hn, hu, hs, he⟩ (.slice none 0 0) (rbody b) ⟨#[]⟩ ⟨0, 0, 0, []⟩ HG3.out (HBV.out.move (keep_below HQ3.out.b)) HYL.out HHN.out.1).mono ?_
    rintro e w6 ⟨rfl, hg6, hk6⟩
    have HG6 := hide hg6
    have HQ6 : Hid (Lkw w w6) := ⟨HQ3.out.b.trans (hk6.below HQ3.out.b.size (fun q e => by have := HWX.out; omega)), (hk6.block _ (blk_lt HQ3.out.r) (by have := HWX.out; omega)).trans HQ3.out.r⟩
    clear hg6 hk6
    by_cases hmb : rmay ⟨hm, hi, hn, hu, hs, he⟩ (rbody b) = false
    · as_aux_lemma =>
      rw [hmb]
      have HK : Hid (rlook want b = 83) := by show _ = _; rw [HRK3.out, if_pos (.inl hmb)]
      have HR2 := hide HQ6.out.r
      clear hmb HRK3
      go_wp2_with (refine wpList_storeRow rfl rfl w.heap.size zi zi 54 rfl rfl HR2.out HI1.out rfl HA1.out ?_)
      exact bodyPost_ret (end_look rfl (row_same HR2.out) rfl rfl) rfl (LookP.bad (HQ6.out.b.trans ((row_kp _ _ _).below HQ6.out.b.size (fun q e => by omega))) HK.out (by decide))
    have HMB : Hid (rmay ⟨hm, hi, hn, hu, hs, he⟩ (rbody b) = true) := by show _ = _; simpa using hmb
    rw [HMB.out]
    clear hmb
    go_wp2_with fail
    refine (fits8_any w6 (w1.heap.size + 1) want ⟨hm, hi, hn, hu, hs, he⟩ (.slice none 0 0) (rbody b) _ ⟨0, 0, 0, []⟩ HG6.out (HBV.out.move (keep_below HQ6.out.b)) HYL.out).mono ?_
    rintro e w7 ⟨rfl, hg7, hk7⟩
    have HG7 := hide hg7
    have HQ7 : Hid (Lkw w w7) := ⟨HQ6.out.b.trans (hk7.below HQ6.out.b.size (fun q e => by have := HWX.out; omega)), (hk7.block _ (blk_lt HQ6.out.r) (by have := HWX.out; omega)).trans HQ6.out.r⟩
    clear hg7 hk7 HQ6 HG6
    have HR2 := hide HQ7.out.r
    by_cases hft : rfit want ⟨hm, hi, hn, hu, hs, he⟩ (rbody b) = false
    · as_aux_lemma =>
      rw [hft]
      have HK : Hid (rlook want b = 83) := by show _ = _; rw [HRK3.out, if_pos (.inr hft)]
      clear hft HRK3
      go_wp2_with (refine wpList_storeRow rfl rfl w.heap.size zi zi 54 rfl rfl HR2.out HI1.out rfl HA1.out ?_)
      exact bodyPost_ret (end_look rfl (row_same HR2.out) rfl rfl) rfl (LookP.bad (HQ7.out.b.trans ((row_kp _ _ _).below HQ7.out.b.size (fun q e => by omega))) HK.out (by decide))
    have HFT : Hid (rfit want ⟨hm, hi, hn, hu, hs, he⟩ (rbody b) = true) := by show _ = _; simpa using hft
    rw [HFT.out]
    have HK : Hid (rlook want b = 0) := by show _ = _; rw [HRK3.out, if_neg (by rw [HMB.out, HFT.out]; simp)]
    have HV1 := hide (bsl_one HBV.out)
    have HA3 := hide (ics_all (⟨hm, hi, hn, hu, hs, he⟩ : HR) (rtext ⟨hm, hi, hn, hu, hs, he⟩ (rbody b) ⟨#[]⟩) (rlink want ⟨hm, hi, hn, hu, hs, he⟩ (rbody b) ⟨0, 0, 0, []⟩) HV1.out)
    have HI3 : Hid ((Tryd.prog.info? 54).map (·.size) = some (ics ⟨hm, hi, hn, hu, hs, he⟩ (.slice none 0 0) (rtext ⟨hm, hi, hn, hu, hs, he⟩ (rbody b) ⟨#[]⟩) (rlink want ⟨hm, hi, hn, hu, hs, he⟩ (rbody b) ⟨0, 0, 0, []⟩)).size) := infoI
    have HZ3 : Hid (zi.size = (ics ⟨hm, hi, hn, hu, hs, he⟩ (.slice none 0 0) (rtext ⟨hm, hi, hn, hu, hs, he⟩ (rbody b) ⟨#[]⟩) (rlink want ⟨hm, hi, hn, hu, hs, he⟩ (rbody b) ⟨0, 0, 0, []⟩)).size) := rfl
    clear hft
    go_wp2_with (first
      | (refine wpList_exec rfl (exec_itemAt (g := w1.heap.size + 1) rfl rfl HG7.out) ?_)
      | (refine wpList_storeRow rfl rfl w.heap.size zi (ics ⟨hm, hi, hn, hu, hs, he⟩ (.slice none 0 0) (rtext ⟨hm, hi, hn, hu, hs, he⟩ (rbody b) ⟨#[]⟩) (rlink want ⟨hm, hi, hn, hu, hs, he⟩ (rbody b) ⟨0, 0, 0, []⟩)) 54 rfl rfl HR2.out HI3.out HZ3.out HA3.out ?_))
    have hbz : Below w.heap.size w (w7.setRow w.heap.size (ics ⟨hm, hi, hn, hu, hs, he⟩ (.slice none 0 0) (rtext ⟨hm, hi, hn, hu, hs, he⟩ (rbody b) ⟨#[]⟩) (rlink want ⟨hm, hi, hn, hu, hs, he⟩ (rbody b) ⟨0, 0, 0, []⟩))) := HQ7.out.b.trans ((row_kp _ _ _).below HQ7.out.b.size (fun q e => by omega))
    exact bodyPost_ret (end_look rfl (row_same HR2.out) rfl rfl) rfl (LookP.good hbz HK.out HHH.out rfl rfl rfl (HBV.out.move (keep_below hbz)) HV1.out)
end
section
open Go.RowKit Go
section
variable {P : Program} {Q : Exit → Act → World → Prop} {S : World → Prop} {l : List Oper} {fuel : Nat} {listed : Array Bool} {a : Act} {w : World}
/-- A region that draws its order, by hand: begin. -/
theorem heldStart {id : Nat} (hm : P.follows .mixedOrders = true) (h : wpAnyH P .any l.toArray Q S l.length (Array.replicate l.length false) a w.drew) : (Code.region id l.toArray true).wp P Q a w :=
  wp_region_held (S := S) hm (by simpa using h)
/-- Take one first that reads alone. -/
theorem heldTake (i : Nat) {oi : Oper} (v : Value) (hi : l[i]? = some oi) (hs : Region.noSelect l.toArray = true) (hf : Region.free .any l.toArray listed i = true) (hr : (Region.ready .any l.toArray listed).contains i = true)
    (hQ : ∀ c a w, Q (.panic c) (a.put oi.dst v) w → Q (.panic c) a w) (hw : Region.wanted oi (yielded l.toArray a.tmps) = true) (hS : S w) (hy : ∀ w, S w → (execOp a.eval oi).run P w = .ok (.value v) w)
    (h : wpAnyH P .any l.toArray Q S fuel (listed.setIfInBounds i true) (a.put oi.dst v) w) : wpAnyH P .any l.toArray Q S (fuel + 1) listed a w :=
  wpAnyH_take (by simpa using hi) hs hf hr hQ (.inl ⟨hw, hy⟩) hS h
/-- The only one that may come up. -/
theorem heldStep (i : Nat) {oi : Oper} (hi : l[i]? = some oi) (hr : Region.ready .any l.toArray listed = [i])
    (h : ∀ K : Act → World → Prop, Hid (∀ a w, S w → (S w → wpAnyH P .any l.toArray Q S fuel (listed.setIfInBounds i true) a w) → K a w) → if Region.wanted oi (yielded l.toArray a.tmps) = true then Oper.wp P oi a w K Q else K (a.put oi.dst undef) w) : wpAnyH P .any l.toArray Q S (fuel + 1) listed a w :=
  wpAnyH_ready hr (by simp) (AllReadyH.cons (by simpa using hi) (fun K hK => h K hK) AllReadyH.nil)
theorem heldDone (hr : Region.ready .any l.toArray listed = []) (h : Q .normal a w) : wpAnyH P .any l.toArray Q S fuel listed a w := wpAnyH_done hr h fuel
end
end
section
open Go.RowKit Go
theorem exec_valAt {o : Oper} {a : Act} {p : Operand} {g off : Nat} {cs : Array Value} {w : World} (ho : o.op = .load 40 p) (hp : a.eval p = .pointer (some ⟨g, off, none⟩)) (hn : cs.size = 13) (hc : ∀ j u, cs[j]? = some u → w.cell? ⟨g, off + j, none⟩ = some u) : (execOp a.eval o).run Tryd.prog w = .ok (.value (.agg cs)) w := by
  unfold execOp
  have hr := load_val (w := w) g off cs hn hc
  simp only [ho, Sem.run_bind, hp, hr, Result.andThen_ok]
  rfl
theorem wp_storeRow {o : Oper} {a : Act} {K : Act → World → Prop} {Q : Exit → Act → World → Prop} {w : World} {T : TypeId} {p x : Operand} (ho : o.op = .store T p x) (g : Nat) (old cs : Array Value) (t : TypeId)
    (hp : a.eval p = .pointer (some ⟨g, 0, none⟩)) (hx : a.eval x = .agg cs) (hg : w.heap[g]? = some (.cells old t (0, 0))) (hi : (Tryd.prog.info? T).map (·.size) = some cs.size) (hn : old.size = cs.size) (h1 : cs.all (·.oneCell') = true)
    (h : K (a.put o.dst undef) (w.setRow g cs)) : Oper.wp Tryd.prog o a w K Q := by
  unfold Oper.wp execOp
  have hr : (Instr.storeAt T (.pointer (some ⟨g, 0, none⟩)) (.agg cs)).run Tryd.prog w = .ok () (w.setRow g cs) := by
    simp only [Instr.storeAt, Instr.sureAddr, Sem.run_bind, Sem.run_pure, Result.andThen]
    exact run_storeVar_row (P := Tryd.prog) w g t T old cs hg hi hn h1
  simp only [ho, Sem.run_bind, hp, hx, hr, Result.andThen_ok]
  exact h
theorem step_storeRow {ops : Array Oper} {o : Oper} {a : Act} {K : Act → World → Prop} {Q : Exit → Act → World → Prop} {w : World} {T : TypeId} {p x : Operand} (hw : Region.wanted o (yielded ops a.tmps) = true) (ho : o.op = .store T p x) (g : Nat) (old cs : Array Value) (t : TypeId)
    (hp : a.eval p = .pointer (some ⟨g, 0, none⟩)) (hx : a.eval x = .agg cs) (hg : w.heap[g]? = some (.cells old t (0, 0))) (hi : (Tryd.prog.info? T).map (·.size) = some cs.size) (hn : old.size = cs.size) (h1 : cs.all (·.oneCell') = true)
    (h : K (a.put o.dst undef) (w.setRow g cs)) : if Region.wanted o (yielded ops a.tmps) = true then Oper.wp Tryd.prog o a w K Q else K (a.put o.dst undef) w := by
  rw [if_pos hw]
  exact wp_storeRow ho g old cs t hp hx hg hi hn h1 h
end
section
open Go.RowKit Go
theorem own_slice8 {w : World} {B e s n : Nat} {v : Value} {xs : List Value} (h : w.ownsRow B e s v n xs) : ∃ a c, v = .slice a n c := by
  rcases h.2 with ⟨e, h0⟩ | ⟨g, c, cur, e, _⟩
  · exact ⟨none, 0, by rw [e, h0]⟩
  · exact ⟨_, c, e⟩
theorem plain_tis (w : World) (S : Nat → Prop) {t : Tv} (hb : Tbd t) (hy : t.y = []) (hk : t.ks = []) (hi : t.is = []) : Tis w S t (vcs t (.slice none 0 0) (.slice none 0 0) (.slice none 0 0)) :=
  Tis.mk t _ _ _ hb (by rw [hy]; exact bsl_none w) (fun h => absurd hy h) (by rw [hk]; exact ⟨⟨none, 0, rfl, ⟨Nat.le_refl _, fun _ => rfl⟩, .inl rfl⟩, by show (0 : Nat) ≤ _; decide, fun x hx => (by cases hx)⟩) (fun h => absurd hk h) (fun _ => #[]) none 0 (by rw [hi]; rfl) (by rw [hi]; exact ⟨Nat.le_refl _, fun _ => rfl⟩) (by rw [hi]; show (0 : Nat) ≤ _; decide) (fun i u hu => (by rw [hi] at hu; cases hu)) (.inl hi)
theorem end_leaf {wx : World} {R : Nat} {c : Array Value} {tmps : Array Value} (hn : c.size = 13) (hr : wx.heap[R]? = some (.cells c 40 (0, 0))) (hp : tmps.getD 2 undef = .pointer (some ⟨R, 0, none⟩)) : (results Tryd.f14 tmps).run Tryd.prog wx = .ok (.agg c) wx := by
  refine (results_one (p := 2) (ty := 40) rfl _ _ _).trans ?_
  rw [hp]
  have h1 := run_loadVar_row (P := Tryd.prog) wx R 40 40 c (0, 0) _ hr Tryd.underlying40 rfl (by rw [hn]; exact infoV)
  simp [asAddr, h1, Result.andThen]
def LeafP (w : World) (t : Tv) (e : Ending) (w' : World) : Prop := ∃ c, e = .returned (.agg c) ∧ Tis w' (fun q => q < w.heap.size) t c ∧ Below w.heap.size w w'
theorem LeafP.mk {w w' : World} {t t' : Tv} {c : Array Value} (ht : t = t') (h1 : Tis w' (fun q => q < w.heap.size) t' c) (h2 : Below w.heap.size w w') : LeafP w t (.returned (.agg c)) w' := ⟨c, rfl, by rw [ht]; exact h1, h2⟩
theorem leaf_tbd {t : Tv} (h1 : t.n < 18446744073709551616) (h2 : t.b < 18446744073709551616) (h3 : t.s.size ≤ 140737488351232) (h4 : t.y.length ≤ 140737488351232) (h5 : t.l = ⟨0, 0, 0, []⟩) : Tbd t := ⟨h1, h2, h3, h4, by rw [h5]; exact ⟨by decide, by decide, fun x hx => (by cases hx), by decide⟩, by rw [h5]; decide⟩
set_option maxRecDepth 1000000 in
set_option maxHeartbeats 4000000 in
theorem leaf8_any (w : World) (g : Nat) (h : HR) (vb : Value) (y : List Nat) (s : ByteArray) (l : Lk) (hg : w.heap[g]? = some (.cells (ics h vb s l) 54 (0, 0))) (hb : BSl w vb y) (hyl : y.length ≤ 140737488351232) (hn : h.n < 18446744073709551616) (hs : h.m = 3 → s = nstr y) :
    Calls Tryd.prog 14 #[.pointer (some ⟨g, 0, none⟩)] w (LeafP w (rleaf h y)) := by
  have HBB := hide hb
  have HBY := hide hb.byte
  have hlt := blk_lt hg
  have HGL := hide hlt
  have HG0 : Hid ((w.alloc (.cells zv 40)).heap[g]? = some (.cells (ics h vb s l) 54 (0, 0))) := blk_alloc _ hg
  have HR0 : Hid ((w.alloc (.cells zv 40)).heap[w.heap.size]? = some (.cells zv 40 (0, 0))) := heap_alloc_new w _
  have HB0 : Hid (Below w.heap.size w (w.alloc (.cells zv 40))) := below_alloc4 w _
  obtain ⟨⟨a, cap, rfl, _, _⟩, _, _⟩ := hb
  clear hg hlt
  unfold zv at HG0 HR0 HB0
  go_enter Tryd.func14, Tryd.ntmps14
  go_upto_region 1 with fail
  generalize w.alloc (.cells #[.int .i64 0, .bool false, .bool false, .int .u64 0, .int .u64 0, .string ⟨#[]⟩, .slice none 0 0, .int .i64 0, .int .u64 0, .int .u64 0, .string ⟨#[]⟩, .slice none 0 0, .slice none 0 0] 40) = w0 at *
  have HR0 : Hid (w0.heap[w.heap.size]? = some (.cells zv 40 (0, 0))) := HR0
  have c0 : w0.cell? ⟨g, 0, none⟩ = some (.int .i64 (h.m : Nat)) := blk_cell (j := 0) HG0.out rfl
  have c1 : w0.cell? ⟨g, 1, none⟩ = some (.int .i64 (h.i : Nat)) := blk_cell (j := 1) HG0.out rfl
  have c2 : w0.cell? ⟨g, 2, none⟩ = some (.int .u64 (h.n : Nat)) := blk_cell (j := 2) HG0.out rfl
  have c5 : w0.cell? ⟨g, 5, none⟩ = some (.slice a y.length cap) := blk_cell (j := 5) HG0.out rfl
  have c6 : w0.cell? ⟨g, 6, none⟩ = some (.string s) := blk_cell (j := 6) HG0.out rfl
  by_cases hm : h.m = 0
  · as_aux_lemma =>
    have g0 : ((h.m : Int) == 0) = true := beq_iff_eq.2 (by omega)
    have g1 : ((h.m : Int) == 1) = false := beq_eq_false_iff_ne.2 (by omega)
    have HRL : Hid (rleaf h y = (.mk 3 false false h.n 0 ⟨#[]⟩ [] ⟨0, 0, 0, []⟩ [] [])) := by show _ = _; unfold rleaf; rw [if_pos (by omega)]; simp [hm]
    have HI3 : Hid ((Tryd.prog.info? 40).map (·.size) = some (vcs (.mk 3 false false h.n 0 ⟨#[]⟩ [] ⟨0, 0, 0, []⟩ [] []) (.slice none 0 0) (.slice none 0 0) (.slice none 0 0)).size) := infoV
    have HZ3 : Hid (zv.size = (vcs (.mk 3 false false h.n 0 ⟨#[]⟩ [] ⟨0, 0, 0, []⟩ [] []) (.slice none 0 0) (.slice none 0 0) (.slice none 0 0)).size) := rfl
    have HTT : Hid (∀ wz, Tis wz (fun q => q < w.heap.size) (.mk 3 false false h.n 0 ⟨#[]⟩ [] ⟨0, 0, 0, []⟩ [] []) (vcs (.mk 3 false false h.n 0 ⟨#[]⟩ [] ⟨0, 0, 0, []⟩ [] []) (.slice none 0 0) (.slice none 0 0) (.slice none 0 0))) := fun wz => plain_tis wz _ (leaf_tbd hn (by show (0 : Nat) < _; decide) (by show (ByteArray.mk #[]).size ≤ _; decide) (by show (0 : Nat) ≤ _; decide) rfl) rfl rfl rfl
    have HA3 := hide (HTT.out w0).tin.all1
    clear hm
    go_wp2_with fail
    refine heldStart (S := fun wy => wy.heap[g]? = some (.cells (ics h (.slice a y.length cap) s l) 54 (0, 0))) (by kernel_rfl) ?_
    have hS : w0.drew.heap[g]? = some (.cells (ics h (.slice a y.length cap) s l) 54 (0, 0)) := HG0.out
    refine heldTake 0 _ rfl (by kernel_rfl) (by kernel_rfl) (by kernel_rfl) (fun _ _ _ h => h) rfl hS (fun wy hy => by first | (go_simp; done) | (go_simp; rfl) | rfl) ?_
    (try simp only [Act.put]); (try simp only [List.setIfInBounds_toArray, List.set_cons_zero, List.set_cons_succ])
    refine heldTake 1 _ rfl (by kernel_rfl) (by kernel_rfl) (by kernel_rfl) (fun _ _ _ h => h) rfl hS (fun wy hy => by first | (go_simp; done) | (go_simp; rfl) | rfl) ?_
    (try simp only [Act.put]); (try simp only [List.setIfInBounds_toArray, List.set_cons_zero, List.set_cons_succ])
    refine heldTake 2 _ rfl (by kernel_rfl) (by kernel_rfl) (by kernel_rfl) (fun _ _ _ h => h) rfl hS (fun wy hy => by first | (go_simp; done) | (go_simp; rfl) | rfl) ?_
    (try simp only [Act.put]); (try simp only [List.setIfInBounds_toArray, List.set_cons_zero, List.set_cons_succ])
    refine heldTake 3 _ rfl (by kernel_rfl) (by kernel_rfl) (by kernel_rfl) (fun _ _ _ h => h) rfl hS (fun wy hy => by first | (go_simp; done) | (go_simp; rfl) | rfl) ?_
    (try simp only [Act.put]); (try simp only [List.setIfInBounds_toArray, List.set_cons_zero, List.set_cons_succ])
    refine heldTake 4 _ rfl (by kernel_rfl) (by kernel_rfl) (by kernel_rfl) (fun _ _ _ h => h) rfl hS (fun wy hy => by have h0 := blk_cell (j := 0) (v := .int .i64 (h.m : Nat)) hy rfl; first | (go_simp; done) | (go_simp; rfl) | rfl) ?_
    (try simp only [Act.put]); (try simp only [List.setIfInBounds_toArray, List.set_cons_zero, List.set_cons_succ])
    refine heldTake 5 _ rfl (by kernel_rfl) (by kernel_rfl) (by kernel_rfl) (fun _ _ _ h => h) rfl hS (fun wy hy => by first | (go_simp; done) | (go_simp; rfl) | rfl) ?_
    (try simp only [Act.put]); (try simp only [List.setIfInBounds_toArray, List.set_cons_zero, List.set_cons_succ])
    refine heldTake 6 _ rfl (by kernel_rfl) (by kernel_rfl) (by kernel_rfl) (fun _ _ _ h => h) rfl hS (fun wy hy => by first | (go_simp; done) | (go_simp; rfl) | rfl) ?_
    (try simp only [Act.put]); (try simp only [List.setIfInBounds_toArray, List.set_cons_zero, List.set_cons_succ])
    refine heldTake 7 _ rfl (by kernel_rfl) (by kernel_rfl) (by kernel_rfl) (fun _ _ _ h => h) rfl hS (fun wy hy => by first | (go_simp; done) | (go_simp; rfl) | rfl) ?_
    (try simp only [Act.put]); (try simp only [List.setIfInBounds_toArray, List.set_cons_zero, List.set_cons_succ])
    refine heldTake 8 _ rfl (by kernel_rfl) (by kernel_rfl) (by kernel_rfl) (fun _ _ _ h => h) rfl hS (fun wy hy => by first | (go_simp; done) | (go_simp; rfl) | rfl) ?_
    (try simp only [Act.put]); (try simp only [List.setIfInBounds_toArray, List.set_cons_zero, List.set_cons_succ])
    refine heldTake 9 _ rfl (by kernel_rfl) (by kernel_rfl) (by kernel_rfl) (fun _ _ _ h => h) rfl hS (fun wy hy => by first | (go_simp; done) | (go_simp; rfl) | rfl) ?_
    (try simp only [Act.put]); (try simp only [List.setIfInBounds_toArray, List.set_cons_zero, List.set_cons_succ])
    refine heldTake 10 _ rfl (by kernel_rfl) (by kernel_rfl) (by kernel_rfl) (fun _ _ _ h => h) rfl hS (fun wy hy => by have h0 := blk_cell (j := 2) (v := .int .u64 (h.n : Nat)) hy rfl; first | (go_simp; done) | (go_simp; rfl) | rfl) ?_
    (try simp only [Act.put]); (try simp only [List.setIfInBounds_toArray, List.set_cons_zero, List.set_cons_succ])
    refine heldTake 11 _ rfl (by kernel_rfl) (by kernel_rfl) (by kernel_rfl) (fun _ _ _ h => h) rfl hS (fun wy hy => by first | (go_simp; done) | (go_simp; rfl) | rfl) ?_
    (try simp only [Act.put]); (try simp only [List.setIfInBounds_toArray, List.set_cons_zero, List.set_cons_succ])
    refine heldStep 12 rfl (by kernel_rfl) (fun K hK => ?_)
    refine step_storeRow rfl rfl w.heap.size zv (vcs (.mk 3 false false h.n 0 ⟨#[]⟩ [] ⟨0, 0, 0, []⟩ [] []) (.slice none 0 0) (.slice none 0 0) (.slice none 0 0)) 40 rfl rfl HR0.out HI3.out HZ3.out HA3.out ?_
    have hrk := row_kp w0.drew w.heap.size (vcs (.mk 3 false false h.n 0 ⟨#[]⟩ [] ⟨0, 0, 0, []⟩ [] []) (.slice none 0 0) (.slice none 0 0) (.slice none 0 0))
    refine (Hid.out hK) _ _ ((hrk.block _ (blk_lt hS) (by have := HGL.out; omega)).trans hS) (fun hS4 => ?_)
    clear hK K hS
    (try simp only [Act.put]); (try simp only [List.setIfInBounds_toArray, List.set_cons_zero, List.set_cons_succ])
    refine heldDone (by kernel_rfl) ?_
    clear hS4
    go_wp2_with fail
    exact bodyPost_ret (end_leaf rfl (row_same (w := w0.drew) HR0.out) rfl) rfl (LeafP.mk HRL.out (HTT.out _) (HB0.out.drew.trans (hrk.below HB0.out.size (fun q e => by omega))))
  have g0 : ((h.m : Int) == 0) = false := beq_eq_false_iff_ne.2 (by omega)
  by_cases hm1 : h.m = 1
  · as_aux_lemma =>
    have hm := hm1
    clear hm1
    have g1 : ((h.m : Int) == 1) = true := beq_iff_eq.2 (by omega)
    have HRL : Hid (rleaf h y = (.mk 3 false true h.n 0 ⟨#[]⟩ [] ⟨0, 0, 0, []⟩ [] [])) := by show _ = _; unfold rleaf; rw [if_pos (by omega)]; simp [hm]
    have HI3 : Hid ((Tryd.prog.info? 40).map (·.size) = some (vcs (.mk 3 false true h.n 0 ⟨#[]⟩ [] ⟨0, 0, 0, []⟩ [] []) (.slice none 0 0) (.slice none 0 0) (.slice none 0 0)).size) := infoV
    have HZ3 : Hid (zv.size = (vcs (.mk 3 false true h.n 0 ⟨#[]⟩ [] ⟨0, 0, 0, []⟩ [] []) (.slice none 0 0) (.slice none 0 0) (.slice none 0 0)).size) := rfl
    have HTT : Hid (∀ wz, Tis wz (fun q => q < w.heap.size) (.mk 3 false true h.n 0 ⟨#[]⟩ [] ⟨0, 0, 0, []⟩ [] []) (vcs (.mk 3 false true h.n 0 ⟨#[]⟩ [] ⟨0, 0, 0, []⟩ [] []) (.slice none 0 0) (.slice none 0 0) (.slice none 0 0))) := fun wz => plain_tis wz _ (leaf_tbd hn (by show (0 : Nat) < _; decide) (by show (ByteArray.mk #[]).size ≤ _; decide) (by show (0 : Nat) ≤ _; decide) rfl) rfl rfl rfl
    have HA3 := hide (HTT.out w0).tin.all1
    clear hm
    go_wp2_with fail
    refine heldStart (S := fun wy => wy.heap[g]? = some (.cells (ics h (.slice a y.length cap) s l) 54 (0, 0))) (by kernel_rfl) ?_
    have hS : w0.drew.heap[g]? = some (.cells (ics h (.slice a y.length cap) s l) 54 (0, 0)) := HG0.out
    refine heldTake 0 _ rfl (by kernel_rfl) (by kernel_rfl) (by kernel_rfl) (fun _ _ _ h => h) rfl hS (fun wy hy => by first | (go_simp; done) | (go_simp; rfl) | rfl) ?_
    (try simp only [Act.put]); (try simp only [List.setIfInBounds_toArray, List.set_cons_zero, List.set_cons_succ])
    refine heldTake 1 _ rfl (by kernel_rfl) (by kernel_rfl) (by kernel_rfl) (fun _ _ _ h => h) rfl hS (fun wy hy => by first | (go_simp; done) | (go_simp; rfl) | rfl) ?_
    (try simp only [Act.put]); (try simp only [List.setIfInBounds_toArray, List.set_cons_zero, List.set_cons_succ])
    refine heldTake 2 _ rfl (by kernel_rfl) (by kernel_rfl) (by kernel_rfl) (fun _ _ _ h => h) rfl hS (fun wy hy => by first | (go_simp; done) | (go_simp; rfl) | rfl) ?_
    (try simp only [Act.put]); (try simp only [List.setIfInBounds_toArray, List.set_cons_zero, List.set_cons_succ])
    refine heldTake 3 _ rfl (by kernel_rfl) (by kernel_rfl) (by kernel_rfl) (fun _ _ _ h => h) rfl hS (fun wy hy => by first | (go_simp; done) | (go_simp; rfl) | rfl) ?_
    (try simp only [Act.put]); (try simp only [List.setIfInBounds_toArray, List.set_cons_zero, List.set_cons_succ])
    refine heldTake 4 _ rfl (by kernel_rfl) (by kernel_rfl) (by kernel_rfl) (fun _ _ _ h => h) rfl hS (fun wy hy => by have h0 := blk_cell (j := 0) (v := .int .i64 (h.m : Nat)) hy rfl; first | (go_simp; done) | (go_simp; rfl) | rfl) ?_
    (try simp only [Act.put]); (try simp only [List.setIfInBounds_toArray, List.set_cons_zero, List.set_cons_succ])
    refine heldTake 5 _ rfl (by kernel_rfl) (by kernel_rfl) (by kernel_rfl) (fun _ _ _ h => h) rfl hS (fun wy hy => by first | (go_simp; done) | (go_simp; rfl) | rfl) ?_
    (try simp only [Act.put]); (try simp only [List.setIfInBounds_toArray, List.set_cons_zero, List.set_cons_succ])
    refine heldTake 6 _ rfl (by kernel_rfl) (by kernel_rfl) (by kernel_rfl) (fun _ _ _ h => h) rfl hS (fun wy hy => by first | (go_simp; done) | (go_simp; rfl) | rfl) ?_
    (try simp only [Act.put]); (try simp only [List.setIfInBounds_toArray, List.set_cons_zero, List.set_cons_succ])
    refine heldTake 7 _ rfl (by kernel_rfl) (by kernel_rfl) (by kernel_rfl) (fun _ _ _ h => h) rfl hS (fun wy hy => by first | (go_simp; done) | (go_simp; rfl) | rfl) ?_
    (try simp only [Act.put]); (try simp only [List.setIfInBounds_toArray, List.set_cons_zero, List.set_cons_succ])
    refine heldTake 8 _ rfl (by kernel_rfl) (by kernel_rfl) (by kernel_rfl) (fun _ _ _ h => h) rfl hS (fun wy hy => by first | (go_simp; done) | (go_simp; rfl) | rfl) ?_
    (try simp only [Act.put]); (try simp only [List.setIfInBounds_toArray, List.set_cons_zero, List.set_cons_succ])
    refine heldTake 9 _ rfl (by kernel_rfl) (by kernel_rfl) (by kernel_rfl) (fun _ _ _ h => h) rfl hS (fun wy hy => by first | (go_simp; done) | (go_simp; rfl) | rfl) ?_
    (try simp only [Act.put]); (try simp only [List.setIfInBounds_toArray, List.set_cons_zero, List.set_cons_succ])
    refine heldTake 10 _ rfl (by kernel_rfl) (by kernel_rfl) (by kernel_rfl) (fun _ _ _ h => h) rfl hS (fun wy hy => by have h0 := blk_cell (j := 2) (v := .int .u64 (h.n : Nat)) hy rfl; first | (go_simp; done) | (go_simp; rfl) | rfl) ?_
    (try simp only [Act.put]); (try simp only [List.setIfInBounds_toArray, List.set_cons_zero, List.set_cons_succ])
    refine heldTake 11 _ rfl (by kernel_rfl) (by kernel_rfl) (by kernel_rfl) (fun _ _ _ h => h) rfl hS (fun wy hy => by first | (go_simp; done) | (go_simp; rfl) | rfl) ?_
    (try simp only [Act.put]); (try simp only [List.setIfInBounds_toArray, List.set_cons_zero, List.set_cons_succ])
    refine heldStep 12 rfl (by kernel_rfl) (fun K hK => ?_)
    refine step_storeRow rfl rfl w.heap.size zv (vcs (.mk 3 false true h.n 0 ⟨#[]⟩ [] ⟨0, 0, 0, []⟩ [] []) (.slice none 0 0) (.slice none 0 0) (.slice none 0 0)) 40 rfl rfl HR0.out HI3.out HZ3.out HA3.out ?_
    have hrk := row_kp w0.drew w.heap.size (vcs (.mk 3 false true h.n 0 ⟨#[]⟩ [] ⟨0, 0, 0, []⟩ [] []) (.slice none 0 0) (.slice none 0 0) (.slice none 0 0))
    refine (Hid.out hK) _ _ ((hrk.block _ (blk_lt hS) (by have := HGL.out; omega)).trans hS) (fun hS4 => ?_)
    clear hK K hS
    (try simp only [Act.put]); (try simp only [List.setIfInBounds_toArray, List.set_cons_zero, List.set_cons_succ])
    refine heldDone (by kernel_rfl) ?_
    clear hS4
    go_wp2_with fail
    exact bodyPost_ret (end_leaf rfl (row_same (w := w0.drew) HR0.out) rfl) rfl (LeafP.mk HRL.out (HTT.out _) (HB0.out.drew.trans (hrk.below HB0.out.size (fun q e => by omega))))
  have g1 : ((h.m : Int) == 1) = false := beq_eq_false_iff_ne.2 (by omega)
  by_cases hm2 : h.m = 2
  · as_aux_lemma =>
    have g2 : ((h.m : Int) == 2) = true := beq_iff_eq.2 (by omega)
    have HRL : Hid (rleaf h y = .mk 6 false false 0 0 ⟨#[]⟩ y ⟨0, 0, 0, []⟩ [] []) := by show _ = _; unfold rleaf; rw [if_neg (by omega), if_pos hm2]
    clear hm hm1 hm2
    go_wp2_with fail
    refine (clone_any w0 _ y (HBB.out.move (keep_below HB0.out)) hyl).mono ?_
    rintro e w1 ⟨v1, rfl, ho1, hb1⟩
    obtain ⟨a1, k1, hv1⟩ := own_slice8 ho1
    subst hv1
    have HR1 : Hid (w1.heap[w.heap.size]? = some (.cells zv 40 (0, 0))) := (hb1.block _ (blk_lt HR0.out)).trans HR0.out
    have HB1 : Hid (Below w.heap.size w w1) := HB0.out.trans (hb1.mono HB0.out.size)
    have hrk := row_kp w1 w.heap.size (vcs (.mk 6 false false 0 0 ⟨#[]⟩ y ⟨0, 0, 0, []⟩ [] []) (.slice a1 y.length k1) (.slice none 0 0) (.slice none 0 0))
    have hws := blk_lt HR0.out
    have HTT : Hid (Tis (w1.setRow w.heap.size (vcs (.mk 6 false false 0 0 ⟨#[]⟩ y ⟨0, 0, 0, []⟩ [] []) (.slice a1 y.length k1) (.slice none 0 0) (.slice none 0 0))) (fun q => q < w.heap.size) (.mk 6 false false 0 0 ⟨#[]⟩ y ⟨0, 0, 0, []⟩ [] []) (vcs (.mk 6 false false 0 0 ⟨#[]⟩ y ⟨0, 0, 0, []⟩ [] []) (.slice a1 y.length k1) (.slice none 0 0) (.slice none 0 0))) :=
      Tis.mk _ _ _ _ (leaf_tbd (by show (0 : Nat) < _; decide) (by show (0 : Nat) < _; decide) (by show (ByteArray.mk #[]).size ≤ _; decide) hyl rfl) (BSl.own (hrk.owns ho1 (fun q hq e => by have := ho1.lt q hq; omega)) HBY.out) (fun _ q hq e => by have := ho1.lt q hq; omega) ⟨⟨none, 0, rfl, ⟨Nat.le_refl _, fun _ => rfl⟩, .inl rfl⟩, by show (0 : Nat) ≤ _; decide, fun x hx => (by cases hx)⟩ (fun h => absurd rfl h) (fun _ => #[]) none 0 rfl ⟨Nat.le_refl _, fun _ => rfl⟩ (by show (0 : Nat) ≤ _; decide) (fun i u hu => (by cases hu)) (.inl rfl)
    have HA3 := hide HTT.out.tin.all1
    have HI3 : Hid ((Tryd.prog.info? 40).map (·.size) = some (vcs (.mk 6 false false 0 0 ⟨#[]⟩ y ⟨0, 0, 0, []⟩ [] []) (.slice a1 y.length k1) (.slice none 0 0) (.slice none 0 0)).size) := infoV
    have HZ3 : Hid (zv.size = (vcs (.mk 6 false false 0 0 ⟨#[]⟩ y ⟨0, 0, 0, []⟩ [] []) (.slice a1 y.length k1) (.slice none 0 0) (.slice none 0 0)).size) := rfl
    clear ho1 hb1 hws
    go_wp2_with (refine wpList_storeRow rfl rfl w.heap.size zv (vcs (.mk 6 false false 0 0 ⟨#[]⟩ y ⟨0, 0, 0, []⟩ [] []) (.slice a1 y.length k1) (.slice none 0 0) (.slice none 0 0)) 40 rfl rfl HR1.out HI3.out HZ3.out HA3.out ?_)
    exact bodyPost_ret (end_leaf rfl (row_same HR1.out) rfl) rfl (LeafP.mk HRL.out HTT.out (HB1.out.trans (hrk.below HB1.out.size (fun q e => by omega))))
  have g2 : ((h.m : Int) == 2) = false := beq_eq_false_iff_ne.2 (by omega)
  by_cases hm3 : h.m = 3
  · as_aux_lemma =>
    have g3 : ((h.m : Int) == 3) = true := beq_iff_eq.2 (by omega)
    have hs3 := hs hm3
    subst hs3
    have HRL : Hid (rleaf h y = .mk 5 false false 0 0 (nstr y) [] ⟨0, 0, 0, []⟩ [] []) := by show _ = _; unfold rleaf; rw [if_neg (by omega), if_neg hm2, if_pos hm3]
    have HI3 : Hid ((Tryd.prog.info? 40).map (·.size) = some (vcs (.mk 5 false false 0 0 (nstr y) [] ⟨0, 0, 0, []⟩ [] []) (.slice none 0 0) (.slice none 0 0) (.slice none 0 0)).size) := infoV
    have HZ3 : Hid (zv.size = (vcs (.mk 5 false false 0 0 (nstr y) [] ⟨0, 0, 0, []⟩ [] []) (.slice none 0 0) (.slice none 0 0) (.slice none 0 0)).size) := rfl
    have HTT : Hid (∀ wz, Tis wz (fun q => q < w.heap.size) (.mk 5 false false 0 0 (nstr y) [] ⟨0, 0, 0, []⟩ [] []) (vcs (.mk 5 false false 0 0 (nstr y) [] ⟨0, 0, 0, []⟩ [] []) (.slice none 0 0) (.slice none 0 0) (.slice none 0 0))) := fun wz => plain_tis wz _ (leaf_tbd (by show (0 : Nat) < _; decide) (by show (0 : Nat) < _; decide) (by show (nstr y).size ≤ _; rw [nstr_size HBY.out]; exact hyl) (by show (0 : Nat) ≤ _; decide) rfl) rfl rfl rfl
    have HA3 := hide (HTT.out w0).tin.all1
    clear hm hm1 hm2 hm3
    go_wp2_with (refine wpList_storeRow rfl rfl w.heap.size zv (vcs (.mk 5 false false 0 0 (nstr y) [] ⟨0, 0, 0, []⟩ [] []) (.slice none 0 0) (.slice none 0 0) (.slice none 0 0)) 40 rfl rfl HR0.out HI3.out HZ3.out HA3.out ?_)
    exact bodyPost_ret (end_leaf rfl (row_same HR0.out) rfl) rfl (LeafP.mk HRL.out (HTT.out _) (HB0.out.trans ((row_kp _ _ _).below HB0.out.size (fun q e => by omega))))
  have g3 : ((h.m : Int) == 3) = false := beq_eq_false_iff_ne.2 (by omega)
  by_cases hi27 : h.i = 27
  · as_aux_lemma =>
    have g4 : ((h.i : Int) == 27) = true := beq_iff_eq.2 (by omega)
    have HRL : Hid (rleaf h y = .mk 4 false false 0 h.n ⟨#[]⟩ [] ⟨0, 0, 0, []⟩ [] []) := by show _ = _; unfold rleaf; rw [if_neg (by omega), if_neg hm2, if_neg hm3, if_pos hi27]
    have HI3 : Hid ((Tryd.prog.info? 40).map (·.size) = some (vcs (.mk 4 false false 0 h.n ⟨#[]⟩ [] ⟨0, 0, 0, []⟩ [] []) (.slice none 0 0) (.slice none 0 0) (.slice none 0 0)).size) := infoV
    have HZ3 : Hid (zv.size = (vcs (.mk 4 false false 0 h.n ⟨#[]⟩ [] ⟨0, 0, 0, []⟩ [] []) (.slice none 0 0) (.slice none 0 0) (.slice none 0 0)).size) := rfl
    have HTT : Hid (∀ wz, Tis wz (fun q => q < w.heap.size) (.mk 4 false false 0 h.n ⟨#[]⟩ [] ⟨0, 0, 0, []⟩ [] []) (vcs (.mk 4 false false 0 h.n ⟨#[]⟩ [] ⟨0, 0, 0, []⟩ [] []) (.slice none 0 0) (.slice none 0 0) (.slice none 0 0))) := fun wz => plain_tis wz _ (leaf_tbd (by show (0 : Nat) < _; decide) hn (by show (ByteArray.mk #[]).size ≤ _; decide) (by show (0 : Nat) ≤ _; decide) rfl) rfl rfl rfl
    have HA3 := hide (HTT.out w0).tin.all1
    clear hm hm1 hm2 hm3 hi27
    go_wp2_with (refine wpList_storeRow rfl rfl w.heap.size zv (vcs (.mk 4 false false 0 h.n ⟨#[]⟩ [] ⟨0, 0, 0, []⟩ [] []) (.slice none 0 0) (.slice none 0 0) (.slice none 0 0)) 40 rfl rfl HR0.out HI3.out HZ3.out HA3.out ?_)
    exact bodyPost_ret (end_leaf rfl (row_same HR0.out) rfl) rfl (LeafP.mk HRL.out (HTT.out _) (HB0.out.trans ((row_kp _ _ _).below HB0.out.size (fun q e => by omega))))
  have g4 : ((h.i : Int) == 27) = false := beq_eq_false_iff_ne.2 (by omega)
  by_cases hi22 : h.i = 22
  · as_aux_lemma =>
    have g5 : ((h.i : Int) == 22) = true := beq_iff_eq.2 (by omega)
    have HRL : Hid (rleaf h y = .mk 1 false false 0 0 ⟨#[]⟩ [] ⟨0, 0, 0, []⟩ [] []) := by show _ = _; unfold rleaf; rw [if_neg (by omega), if_neg hm2, if_neg hm3, if_neg hi27, if_pos hi22]; rfl
    have HI3 : Hid ((Tryd.prog.info? 40).map (·.size) = some (vcs (.mk 1 false false 0 0 ⟨#[]⟩ [] ⟨0, 0, 0, []⟩ [] []) (.slice none 0 0) (.slice none 0 0) (.slice none 0 0)).size) := infoV
    have HZ3 : Hid (zv.size = (vcs (.mk 1 false false 0 0 ⟨#[]⟩ [] ⟨0, 0, 0, []⟩ [] []) (.slice none 0 0) (.slice none 0 0) (.slice none 0 0)).size) := rfl
    have HTT : Hid (∀ wz, Tis wz (fun q => q < w.heap.size) (.mk 1 false false 0 0 ⟨#[]⟩ [] ⟨0, 0, 0, []⟩ [] []) (vcs (.mk 1 false false 0 0 ⟨#[]⟩ [] ⟨0, 0, 0, []⟩ [] []) (.slice none 0 0) (.slice none 0 0) (.slice none 0 0))) := fun wz => plain_tis wz _ (leaf_tbd (by show (0 : Nat) < _; decide) (by show (0 : Nat) < _; decide) (by show (ByteArray.mk #[]).size ≤ _; decide) (by show (0 : Nat) ≤ _; decide) rfl) rfl rfl rfl
    have HA3 := hide (HTT.out w0).tin.all1
    clear hm hm1 hm2 hm3 hi27 hi22
    go_wp2_with (refine wpList_storeRow rfl rfl w.heap.size zv (vcs (.mk 1 false false 0 0 ⟨#[]⟩ [] ⟨0, 0, 0, []⟩ [] []) (.slice none 0 0) (.slice none 0 0) (.slice none 0 0)) 40 rfl rfl HR0.out HI3.out HZ3.out HA3.out ?_)
    exact bodyPost_ret (end_leaf rfl (row_same HR0.out) rfl) rfl (LeafP.mk HRL.out (HTT.out _) (HB0.out.trans ((row_kp _ _ _).below HB0.out.size (fun q e => by omega))))
  · as_aux_lemma =>
    have g5 : ((h.i : Int) == 22) = false := beq_eq_false_iff_ne.2 (by omega)
    have HD1 : Hid (decide (h.i = 21) = ((h.i : Int) == 21)) := by
      show _ = _
      rw [Bool.eq_iff_iff]
      simp
      omega
    have HRL : Hid (rleaf h y = .mk 2 ((h.i : Int) == 21) false 0 0 ⟨#[]⟩ [] ⟨0, 0, 0, []⟩ [] []) := by show _ = _; unfold rleaf; rw [if_neg (by omega), if_neg hm2, if_neg hm3, if_neg hi27, if_neg hi22, HD1.out]
    have HI3 : Hid ((Tryd.prog.info? 40).map (·.size) = some (vcs (.mk 2 ((h.i : Int) == 21) false 0 0 ⟨#[]⟩ [] ⟨0, 0, 0, []⟩ [] []) (.slice none 0 0) (.slice none 0 0) (.slice none 0 0)).size) := infoV
    have HZ3 : Hid (zv.size = (vcs (.mk 2 ((h.i : Int) == 21) false 0 0 ⟨#[]⟩ [] ⟨0, 0, 0, []⟩ [] []) (.slice none 0 0) (.slice none 0 0) (.slice none 0 0)).size) := rfl
    have HTT : Hid (∀ wz, Tis wz (fun q => q < w.heap.size) (.mk 2 ((h.i : Int) == 21) false 0 0 ⟨#[]⟩ [] ⟨0, 0, 0, []⟩ [] []) (vcs (.mk 2 ((h.i : Int) == 21) false 0 0 ⟨#[]⟩ [] ⟨0, 0, 0, []⟩ [] []) (.slice none 0 0) (.slice none 0 0) (.slice none 0 0))) := fun wz => plain_tis wz _ (leaf_tbd (by show (0 : Nat) < _; decide) (by show (0 : Nat) < _; decide) (by show (ByteArray.mk #[]).size ≤ _; decide) (by show (0 : Nat) ≤ _; decide) rfl) rfl rfl rfl
    have HA3 := hide (HTT.out w0).tin.all1
    clear hm hm1 hm2 hm3 hi27 hi22 HD1
    go_wp2_with (refine wpList_storeRow rfl rfl w.heap.size zv (vcs (.mk 2 ((h.i : Int) == 21) false 0 0 ⟨#[]⟩ [] ⟨0, 0, 0, []⟩ [] []) (.slice none 0 0) (.slice none 0 0) (.slice none 0 0)) 40 rfl rfl HR0.out HI3.out HZ3.out HA3.out ?_)
    exact bodyPost_ret (end_leaf rfl (row_same HR0.out) rfl) rfl (LeafP.mk HRL.out (HTT.out _) (HB0.out.trans ((row_kp _ _ _).below HB0.out.size (fun q e => by omega))))
end
section
open Go.RowKit Go
/-! ### The machine in memory -/
structure Mac (w : World) (lo M : Nat) (vB : Value) (b : List Nat) (d p : Nat) (vo : Value) (st : List Nst) (C : List (Array Value)) (K I : Nat → Value) (L : Nat → List (Array Value)) : Prop where
  m : w.heap[M]? = some (.cells #[vB, .int .i64 (p : Nat), .int .i64 (d : Nat), vo] 47 (0, 0))
  b : BSl w vB b
  q : ∀ q, vB.ownBlock = some q → q < lo ∧ q ≠ M
  o : Opn w lo (fun q => q < lo) vo st C K I L
  lm : M < lo
  l : lo ≤ w.heap.size
theorem infoN_ex : ∃ i, Tryd.prog.info? 61 = some i ∧ i.zero = some (.agg (ncs ⟨0, [], [], 0⟩ (.slice none 0 0) (.slice none 0 0))) ∧ i.size = 14 ∧ i.bytes = 168 := by
  have h : (Tryd.prog.info? 61).map (fun i => (i.size, i.bytes)) = some (14, 168) := by kernel_rfl
  have h2 : (Tryd.prog.info? 61).bind (fun i => i.zero) = some (.agg (ncs ⟨0, [], [], 0⟩ (.slice none 0 0) (.slice none 0 0))) := by kernel_rfl
  cases hi : Tryd.prog.info? 61 with
  | none => rw [hi] at h; cases h
  | some i =>
    rw [hi] at h h2
    simp at h h2
    exact ⟨i, rfl, h2, h.1, h.2⟩
set_option maxRecDepth 1000000 in
theorem top_any (w : World) (M g n cap : Nat) (vB vp vd : Value) (hm : w.heap[M]? = some (.cells #[vB, vp, vd, .slice (some ⟨g, 0, none⟩) n cap] 47 (0, 0))) (hn : 0 < n) (hn2 : n ≤ 100000000) :
    Calls Tryd.prog 16 #[.pointer (some ⟨M, 0, none⟩)] w fun e w' => e = .returned (.pointer (some ⟨g, (n - 1) * 14, none⟩)) ∧ Below w.heap.size w w' ∧ w'.heap = w.heap := by
  have HMM := hide hm
  have HW1 : Hid (IntKind.i64.wrap ((n : Int) - 1) = ((n - 1 : Nat) : Int)) := by show _ = _; rw [IntKind.wrap_i64]; omega
  have HL1 : Hid ((((n - 1 : Nat) : Int) < (n : Int)) ∧ (0 : Int) ≤ ((n - 1 : Nat) : Int)) := ⟨by omega, by omega⟩
  clear hm
  go_enter Tryd.func16, Tryd.ntmps16
  go_upto_region 1 with fail
  refine heldStart (S := fun wy => wy.heap[M]? = some (.cells #[vB, vp, vd, .slice (some ⟨g, 0, none⟩) n cap] 47 (0, 0))) (by kernel_rfl) ?_
  have hS : w.drew.heap[M]? = some (.cells #[vB, vp, vd, .slice (some ⟨g, 0, none⟩) n cap] 47 (0, 0)) := HMM.out
  refine heldTake 0 _ rfl (by kernel_rfl) (by kernel_rfl) (by kernel_rfl) (fun _ _ _ h => h) rfl hS (fun wy hy => by first | (go_simp; done) | (go_simp; rfl) | rfl) ?_
  (try simp only [Act.put]); (try simp only [List.setIfInBounds_toArray, List.set_cons_zero, List.set_cons_succ])
  refine heldTake 1 _ rfl (by kernel_rfl) (by kernel_rfl) (by kernel_rfl) (fun _ _ _ h => h) rfl hS (fun wy hy => by first | (go_simp; done) | (go_simp; rfl) | rfl) ?_
  (try simp only [Act.put]); (try simp only [List.setIfInBounds_toArray, List.set_cons_zero, List.set_cons_succ])
  refine heldTake 2 _ rfl (by kernel_rfl) (by kernel_rfl) (by kernel_rfl) (fun _ _ _ h => h) rfl hS (fun wy hy => by first | (go_simp; done) | (go_simp; rfl) | rfl) ?_
  (try simp only [Act.put]); (try simp only [List.setIfInBounds_toArray, List.set_cons_zero, List.set_cons_succ])
  refine heldTake 3 _ rfl (by kernel_rfl) (by kernel_rfl) (by kernel_rfl) (fun _ _ _ h => h) rfl hS (fun wy hy => by have h0 := blk_cell (j := 3) (v := .slice (some ⟨g, 0, none⟩) n cap) hy rfl; first | (go_simp; done) | (go_simp; rfl) | rfl) ?_
  (try simp only [Act.put]); (try simp only [List.setIfInBounds_toArray, List.set_cons_zero, List.set_cons_succ])
  refine heldTake 4 _ rfl (by kernel_rfl) (by kernel_rfl) (by kernel_rfl) (fun _ _ _ h => h) rfl hS (fun wy hy => by first | (go_simp; done) | (go_simp; rfl) | rfl) ?_
  (try simp only [Act.put]); (try simp only [List.setIfInBounds_toArray, List.set_cons_zero, List.set_cons_succ])
  refine heldTake 5 _ rfl (by kernel_rfl) (by kernel_rfl) (by kernel_rfl) (fun _ _ _ h => h) rfl hS (fun wy hy => by first | (go_simp; done) | (go_simp; rfl) | rfl) ?_
  (try simp only [Act.put]); (try simp only [List.setIfInBounds_toArray, List.set_cons_zero, List.set_cons_succ])
  refine heldTake 6 _ rfl (by kernel_rfl) (by kernel_rfl) (by kernel_rfl) (fun _ _ _ h => h) rfl hS (fun wy hy => by first | (go_simp; done) | (go_simp; rfl) | rfl) ?_
  (try simp only [Act.put]); (try simp only [List.setIfInBounds_toArray, List.set_cons_zero, List.set_cons_succ])
  refine heldTake 7 _ rfl (by kernel_rfl) (by kernel_rfl) (by kernel_rfl) (fun _ _ _ h => h) rfl hS (fun wy hy => by have h0 := blk_cell (j := 3) (v := .slice (some ⟨g, 0, none⟩) n cap) hy rfl; first | (go_simp; done) | (go_simp; rfl) | rfl) ?_
  (try simp only [Act.put]); (try simp only [List.setIfInBounds_toArray, List.set_cons_zero, List.set_cons_succ])
  refine heldTake 8 _ rfl (by kernel_rfl) (by kernel_rfl) (by kernel_rfl) (fun _ _ _ h => h) rfl hS (fun wy hy => by first | (go_simp; done) | (go_simp; rfl) | rfl) ?_
  (try simp only [Act.put]); (try simp only [List.setIfInBounds_toArray, List.set_cons_zero, List.set_cons_succ])
  refine heldTake 9 (.int .i64 ((n - 1 : Nat) : Int)) rfl (by kernel_rfl) (by kernel_rfl) (by kernel_rfl) (fun _ _ _ h => h) rfl hS (fun wy hy => by have h0 := HW1.out; first | (go_simp; done) | (go_simp; rw [h0])) ?_
  refine heldTake 10 (.pointer (some ⟨g, (n - 1) * 14, none⟩)) rfl (by kernel_rfl) (by kernel_rfl) (by kernel_rfl) (fun _ _ _ h => h) rfl hS (fun wy hy => by have h0 := HL1.out.1; have h1 := HL1.out.2; first | (go_simp; done) | (go_simp; rfl) | (go_simp; omega)) ?_
  refine heldTake 11 _ rfl (by kernel_rfl) (by kernel_rfl) (by kernel_rfl) (fun _ _ _ h => h) rfl hS (fun wy hy => by first | (go_simp; done) | (go_simp; rfl) | rfl) ?_
  (try simp only [Act.put]); (try simp only [List.setIfInBounds_toArray, List.set_cons_zero, List.set_cons_succ])
  refine heldDone (by kernel_rfl) ?_
  clear hS
  go_wp2_with fail
  go_ret
  exact ⟨rfl, by refine Below.drew ?_; exact Below.refl _ _, rfl⟩
end
end Go.Proofs.YtadilnmkjcmnnaaDoor
