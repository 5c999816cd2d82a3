import Derived.Test.YtadilnmkjcmnnaaGreatDoorJl
import Derived.Test.YtadilnmkjcmnnaaGreatDoorJd
import Derived.Test.YtadilnmkjcmnnaaGreatDoorJu
import Derived.Test.YtadilnmkjcmnnaaGreatDoorJm
import Derived.Test.YtadilnmkjcmnnaaGreatDoorJo
import Derived.BigRegion
import Derived.BigQuiet
namespace Go.Proofs.YtadilnmkjcmnnaaGreatDoor
section
open Go.RowKit Go
theorem vfl_set : ∀ {L : List (Array Value)}, (∀ c ∈ L, c.size = 13) → ∀ (j : Nat) (c' : Array Value), j < L.length → c'.size = 13 → ∀ (X : List Value), (splice (vfl L ++ X) (j * 13) c'.toList).take (L.length * 13) = vfl (L.set j c')
  | [], _, j, _, h, _, _ => by simp at h
  | c :: r, hL, 0, c', _, hc, X => by
    have h1 : c.size = 13 := hL c (List.mem_cons_self ..)
    have e1 : vfl (c :: r) = c.toList ++ vfl r := by simp [vfl]
    have e2 : vfl ((c :: r).set 0 c') = c'.toList ++ vfl r := by simp [vfl]
    have h2 := vfl_len (l := r) (fun d hd => hL d (List.mem_cons_of_mem _ hd))
    rw [e1, e2]
    unfold splice
    have l1 : c.toList.length = 13 := by simpa using h1
    have l2 : c'.toList.length = 13 := by simpa using hc
    rw [Nat.zero_mul, List.take_zero, List.nil_append, Nat.zero_add, l2, List.append_assoc, List.drop_append_of_le_length (by omega), List.drop_of_length_le (by omega), List.nil_append, List.length_cons, List.take_append, l2, List.take_of_length_le (by omega)]
    congr 1
    rw [show (r.length + 1) * 13 - 13 = (vfl r).length by omega, List.take_append_of_le_length (by omega), List.take_length]
  | c :: r, hL, j + 1, c', hj, hc, X => by
    have h1 : c.size = 13 := hL c (List.mem_cons_self ..)
    have ih := vfl_set (L := r) (fun d hd => hL d (List.mem_cons_of_mem _ hd)) j c' (by simpa using hj) hc X
    have e1 : vfl (c :: r) = c.toList ++ vfl r := by simp [vfl]
    have e2 : vfl ((c :: r).set (j + 1) c') = c.toList ++ vfl (r.set j c') := by simp [vfl]
    have l1 : c.toList.length = 13 := by simpa using h1
    have l2 : c'.toList.length = 13 := by simpa using hc
    have h2 := vfl_len (l := r) (fun d hd => hL d (List.mem_cons_of_mem _ hd))
    have hsp : splice (c.toList ++ (vfl r ++ X)) ((j + 1) * 13) c'.toList = c.toList ++ splice (vfl r ++ X) (j * 13) c'.toList := by
      have hk : (j + 1) * 13 = c.toList.length + j * 13 := by omega
      unfold splice
      rw [hk, List.take_length_add_append, Nat.add_assoc, List.drop_length_add_append, List.append_assoc]
    rw [e1, e2, ← ih, List.append_assoc, hsp]
    have hk2 : (c :: r).length * 13 = c.toList.length + r.length * 13 := by rw [List.length_cons]; omega
    rw [hk2, List.take_length_add_append]
/-- One item of a row of values is written over. -/
theorem own_part {w w' : World} {B g n cap : Nat} {L : List (Array Value)} {cur : Array Value} {j : Nat} {c' : Array Value} (h : w.ownsRow B 62 13 (.slice (some ⟨g, 0, none⟩) n cap) n (vfl L)) (hL : L.length = n) (h13 : ∀ c ∈ L, c.size = 13) (hg : w.heap[g]? = some (.cells cur 62 (0, 0))) (hj : j < n) (hc : c'.size = 13)
    (hw : w'.heap[g]? = some (.cells (splice cur.toList (j * 13) c'.toList).toArray 62 (0, 0))) : w'.ownsRow B 62 13 (.slice (some ⟨g, 0, none⟩) n cap) n (vfl (L.set j c')) := by
  rcases h.2 with ⟨hv, _⟩ | ⟨g', cap', cur', hv, hb, hg', h1, h2, h3, h4⟩
  · cases hv
  injection hv with e1 e2 e3
  injection e1 with e1
  injection e1 with e1 _ _
  subst e1
  subst e3
  rw [hg'] at hg
  injection hg with hg
  injection hg with hg _ _
  subst hg
  have l13 := vfl_len h13
  have hlc : cur'.toList.length = cap * 13 := by simpa using h3
  have hcl : c'.toList.length = 13 := by simpa using hc
  have hs13 : ∀ c ∈ L.set j c', c.size = 13 := fun d hd => by
    rcases List.mem_or_eq_of_mem_set hd with e | e
    · exact h13 d e
    · rw [e]; exact hc
  refine ⟨by rw [vfl_len hs13, List.length_set, hL], .inr ⟨g, cap, _, rfl, hb, hw, h1, h2, ?_, ?_⟩⟩
  · rw [List.size_toArray, length_splice _ _ _ (by omega), hlc]
  · have e : cur'.toList = vfl L ++ cur'.toList.drop (n * 13) := by
      conv => lhs; rw [← List.take_append_drop (n * 13) cur'.toList, h4]
    rw [e, List.toList_toArray]
    have := vfl_set h13 j c' (by omega) hc (cur'.toList.drop (n * 13))
    rw [hL] at this
    exact this
end
section
open Go.RowKit Go
theorem vfl_len14 : ∀ {C : List (Array Value)}, (∀ d ∈ C, d.size = 14) → (vfl C).length = C.length * 14
  | [], _ => by simp [vfl]
  | a :: r, h => by
    have h1 := vfl_len14 (C := r) (fun d hd => h d (List.mem_cons_of_mem _ hd))
    have h2 := h a (List.mem_cons_self ..)
    have e : vfl (a :: r) = a.toList ++ vfl r := by simp [vfl]
    rw [e, List.length_append, h1, Array.length_toList, h2, List.length_cons]
    omega
theorem own_setn {w : World} {base e s g n cap j : Nat} {xs : List Value} (x : Value) (h : w.ownsRow base e s (.slice (some ⟨g, 0, none⟩) n cap) n xs) : (w.setCell ⟨g, j, none⟩ x).ownsRow base e s (.slice (some ⟨g, 0, none⟩) n cap) n (xs.set j x) := by
  refine ⟨by rw [List.length_set]; exact h.1, ?_⟩
  rcases h.2 with ⟨hv, _⟩ | ⟨g', cap', cur, hv, hb, hg, h1, h2, h3, h4⟩
  · cases hv
  injection hv with e1 e2 e3
  injection e1 with e1
  injection e1 with e1 _ _
  subst e1
  subst e3
  refine .inr ⟨g, cap, _, rfl, hb, blk_set j x hg, h1, h2, by simpa using h3, ?_⟩
  rw [← h4, Array.toList_setIfInBounds, List.take_set]
/-- A cell of the innermost nest is written. -/
theorem own_topset {w : World} {B e g cap j n : Nat} {C : List (Array Value)} {c : Array Value} (v : Value) (hs : ∀ d ∈ C, d.size = 14) (hn : C.length = n) (h : w.ownsRow B e 14 (.slice (some ⟨g, 0, none⟩) (n + 1) cap) (n + 1) (vfl (C ++ [c]))) : (w.setCell ⟨g, n * 14 + j, none⟩ v).ownsRow B e 14 (.slice (some ⟨g, 0, none⟩) (n + 1) cap) (n + 1) (vfl (C ++ [c.setIfInBounds j v])) := by
  have h1 := own_setn v h (j := n * 14 + j)
  have e1 : vfl (C ++ [c]) = vfl C ++ c.toList := by rw [vfl_app]; simp [vfl]
  have e2 : vfl (C ++ [c.setIfInBounds j v]) = vfl C ++ (c.setIfInBounds j v).toList := by rw [vfl_app]; simp [vfl]
  rw [e1, List.set_append_right _ _ (by rw [vfl_len14 hs, hn]; omega), vfl_len14 hs, hn, show n * 14 + j - n * 14 = j by omega] at h1
  rw [e2, Array.toList_setIfInBounds]
  exact h1
/-- The row of what is open, its innermost one last. -/
theorem Opn.row {w : World} {lo : Nat} {M : Nat → Prop} {v : Value} {q : List Nst} {x : Nst} {C : List (Array Value)} {K I : Nat → Value} {L : Nat → List (Array Value)} (h : Opn w lo M v (q ++ [x]) C K I L) :
    C = C.take q.length ++ [ncs x (K q.length) (I q.length)] ∧ (C.take q.length).length = q.length ∧ (∀ d ∈ C.take q.length, d.size = 14) ∧ ∃ g cap, v = .slice (some ⟨g, 0, none⟩) (q.length + 1) cap ∧ q.length + 1 ≤ cap ∧ lo ≤ g := by
  have hlen : (q ++ [x]).length = q.length + 1 := by simp
  have hcl : C.length = q.length + 1 := by rw [h.n, hlen]
  have hctop : C[q.length]? = some (ncs x (K q.length) (I q.length)) := h.c q.length x (by simp)
  refine ⟨?_, by rw [List.length_take]; omega, fun d hd => ?_, ?_⟩
  · refine List.ext_getElem? fun i => ?_
    by_cases hi : i < q.length
    · rw [List.getElem?_append_left (by rw [List.length_take]; omega), List.getElem?_take_of_lt hi]
    · by_cases hi2 : i = q.length
      · subst hi2
        rw [List.getElem?_append_right (by rw [List.length_take]; omega), List.length_take, Nat.min_eq_left (by omega), Nat.sub_self]
        exact hctop
      · rw [List.getElem?_eq_none (by omega), List.getElem?_eq_none (by rw [List.length_append, List.length_take, List.length_singleton]; omega)]
  · obtain ⟨i, hi⟩ := List.getElem?_of_mem hd
    have hil : i < q.length := by have := (List.getElem?_eq_some_iff.1 hi).1; rw [List.length_take] at this; omega
    rw [List.getElem?_take_of_lt hil] at hi
    have hx : (q ++ [x])[i]? = some q[i] := by rw [List.getElem?_append_left hil]; exact List.getElem?_eq_getElem hil
    rw [h.c i _ hx] at hi
    injection hi with hi
    rw [← hi]
    rfl
  · have ho := h.o
    rw [hlen] at ho
    rcases ho.2 with ⟨_, h0⟩ | ⟨g, cap, cur, hv, hb, _, h1, _⟩
    · omega
    · exact ⟨g, cap, hv, h1, hb⟩
theorem Opn.cell {w : World} {lo g cap : Nat} {M : Nat → Prop} {q : List Nst} {x : Nst} {C : List (Array Value)} {K I : Nat → Value} {L : Nat → List (Array Value)} (h : Opn w lo M (.slice (some ⟨g, 0, none⟩) (q.length + 1) cap) (q ++ [x]) C K I L) : (∀ j u, (ncs x (K q.length) (I q.length))[j]? = some u → w.cell? ⟨g, q.length * 14 + j, none⟩ = some u) ∧ ∃ cur, w.heap[g]? = some (.cells cur 121 (0, 0)) := by
  obtain ⟨hC, hl, hz, _⟩ := h.row
  have ho := h.o
  rw [show (q ++ [x]).length = q.length + 1 by simp] at ho
  constructor
  · intro j u hu
    have hj := (Array.getElem?_eq_some_iff.1 hu).1
    have e : (vfl C)[q.length * 14 + j]? = some u := by
      rw [hC, vfl_app, List.getElem?_append_right (by rw [vfl_len14 hz, hl]; omega), vfl_len14 hz, hl, show q.length * 14 + j - q.length * 14 = j by omega]
      have e3 : vfl [ncs x (K q.length) (I q.length)] = (ncs x (K q.length) (I q.length)).toList := by simp [vfl]
      rw [e3]
      simpa using hu
    have h1 := ho.cells (g := g) rfl (q.length * 14 + j) u e
    rw [addr_add, Nat.zero_add] at h1
    exact h1
  · rcases ho.2 with ⟨hv, _⟩ | ⟨g', cap', cur, hv, _, hg, _⟩
    · cases hv
    · injection hv with e1 _ _
      injection e1 with e1
      injection e1 with e1 _ _
      subst e1
      exact ⟨cur, hg⟩
/-- One key more. -/
theorem Opn.key {w w7 : World} {lo g cap : Nat} {M : Nat → Prop} {q : List Nst} {x : Nst} {C : List (Array Value)} {K I : Nat → Value} {L : Nat → List (Array Value)} (h : Opn w lo M (.slice (some ⟨g, 0, none⟩) (q.length + 1) cap) (q ++ [x]) C K I L) {vk' : Value} {s : ByteArray} (ho7 : w7.ownsRow lo 9 1 vk' (x.ks.length + 1) (sv (x.ks ++ [s]))) (hg7 : w.grownBy w7 (K q.length).ownBlock) (hv7 : vk'.ownBlock = (K q.length).ownBlock ∨ vk'.ownBlock = some w.heap.size) (hs : s.size ≤ 140737488351232) (hl : x.ks.length < 140737488351232) :
    Opn (w7.setCell ⟨g, q.length * 14 + 11, none⟩ vk') lo M (.slice (some ⟨g, 0, none⟩) (q.length + 1) cap) (q ++ [⟨x.k, x.ks ++ [s], x.is, x.n⟩]) (C.set q.length (ncs ⟨x.k, x.ks ++ [s], x.is, x.n⟩ vk' (I q.length))) (fun i => if i = q.length then vk' else K i) (fun i => if i = q.length then I q.length else I i) (fun i => if i = q.length then L q.length else L i) := by
  have hlen : (q ++ [x]).length = q.length + 1 := by simp
  obtain ⟨hC, hCl, hCz, g', cap', hv', _, hlg⟩ := h.row
  have hx := h.e q.length x (by simp)
  have ht : q.length < (q ++ [x]).length := by omega
  have hk7 : Kp (fun p => (K q.length).ownBlock = some p) w w7 := (Kp.refl _ _).grown hg7 (fun _ _ h => h)
  have hkS : Kp (fun p => p = g) w7 (w7.setCell ⟨g, q.length * 14 + 11, none⟩ vk') := (Kp.refl _ w7).setCell _ _ (fun _ => rfl)
  have hgv : (Value.slice (some ⟨g, 0, none⟩) (q.length + 1) cap).ownBlock = some g := rfl
  have hgs : g < w.heap.size := (h.o.lt g hgv).2
  have hset : (q ++ [x]).set q.length ⟨x.k, x.ks ++ [s], x.is, x.n⟩ = q ++ [⟨x.k, x.ks ++ [s], x.is, x.n⟩] := by
    rw [List.set_append_right _ _ (Nat.le_refl _), Nat.sub_self]
    rfl
  have hCs : C.set q.length (ncs ⟨x.k, x.ks ++ [s], x.is, x.n⟩ vk' (I q.length)) = C.take q.length ++ [ncs ⟨x.k, x.ks ++ [s], x.is, x.n⟩ vk' (I q.length)] := by
    conv => lhs; rw [hC]
    rw [List.set_append_right _ _ (by rw [hCl]; exact Nat.le_refl _), hCl, Nat.sub_self]
    rfl
  have hnk : ∀ p, vk'.ownBlock = some p → p ≠ g := fun p hp e => by
    subst e
    rcases hv7 with e1 | e1
    · exact (h.d q.length ht p (.inl (e1 ▸ hp))).2.1 rfl
    · rw [e1] at hp
      injection hp with hp
      omega
  have hrow := h.o
  rw [hlen, hC] at hrow
  have hrow2 := hk7.owns hrow (fun p hp e => (h.d q.length ht p (.inl e)).2.1 hp)
  have hrow3 := own_topset (j := 11) vk' hCz hCl hrow2
  have hupd := h.upd (w' := w7.setCell ⟨g, q.length * 14 + 11, none⟩ vk') ht (x' := ⟨x.k, x.ks ++ [s], x.is, x.n⟩) (vk' := vk') (vi' := I q.length) (L' := L q.length)
    ((hk7.mono (fun p _ e => .inr (.inl e))).trans hkS (fun p _ e => .inl (by rw [e]; rfl))) (by rw [hlen, hCs]; exact hrow3)
    (by have e : (x.ks ++ [s]).length = x.ks.length + 1 := by simp
        show World.ownsRow _ _ _ _ _ (x.ks ++ [s]).length _
        rw [e]
        exact hkS.owns ho7 (fun p hp e => hnk p hp e))
    (by rcases hv7 with e | e
        · exact .inl e
        · exact .inr (fun p hp => by rw [e] at hp; injection hp with hp; omega))
    (hkS.owns (hk7.owns hx.i (fun p hp e => h.dd q.length ht p e hp)) (fun p hp e => (h.d q.length ht p (.inr hp)).2.1 (by rw [e]; rfl))) (.inl rfl)
    (fun p hp e => by
      rcases hv7 with e1 | e1
      · exact h.dd q.length ht p (e1 ▸ hp) e
      · rw [e1] at hp
        injection hp with hp
        have := (hx.i.lt p e).2
        omega)
    (fun z hz => by
      rcases List.mem_append.1 hz with h1 | h1
      · exact hx.kz z h1
      · simp only [List.mem_singleton] at h1
        rw [h1]; exact hs)
    (by show (x.ks ++ [s]).length ≤ _; simp; omega) hx.il hx.n hx.s hx.z hx.t
  rw [hset] at hupd
  exact hupd
/-- One item more. -/
theorem Opn.item {w w7 : World} {lo g cap : Nat} {M : Nat → Prop} {q : List Nst} {x : Nst} {C : List (Array Value)} {K I : Nat → Value} {L : Nat → List (Array Value)} (h : Opn w lo M (.slice (some ⟨g, 0, none⟩) (q.length + 1) cap) (q ++ [x]) C K I L) {vi' : Value} {u : Tv} {c : Array Value} (hc : c.size = 13) (hu : Tis w (Lvs M (.slice (some ⟨g, 0, none⟩) (q.length + 1) cap) (q ++ [x]).length K I) u c)
    (ho7 : w7.ownsRow lo 62 13 vi' (x.is.length + 1) (vfl (L q.length ++ [c]))) (hg7 : Kp (fun p => (I q.length).ownBlock = some p) w w7) (hv7 : vi'.ownBlock = (I q.length).ownBlock ∨ ∀ p, vi'.ownBlock = some p → w.heap.size ≤ p) (hl : x.is.length < 140737488351232) (m : Nat) (hm : m < 18446744073709551616) :
    Opn ((w7.setCell ⟨g, q.length * 14 + 12, none⟩ vi').setCell ⟨g, q.length * 14 + 13, none⟩ (.int .u64 (m : Nat))) lo M (.slice (some ⟨g, 0, none⟩) (q.length + 1) cap) (q ++ [⟨x.k, x.ks, x.is ++ [u], m⟩]) (C.set q.length (ncs ⟨x.k, x.ks, x.is ++ [u], m⟩ (K q.length) vi')) (fun i => if i = q.length then K q.length else K i) (fun i => if i = q.length then vi' else I i) (fun i => if i = q.length then L q.length ++ [c] else L i) := by
  have hlen : (q ++ [x]).length = q.length + 1 := by simp
  obtain ⟨hC, hCl, hCz, g', cap', hv', _, hlg⟩ := h.row
  have hx := h.e q.length x (by simp)
  have ht : q.length < (q ++ [x]).length := by omega
  have hkS : Kp (fun p => p = g) w7 ((w7.setCell ⟨g, q.length * 14 + 12, none⟩ vi').setCell ⟨g, q.length * 14 + 13, none⟩ (.int .u64 (m : Nat))) := ((Kp.refl (fun p => p = g) w7).setCell ⟨g, q.length * 14 + 12, none⟩ vi' (fun _ => rfl)).setCell ⟨g, q.length * 14 + 13, none⟩ (.int .u64 (m : Nat)) (fun _ => rfl)
  have hgv : (Value.slice (some ⟨g, 0, none⟩) (q.length + 1) cap).ownBlock = some g := rfl
  have hgs : g < w.heap.size := (h.o.lt g hgv).2
  have hset : (q ++ [x]).set q.length ⟨x.k, x.ks, x.is ++ [u], m⟩ = q ++ [⟨x.k, x.ks, x.is ++ [u], m⟩] := by
    rw [List.set_append_right _ _ (Nat.le_refl _), Nat.sub_self]
    rfl
  have hCs : C.set q.length (ncs ⟨x.k, x.ks, x.is ++ [u], m⟩ (K q.length) vi') = C.take q.length ++ [ncs ⟨x.k, x.ks, x.is ++ [u], m⟩ (K q.length) vi'] := by
    conv => lhs; rw [hC]
    rw [List.set_append_right _ _ (by rw [hCl]; exact Nat.le_refl _), hCl, Nat.sub_self]
    rfl
  have hnk : ∀ p, vi'.ownBlock = some p → p ≠ g := fun p hp e => by
    subst e
    rcases hv7 with e1 | e1
    · exact (h.d q.length ht p (.inr (e1 ▸ hp))).2.1 rfl
    · have := e1 p hp
      omega
  have hrow := h.o
  rw [hlen, hC] at hrow
  have hrow2 := hg7.owns hrow (fun p hp e => (h.d q.length ht p (.inr e)).2.1 hp)
  have hrow3 := own_topset (j := 13) (.int .u64 (m : Nat)) hCz hCl (own_topset (j := 12) vi' hCz hCl hrow2)
  have hupd := h.upd (w' := (w7.setCell ⟨g, q.length * 14 + 12, none⟩ vi').setCell ⟨g, q.length * 14 + 13, none⟩ (.int .u64 (m : Nat))) ht (x' := ⟨x.k, x.ks, x.is ++ [u], m⟩) (vk' := K q.length) (vi' := vi') (L' := L q.length ++ [c])
    ((hg7.mono (fun p _ e => .inr (.inr e))).trans hkS (fun p _ e => .inl (by rw [e]; rfl))) (by rw [hlen, hCs]; exact hrow3)
    (hkS.owns (hg7.owns hx.k (fun p hp e => h.dd q.length ht p hp e)) (fun p hp e => (h.d q.length ht p (.inl hp)).2.1 (by rw [e]; rfl))) (.inl rfl)
    (by have e : (x.is ++ [u]).length = x.is.length + 1 := by simp
        show World.ownsRow _ _ _ _ _ (x.is ++ [u]).length _
        rw [e]
        exact hkS.owns ho7 (fun p hp e => hnk p hp e))
    hv7
    (fun p hp e => by
      rcases hv7 with e1 | e1
      · exact h.dd q.length ht p hp (e1 ▸ e)
      · have := e1 p e
        have := (hx.k.lt p hp).2
        omega)
    hx.kz hx.kl (by show (x.is ++ [u]).length ≤ _; simp; omega) (by show _ = (x.is ++ [u]).length; simp [hx.n])
    (fun d hd => by
      rcases List.mem_append.1 hd with h1 | h1
      · exact hx.s d h1
      · simp only [List.mem_singleton] at h1
        rw [h1]; exact hc)
    hm
    (fun j t d e1 e2 => by
      have e1' : (x.is ++ [u])[j]? = some t := e1
      by_cases hj : j < x.is.length
      · rw [List.getElem?_append_left hj] at e1'
        rw [List.getElem?_append_left (by rw [hx.n]; exact hj)] at e2
        exact hx.t j t d e1' e2
      · have hj2 := (List.getElem?_eq_some_iff.1 e1').1
        rw [List.length_append, List.length_singleton] at hj2
        have hj3 : j = x.is.length := by omega
        subst hj3
        have et : t = u := by simpa using e1'.symm
        have ed : d = c := by
          rw [← hx.n] at e2
          simpa using e2.symm
        rw [et, ed]
        exact hu)
  rw [hset] at hupd
  exact hupd
end
section
open Go.RowKit Go
theorem add0_8 (g j : Nat) : (⟨g, 0, none⟩ : Addr).add j = ⟨g, j, none⟩ := by rw [addr_add, Nat.zero_add]
theorem append_str8 {ops : Array Oper} {rest : List Oper} {o : Oper} {a : Act} {Q : Exit → Act → World → Prop} {w : World} (hgd : o.guard = none) (s x : Operand)
    (ho : o.op = .call { callee := .builtin .append, args := #[s, x], argTypes := #[60, 60] }) (B : Nat) (v : Value) (n : Nat) (ks : List ByteArray) (hs : a.eval s = v) (hown : w.ownsRow B 9 1 v n (sv ks))
    (g : Nat) (str : ByteArray) (hx : a.eval x = .slice (some ⟨g, 0, none⟩) 1 1) (hg : w.heap[g]? = some (.cells #[.string str] 9 (0, 0))) (hlen : n < 1099511627) (hbase : B ≤ w.heap.size)
    (h : ∀ v' w', w'.ownsRow B 9 1 v' (n + 1) (sv (ks ++ [str])) → w.grownBy w' v.ownBlock → (v'.ownBlock = v.ownBlock ∨ v'.ownBlock = some w.heap.size) → wpList Tryz.prog ops Q rest (a.put o.dst v') w') : wpList Tryz.prog ops Q (o :: rest) a w := by
  obtain ⟨i, hi, hz0, hz1, hz2⟩ := info9_ex
  have e : sv (ks ++ [str]) = sv ks ++ [.string str] := by simp [sv]
  refine wpList_append_own_at w hgd s x 60 ho B 9 i _ 1 16 Tryz.underlying60 hi hz0 hz1 hz2 rfl (by decide) v n (sv ks) hs hown ⟨g, 0, none⟩ 1 1 [.string str] hx rfl (fun j u hu => ?_) (fun u hu => by rw [List.mem_singleton.1 hu]; rfl) (by unfold maxLen; omega) (by omega) hbase fun v' w' h1 h2 _ h4 => h v' w' (by rw [e]; exact h1) h2 h4
  rw [add0_8]
  exact blk_cell hg (by simpa using hu)
theorem wpList_str1 {ops : Array Oper} {rest : List Oper} {o : Oper} {a : Act} {w : World} {Q : Exit → Act → World → Prop} {x0 : Operand} (hg : o.guard = none) (ho : o.op = .buildSlice 60 1 #[(0, x0)]) (s : ByteArray) (h0 : a.eval x0 = .string s)
    (h : wpList Tryz.prog ops Q rest (a.put o.dst (.slice (some ⟨w.heap.size, 0, none⟩) 1 1)) (w.alloc (.cells #[.string s] 9))) : wpList Tryz.prog ops Q (o :: rest) a w := by
  obtain ⟨i, hi, hz, hs, _⟩ := info9_ex
  refine wpList_buildSlice hg 60 9 1 _ ho #[.string s] i _ Tryz.underlying60 hi hz (by rw [hs]; decide) (by rw [hs]; decide) ?_ h
  rw [hs]
  have e : ((#[(0, x0)] : Array (Nat × Operand)).map fun (i, x) => (i, a.eval x)).toList = [(0, .string s)] := by simp [h0]
  rw [e]
  simp [Instr.fill, Value.cells]
  rw [show Array.range 1 = #[0] from rfl]
  simp
set_option maxRecDepth 1000000 in
set_option maxHeartbeats 1000000 in
theorem addkey8_any (w : World) (lo M : Nat) (vB : Value) (b : List Nat) (d p : Nat) (vo : Value) (q : List Nst) (x : Nst) (C : List (Array Value)) (K I : Nat → Value) (L : Nat → List (Array Value)) (h : Mac w lo M vB b d p vo (q ++ [x]) C K I L) (hst : q.length ≤ 100000) (s : ByteArray) (hs : s.size ≤ 140737488351232) (hks : x.ks.length ≤ 10000000) :
    Calls Tryz.prog 84 #[.pointer (some ⟨M, 0, none⟩), .string s] w fun e w' => e = .returned (.tuple #[]) ∧ Kp (fun q => lo ≤ q) w w' ∧ ∃ C' K' I' L', Mac w' lo M vB b d p vo (q ++ [⟨x.k, x.ks ++ [s], x.is, x.n⟩]) C' K' I' L' := by
  have HMC := hide h
  obtain ⟨-, -, -, g, cap, hvo, hcap, hlg⟩ := h.o.row
  subst hvo
  have hks2 := (h.o.e q.length x (by simp)).k
  obtain ⟨ak, ck, hvk⟩ := own_slice8 hks2
  have HVK := hide hvk
  have HSS := hide hs
  clear h hks2 hvk
  go_enter Tryz.func84, Tryz.ntmps84
  go_wp2_with fail
  refine (top_any w M g (q.length + 1) cap vB _ _ HMC.out.m (by omega) (by omega)).mono ?_
  rintro e w1 ⟨rfl, hb1, -⟩
  have HM1 := hide (HMC.out.next hb1)
  have HB1 := hide hb1
  rw [Nat.add_sub_cancel]
  have c11 : w1.cell? ⟨g, q.length * 14 + 11, none⟩ = some (.slice ak x.ks.length ck) := HM1.out.o.cell.1 11 _ (by rw [HVK.out]; rfl)
  have HGA := hide (heap_alloc_new w1 (.cells #[.string s] 9))
  have HMA := hide (HM1.out.next (below_alloc4 w1 (.cells #[.string s] 9)))
  have HKA : Hid ((w1.alloc (.cells #[.string s] 9)).ownsRow lo 9 1 (.slice ak x.ks.length ck) x.ks.length (sv x.ks)) := by
    have h := (HMA.out.o.e q.length x (by simp)).k
    rw [HVK.out] at h
    exact h
  have HLB : Hid (lo ≤ (w1.alloc (.cells #[.string s] 9)).heap.size) := by have h1 := HMA.out.l; have h2 := HMA.out.o.mz M HMA.out.lm; show _ ≤ _; omega
  clear hb1
  go_wp2_with (first
    | (refine wpList_str1 rfl rfl s rfl ?_)
    | (at_builtin; refine append_str8 rfl _ _ rfl lo _ x.ks.length x.ks rfl HKA.out w1.heap.size s rfl HGA.out (by omega) HLB.out ?_))
  intro v7 w7 ho7 hg7 hv7
  obtain ⟨a7, c7, hs7⟩ := own_slice8 ho7
  subst hs7
  have hgb : (K q.length).ownBlock = (Value.slice ak x.ks.length ck).ownBlock := by rw [HVK.out]
  have hk7 : Kp (fun p => (Value.slice ak x.ks.length ck).ownBlock = some p) (w1.alloc (.cells #[.string s] 9)) w7 := (Kp.refl _ _).grown hg7 (fun _ _ h => h)
  have hO7 := HMA.out.o.key ho7 (by rw [hgb]; exact hg7) (by rw [hgb]; simpa using hv7) HSS.out (by omega)
  have hd := HMA.out.o.d q.length (by simp)
  have hm7 : w7.heap[M]? = some (.cells #[vB, .int .i64 (p : Nat), .int .i64 (d : Nat), .slice (some ⟨g, 0, none⟩) (q.length + 1) cap] 94 (0, 0)) := (hk7.block _ (blk_lt HMA.out.m) (fun e => (hd M (.inl (hgb.trans e))).1 HMA.out.lm)).trans HMA.out.m
  obtain ⟨cur, hcur⟩ := HMA.out.o.cell.2
  have hcur7 : w7.heap[g]? = some (.cells cur 121 (0, 0)) := (hk7.block _ (blk_lt hcur) (fun e => (hd g (.inl (hgb.trans e))).2.1 rfl)).trans hcur
  have f7 := blk_frozen (q.length * 14 + 11) hcur7
  have c7' : w7.cell? ⟨g, q.length * 14 + 11, none⟩ = some (.slice ak x.ks.length ck) := hk7.cell (HMA.out.o.cell.1 11 _ (by rw [HVK.out]; rfl)) (fun e => (hd g (.inl (hgb.trans e))).2.1 rfl)
  have hgM : M ≠ g := fun e => HMA.out.o.m M HMA.out.lm (by rw [e]; rfl)
  have hkS : Kp (fun q => q = g) w7 (w7.setCell ⟨g, q.length * 14 + 11, none⟩ (.slice a7 (x.ks.length + 1) c7)) := (Kp.refl _ w7).setCell _ _ (fun _ => rfl)
  have HM8 : Hid (Mac (w7.setCell ⟨g, q.length * 14 + 11, none⟩ (.slice a7 (x.ks.length + 1) c7)) lo M vB b d p (.slice (some ⟨g, 0, none⟩) (q.length + 1) cap) (q ++ [⟨x.k, x.ks ++ [s], x.is, x.n⟩]) _ _ _ _) :=
    ⟨(hkS.block _ (blk_lt hm7) hgM).trans hm7, hkS.bsl (hk7.bsl HMA.out.b (fun p hp e => by have := HMA.out.q p hp; have := (HKA.out.lt p e).1; omega)) (fun p hp e => by have := HMA.out.q p hp; omega), HMA.out.q, hO7, HMA.out.lm, Nat.le_trans (Nat.le_trans HMA.out.l hk7.size) hkS.size⟩
  have HK8 : Hid (Kp (fun q => lo ≤ q) w (w7.setCell ⟨g, q.length * 14 + 11, none⟩ (.slice a7 (x.ks.length + 1) c7))) := (((Kp.of_below (S := fun q => lo ≤ q) HB1.out).trans (Kp.of_below (S := fun q => lo ≤ q) (below_alloc4 w1 (.cells #[.string s] 9))) (fun _ _ h => h)).trans hk7 (fun p _ e => (HKA.out.lt p e).1)).trans hkS (fun p _ e => by omega)
  clear ho7 hg7 hv7 hk7 hO7 hm7 hkS c11 hd hcur hcur7 hgb
  go_wp2_with fail
  go_end0
  exact ⟨rfl, HK8.out, _, _, _, _, HM8.out⟩
set_option maxRecDepth 1000000 in
set_option maxHeartbeats 1000000 in
/-- Does a key stand behind the one ahead of it? -/
theorem rises8_any (w : World) (lo M : Nat) (vB : Value) (b : List Nat) (d p : Nat) (vo : Value) (q : List Nst) (x : Nst) (C : List (Array Value)) (K I : Nat → Value) (L : Nat → List (Array Value)) (h : Mac w lo M vB b d p vo (q ++ [x]) C K I L) (hst : q.length ≤ 100000) (s : ByteArray) (hks : x.ks.length ≤ 10000000) :
    Calls Tryz.prog 123 #[.pointer (some ⟨M, 0, none⟩), .string s] w fun e w' => e = .returned (.bool (rrise x.ks s)) ∧ Below w.heap.size w w' := by
  have HMC := hide h
  obtain ⟨-, -, -, g, cap, hvo, hcap, hlg⟩ := h.o.row
  subst hvo
  have hks2 := (h.o.e q.length x (by simp)).k
  obtain ⟨ak, ck, hvk⟩ := own_slice8 hks2
  have HVK := hide hvk
  clear h hks2 hvk
  go_enter Tryz.func123, Tryz.ntmps123
  go_wp2_with fail
  refine (top_any w M g (q.length + 1) cap vB _ _ HMC.out.m (by omega) (by omega)).mono ?_
  rintro e w1 ⟨rfl, hb1, -⟩
  have HM1 := hide (HMC.out.next hb1)
  have HB1 := hide hb1
  rw [Nat.add_sub_cancel]
  have c11 : w1.cell? ⟨g, q.length * 14 + 11, none⟩ = some (.slice ak x.ks.length ck) := HM1.out.o.cell.1 11 _ (by rw [HVK.out]; rfl)
  clear hb1
  by_cases h0 : x.ks = []
  · as_aux_lemma =>
    have g1 : ((x.ks.length : Int) == 0) = true := by rw [h0]; rfl
    have e1 : rrise x.ks s = true := by unfold rrise; rw [h0]; rfl
    have HE := hide e1
    clear h0 e1
    go_wp2_with fail
    go_ret
    exact ⟨by rw [HE.out]; rfl, HB1.out⟩
  · as_aux_lemma =>
    have hl : 0 < x.ks.length := List.length_pos_iff.2 h0
    have g1 : ((x.ks.length : Int) == 0) = false := beq_eq_false_iff_ne.2 (by omega)
    obtain ⟨z, hz⟩ : ∃ z, x.ks[x.ks.length - 1]? = some z := ⟨x.ks[x.ks.length - 1], List.getElem?_eq_getElem (by omega)⟩
    have e1 : rrise x.ks s = bfr (sl z) (sl s) := by
      unfold rrise
      rw [List.getLast?_eq_getElem?, hz]
    have hkr := (HM1.out.o.e q.length x (by simp)).k
    rw [HVK.out] at hkr
    obtain ⟨gk, hak⟩ : ∃ gk, ak = some ⟨gk, 0, none⟩ := by
      rcases hkr.2 with ⟨e, h1⟩ | ⟨g', c', cur, e, _⟩
      · omega
      · injection e with e1 _ _
        exact ⟨g', e1⟩
    subst hak
    have cz : w1.cell? ⟨gk, x.ks.length - 1, none⟩ = some (.string z) := by
      have := hkr.cells (g := gk) rfl (x.ks.length - 1) (.string z) (sv_get hz)
      rw [addr_add, Nat.zero_add] at this
      exact this
    have w2' : IntKind.i64.wrap ((x.ks.length : Int) - 1) = ((x.ks.length - 1 : Nat) : Int) := by rw [IntKind.wrap_i64]; omega
    have g2 : ((x.ks.length - 1 : Nat) : Int) < (x.ks.length : Int) := by omega
    have HE := hide e1
    clear h0 e1 hkr hz hl
    go_wp2_with fail
    refine (before_any z s w1).mono ?_
    rintro e w2 ⟨rfl, hw2⟩
    have hw3 := hw2.symm
    subst hw3
    go_wp2_with fail
    go_ret
    exact ⟨by rw [HE.out]; rfl, HB1.out⟩
end
section
open Go.RowKit Go
theorem wp_append_at8 {o : Oper} {a : Act} {K : Act → World → Prop} {Q : Exit → Act → World → Prop} {w : World} (s x : Operand) (t : TypeId) (ho : o.op = .call { callee := .builtin .append, args := #[s, x], argTypes := #[t, t] })
    (base : Nat) (e : TypeId) (i : TypeInfo) (z : Value) (size bytes : Nat) (ht : Tryz.prog.underlying t = some (.slice e)) (hi : Tryz.prog.info? e = some i) (hz : i.zero = some z) (hsize : i.size = size) (hby : i.bytes = bytes) (hzs : z.cells.size = size) (hsz : 0 < size)
    (v : Value) (n : Nat) (xs : List Value) (hs : a.eval s = v) (hown : w.ownsRow base e size v n xs) (ad : Addr) (m c : Nat) (news : List Value) (hx : a.eval x = .slice (some ad) m c) (hl : news.length = m * size) (hnews : ∀ j u, news[j]? = some u → w.cell? (ad.add j) = some u) (h1 : ∀ u ∈ news, u.oneCell' = true)
    (h63 : n + m ≤ maxLen) (hbytes : (n + m) * bytes ≤ 140737488355328) (hbase : base ≤ w.heap.size)
    (h : ∀ v' w', w'.ownsRow base e size v' (n + m) (xs ++ news) → w.grownBy w' v.ownBlock → (v'.ownBlock = v.ownBlock ∨ v'.ownBlock = some w.heap.size) → K (a.put o.dst v') w') : Oper.wp Tryz.prog o a w K Q := by
  obtain ⟨v', w', hr, h2, h3, _, h5⟩ := run_append_own_at (P := Tryz.prog) w base t o.type e i z size bytes ht hi hz hsize hby hzs hsz v n xs hown ad m c news hl hnews h1 h63 hbytes hbase
  unfold Oper.wp execOp
  simp only [ho, resolve, invoke, builtin, Sem.run_bind, Sem.run_pure, Result.andThen_ok, List.map_toArray, List.map_cons, List.map_nil, hs, hx, hr]
  exact h v' w' h2 h3 h5
theorem step_append_val8 {ops : Array Oper} {o : Oper} {a : Act} {K : Act → World → Prop} {Q : Exit → Act → World → Prop} {w : World} (hw : Region.wanted o (yielded ops a.tmps) = true) (s x : Operand)
    (ho : o.op = .call { callee := .builtin .append, args := #[s, x], argTypes := #[54, 54] }) (B : Nat) (v : Value) (n : Nat) (ds : List Value) (hs : a.eval s = v) (hown : w.ownsRow B 62 13 v n ds)
    (g : Nat) (c : Array Value) (h13 : one13 c) (hx : a.eval x = .slice (some ⟨g, 0, none⟩) 1 1) (hg : w.heap[g]? = some (.cells c 62 (0, 0))) (hlen : n < 1099511627) (hbase : B ≤ w.heap.size)
    (h : ∀ v' w', w'.ownsRow B 62 13 v' (n + 1) (ds ++ c.toList) → w.grownBy w' v.ownBlock → (v'.ownBlock = v.ownBlock ∨ v'.ownBlock = some w.heap.size) → K (a.put o.dst v') w') : if Region.wanted o (yielded ops a.tmps) = true then Oper.wp Tryz.prog o a w K Q else K (a.put o.dst undef) w := by
  rw [if_pos hw]
  obtain ⟨i, hi, hz0, hz1, hz2⟩ := infoV_ex
  refine wp_append_at8 s x 54 ho B 62 i _ 13 160 Tryz.underlying54 hi hz0 hz1 hz2 rfl (by decide) v n ds hs hown ⟨g, 0, none⟩ 1 1 c.toList hx (by rw [Array.length_toList, h13.1]) (fun j u hu => ?_) h13.2 (by unfold maxLen; omega) (by omega) hbase h
  rw [add0_8]
  exact blk_cell hg (by simpa using hu)
theorem step_val18 {ops : Array Oper} {o : Oper} {a : Act} {K : Act → World → Prop} {Q : Exit → Act → World → Prop} {w : World} (hw : Region.wanted o (yielded ops a.tmps) = true) {x0 : Operand} (ho : o.op = .buildSlice 54 1 #[(0, x0)]) (c : Array Value) (hc : c.size = 13) (h0 : a.eval x0 = .agg c)
    (h : K (a.put o.dst (.slice (some ⟨w.heap.size, 0, none⟩) 1 1)) (w.alloc (.cells c 62))) : if Region.wanted o (yielded ops a.tmps) = true then Oper.wp Tryz.prog o a w K Q else K (a.put o.dst undef) w := by
  rw [if_pos hw]
  obtain ⟨i, hi, hz, hs, _⟩ := infoV_ex
  refine wp_buildSlice 54 62 1 _ ho c i _ Tryz.underlying54 hi hz (by rw [hs]; decide) (by rw [hs]; decide) ?_ h
  rw [hs]
  have e : ((#[(0, x0)] : Array (Nat × Operand)).map fun (i, x) => (i, a.eval x)).toList = [(0, .agg c)] := by simp [h0]
  rw [e]
  exact fill_one c _ hc (by simp)
theorem wp_storePart8 {o : Oper} {a : Act} {K : Act → World → Prop} {Q : Exit → Act → World → Prop} {w : World} {T : TypeId} {p x : Operand} (ho : o.op = .store T p x) (g off : Nat) (cur cs : Array Value) (t : TypeId)
    (hp : a.eval p = .pointer (some ⟨g, off, none⟩)) (hx : a.eval x = .agg cs) (hg : w.heap[g]? = some (.cells cur t (0, 0))) (hi : (Tryz.prog.info? T).map (·.size) = some cs.size) (hf : off + cs.size ≤ cur.size) (h1 : ∀ v ∈ cs.toList, v.oneCell' = true)
    (h : K (a.put o.dst undef) (w.setRow g (splice cur.toList off cs.toList).toArray)) : Oper.wp Tryz.prog o a w K Q := by
  unfold Oper.wp execOp
  have hr := part_store (w := w) (T := T) (t := t) g off cur.toList cs.toList (by simpa using hg) (by simpa using hi) (by simpa using hf) h1
  simp only [Array.toArray_toList] at hr
  simp only [ho, Sem.run_bind, hp, hx, hr, Result.andThen_ok]
  exact h
theorem step_storePart8 {ops : Array Oper} {o : Oper} {a : Act} {K : Act → World → Prop} {Q : Exit → Act → World → Prop} {w : World} {T : TypeId} {p x : Operand} (hw : Region.wanted o (yielded ops a.tmps) = true) (ho : o.op = .store T p x) (g off : Nat) (cur cs : Array Value) (t : TypeId)
    (hp : a.eval p = .pointer (some ⟨g, off, none⟩)) (hx : a.eval x = .agg cs) (hg : w.heap[g]? = some (.cells cur t (0, 0))) (hi : (Tryz.prog.info? T).map (·.size) = some cs.size) (hf : off + cs.size ≤ cur.size) (h1 : ∀ v ∈ cs.toList, v.oneCell' = true)
    (h : K (a.put o.dst undef) (w.setRow g (splice cur.toList off cs.toList).toArray)) : if Region.wanted o (yielded ops a.tmps) = true then Oper.wp Tryz.prog o a w K Q else K (a.put o.dst undef) w := by
  rw [if_pos hw]
  exact wp_storePart8 ho g off cur cs t hp hx hg hi hf h1 h
end
section
open Go.RowKit Go
theorem end_end8 {wx : World} {R : Nat} {c : Array Value} {tmps : Array Value} (hn : c.size = 13) (hr : wx.heap[R]? = some (.cells c 62 (0, 0))) (hp : tmps.getD 2 undef = .pointer (some ⟨R, 0, none⟩)) : (results Tryz.f83 tmps).run Tryz.prog wx = .ok (.agg c) wx := by
  refine (results_one (p := 2) (ty := 62) rfl _ _ _).trans ?_
  rw [hp]
  have h1 := run_loadVar_row (P := Tryz.prog) wx R 62 62 c (0, 0) _ hr Tryz.underlying62 rfl (by rw [hn]; exact infoV)
  simp [asAddr, h1, Result.andThen]
def EndP (w : World) (lo M : Nat) (vB : Value) (b : List Nat) (d p : Nat) (q : List Nst) (x : Nst) (e : Ending) (w' : World) : Prop := Kp (fun r => r = M ∨ lo ≤ r) w w' ∧ ∃ c vo' C' K' I' L', e = .returned (.agg c) ∧ Mac w' lo M vB b d p vo' q C' K' I' L' ∧ Tis w' (Lvs (fun r => r < lo) vo' q.length K' I') x.val c
theorem itm_mk8 (w : World) (c : Array Value) : Below w.heap.size w ((w.alloc (.cells zv 62)).setRow w.heap.size c) ∧ ((w.alloc (.cells zv 62)).setRow w.heap.size c).heap[w.heap.size]? = some (.cells c 62 (0, 0)) :=
  ⟨(below_alloc4 w _).trans ((row_kp _ _ _).below (below_alloc4 w _).size (fun q e => by omega)), row_same (heap_alloc_new w _)⟩
set_option maxRecDepth 1000000 in
set_option maxHeartbeats 4000000 in
theorem end8_any (w : World) (lo M : Nat) (vB : Value) (b : List Nat) (d p : Nat) (vo : Value) (q : List Nst) (x : Nst) (C : List (Array Value)) (K I : Nat → Value) (L : Nat → List (Array Value)) (h : Mac w lo M vB b d p vo (q ++ [x]) C K I L) (hst : q.length ≤ 100000) :
    Calls Tryz.prog 83 #[.pointer (some ⟨M, 0, none⟩)] w (EndP w lo M vB b d p q x) := by
  have HMC := hide h
  obtain ⟨g, cap, hvo, hcap, -, htis⟩ := h.o.pop
  subst hvo
  have HSZ := hide htis.tin.size13
  have HA1 := hide htis.tin.all1
  have HM0 := hide (h.next (below_alloc4 w (.cells zv 62)))
  have HR0 := hide (heap_alloc_new w (.cells zv 62))
  have HB0 := hide (below_alloc4 w (.cells zv 62))
  clear h htis
  unfold zv at HM0 HR0 HB0
  go_enter Tryz.func83, Tryz.ntmps83
  go_wp2_with fail
  generalize w.alloc (.cells #[.int .i64 0, .bool false, .bool false, .int .u64 0, .int .u64 0, .string ⟨#[]⟩, .slice none 0 0, .int .i64 0, .int .u64 0, .int .u64 0, .string ⟨#[]⟩, .slice none 0 0, .slice none 0 0] 62) = w0 at *
  have HR0 : Hid (w0.heap[w.heap.size]? = some (.cells zv 62 (0, 0))) := HR0
  refine (top_any w0 M g (q.length + 1) cap vB _ _ HM0.out.m (by omega) (by omega)).mono ?_
  rintro e w1 ⟨rfl, hb1, -⟩
  have HM1 := hide (HM0.out.next hb1)
  have HB1 : Hid (Below w.heap.size w w1) := HB0.out.trans (hb1.mono HB0.out.size)
  have HR1 : Hid (w1.heap[w.heap.size]? = some (.cells zv 62 (0, 0))) := (hb1.block _ (blk_lt HR0.out)).trans HR0.out
  rw [Nat.add_sub_cancel]
  clear hb1 HM0 HR0 HB0
  generalize hc : vcs x.val (.slice none 0 0) (K q.length) (I q.length) = c at *
  have HCE := hide hc
  have HCC : Hid (∀ j u, c[j]? = some u → w1.cell? ⟨g, q.length * 14 + j, none⟩ = some u) := fun j u hu => HM1.out.o.cell.1 j u (by
    have hj := (Array.getElem?_eq_some_iff.1 hu).1
    rw [← HCE.out] at hu hj
    unfold ncs
    rw [Array.getElem?_push_lt hj]
    rw [Array.getElem?_eq_getElem hj] at hu
    exact hu)
  have HI3 : Hid ((Tryz.prog.info? 62).map (·.size) = some c.size) := by show _ = _; rw [HSZ.out]; exact infoV
  have HZ3 : Hid (zv.size = c.size) := by show _ = _; rw [HSZ.out]; rfl
  have HN1 := hide (heap_alloc_new w1 (.cells zv 62))
  have HM2 := hide (HM1.out.next (itm_mk8 w1 c).1)
  have HV2 := hide (itm_mk8 w1 c).2
  have HB2 : Hid (Below w.heap.size w ((w1.alloc (.cells zv 62)).setRow w1.heap.size c)) := HB1.out.trans ((itm_mk8 w1 c).1.mono HB1.out.size)
  have HR2 : Hid (((w1.alloc (.cells zv 62)).setRow w1.heap.size c).heap[w.heap.size]? = some (.cells zv 62 (0, 0))) := ((itm_mk8 w1 c).1.block _ (blk_lt HR1.out)).trans HR1.out
  have HRL : Hid (w.heap.size < w1.heap.size) := blk_lt HR1.out
  clear hc HM1
  go_upto_region 2 with (first
    | (refine wpList_exec rfl (exec_valAt (g := g) (off := q.length * 14) (cs := c) rfl rfl HSZ.out HCC.out) ?_)
    | (refine wpList_storeRow rfl rfl w1.heap.size zv c 62 rfl rfl HN1.out HI3.out HZ3.out HA1.out ?_))
  unfold zv at HM2 HV2 HB2 HR2
  generalize (w1.alloc (.cells #[.int .i64 0, .bool false, .bool false, .int .u64 0, .int .u64 0, .string ⟨#[]⟩, .slice none 0 0, .int .i64 0, .int .u64 0, .int .u64 0, .string ⟨#[]⟩, .slice none 0 0, .slice none 0 0] 62)).setRow w1.heap.size c = w2 at *
  have HR2 : Hid (w2.heap[w.heap.size]? = some (.cells zv 62 (0, 0))) := HR2
  have c3 : w2.cell? ⟨M, 3, none⟩ = some (.slice (some ⟨g, 0, none⟩) (q.length + 1) cap) := blk_cell (j := 3) HM2.out.m rfl
  have f3 := blk_frozen 3 HM2.out.m
  have e1 : (q.length : Int) ≤ (cap : Int) := by omega
  have e2 : IntKind.i64.wrap (((q.length + 1 : Nat) : Int) - 1) = (q.length : Int) := by rw [IntKind.wrap_i64]; omega
  have e3 : IntKind.i64.wrap ((q.length : Int) + 1 - 1) = (q.length : Int) := by rw [IntKind.wrap_i64]; omega
  have HMZ : Hid (M < w.heap.size) := HMC.out.o.mz M HMC.out.lm
  have hkM : Kp (fun q => q = M) w2 (w2.setCell ⟨M, 3, none⟩ (.slice (some ⟨g, 0, none⟩) q.length cap)).drew := ((Kp.refl (fun q => q = M) w2).setCell ⟨M, 3, none⟩ _ (fun _ => rfl)).drew
  have HMO : Hid ((w2.setCell ⟨M, 3, none⟩ (.slice (some ⟨g, 0, none⟩) q.length cap)).drew.heap[M]? = some (.cells #[vB, .int .i64 (p : Nat), .int .i64 (d : Nat), .slice (some ⟨g, 0, none⟩) q.length cap] 94 (0, 0))) := blk_set 3 _ HM2.out.m
  have HKF : Hid (Kp (fun r => r = M) w (w2.setCell ⟨M, 3, none⟩ (.slice (some ⟨g, 0, none⟩) q.length cap)).drew) := (Kp.of_below HB2.out).trans hkM (fun _ _ h => h)
  have HR3 : Hid ((w2.setCell ⟨M, 3, none⟩ (.slice (some ⟨g, 0, none⟩) q.length cap)).drew.heap[w.heap.size]? = some (.cells zv 62 (0, 0))) := (hkM.block _ (blk_lt HR2.out) (by have := HMZ.out; omega)).trans HR2.out
  have HV3 : Hid ((w2.setCell ⟨M, 3, none⟩ (.slice (some ⟨g, 0, none⟩) q.length cap)).drew.heap[w1.heap.size]? = some (.cells c 62 (0, 0))) := (hkM.block _ (blk_lt HV2.out) (by have := HMZ.out; have := HRL.out; omega)).trans HV2.out
  have HK3 : Hid (Kp (fun r => r = M ∨ lo ≤ r) w (w2.setCell ⟨M, 3, none⟩ (.slice (some ⟨g, 0, none⟩) q.length cap)).drew) := (Kp.of_below HB2.out).trans hkM (fun r _ e => .inl e)
  clear hkM
  (try simp only [Act.put])
  go_region
  clear c3 f3
  generalize (w2.setCell ⟨M, 3, none⟩ (.slice (some ⟨g, 0, none⟩) q.length cap)).drew = w3 at *
  have HVC : Hid (∀ j u, c[j]? = some u → w3.cell? ⟨w1.heap.size, 0 + j, none⟩ = some u) := fun j u hu => by rw [Nat.zero_add]; exact blk_cell HV3.out hu
  go_wp2_with (first
    | (refine wpList_exec rfl (exec_valAt (g := w1.heap.size) (off := 0) (cs := c) rfl rfl HSZ.out HVC.out) ?_)
    | (refine wpList_storeRow rfl rfl w.heap.size zv c 62 rfl rfl HR3.out HI3.out HZ3.out HA1.out ?_))
  have hkr := row_kp w3 w.heap.size c
  have hmz := HMZ.out
  have hkF : Kp (fun r => r = M) w (w3.setRow w.heap.size c) := HKF.out.trans hkr (fun r hr e => by omega)
  have hO : Mac (w3.setRow w.heap.size c) lo M vB b d p (.slice (some ⟨g, 0, none⟩) q.length cap) q (C.take q.length) K I L ∧ Tis (w3.setRow w.heap.size c) (Lvs (fun r => r < lo) (.slice (some ⟨g, 0, none⟩) q.length cap) q.length K I) x.val c := by
    obtain ⟨g', cap', hv, -, ho, ht⟩ := HMC.out.o.pop
    injection hv with h1 _ h3
    injection h1 with h1
    injection h1 with h1 _ _
    subst h1
    subst h3
    refine ⟨⟨(hkr.block _ (blk_lt HMO.out) (by omega)).trans HMO.out, hkF.bsl HMC.out.b (fun r hr e => (HMC.out.q r hr).2 e), HMC.out.q, ho.kp (hkF.mono (fun r _ e => by have := HMC.out.lm; show r < lo; omega)), HMC.out.lm, Nat.le_trans HMC.out.l hkF.size⟩, ?_⟩
    rw [HCE.out] at ht
    exact ht.kp (hkF.mono (fun r _ e => Or.inl (by have := HMC.out.lm; show r < lo; omega)))
  exact bodyPost_ret (end_end8 HSZ.out (row_same HR3.out) rfl) rfl (show EndP _ _ _ _ _ _ _ _ _ _ _ from ⟨HK3.out.trans hkr (fun r hr e => by omega), c, _, _, _, _, _, rfl, hO.1, hO.2⟩)
end
section
open Go.RowKit Go
def nst8 (x : Nat) : Bool := decide (x / 32 = 4 ∨ x / 32 = 5)
set_option maxRecDepth 1000000 in
theorem nests8_any (x : Nat) (hx : x < 256) (w : World) : Calls Tryz.prog 149 #[.int .u8 (x : Nat)] w fun e w' => e = .returned (.bool (nst8 x)) ∧ w' = w := by
  have e2 : IntKind.u8.wrap ((x : Int) / 32) = ((x : Int) / 32) := by rw [IntKind.wrap_u8]; omega
  have e3 : IntKind.i64.wrap ((x : Int) / 32) = ((x : Int) / 32) := by rw [IntKind.wrap_i64]; omega
  by_cases h4 : x / 32 = 4
  · have g1 : (((x : Int) / 32) == 4) = true := beq_iff_eq.2 (by omega)
    have HE : Hid (nst8 x = true) := by show _ = _; unfold nst8; rw [decide_eq_true (.inl h4)]
    clear h4
    go_enter Tryz.func149, Tryz.ntmps149
    go_wp2
    go_ret
    exact ⟨by rw [HE.out]; rfl, rfl⟩
  · have g1 : (((x : Int) / 32) == 4) = false := beq_eq_false_iff_ne.2 (by omega)
    have HE : Hid (nst8 x = (((x : Int) / 32) == 5)) := by
      show _ = _
      unfold nst8
      rw [Bool.eq_iff_iff]
      simp
      omega
    clear h4
    go_enter Tryz.func149, Tryz.ntmps149
    go_wp2
    go_ret
    exact ⟨by rw [HE.out]; rfl, rfl⟩
theorem nests8_no (x : Nat) (hx : x < 256) (h : nst8 x = false) (w : World) : Calls Tryz.prog 149 #[.int .u8 (x : Nat)] w fun e w' => e = .returned (.bool false) ∧ w' = w := by
  have := nests8_any x hx w
  rw [h] at this
  exact this
theorem nests8_yes (x : Nat) (hx : x < 256) (h : nst8 x = true) (w : World) : Calls Tryz.prog 149 #[.int .u8 (x : Nat)] w fun e w' => e = .returned (.bool true) ∧ w' = w := by
  have := nests8_any x hx w
  rw [h] at this
  exact this
set_option maxRecDepth 1000000 in
set_option maxHeartbeats 1000000 in
theorem toodeep8_any (w : World) (M n d : Nat) (vB vp : Value) (ao : Option Addr) (co : Nat) (hm : w.heap[M]? = some (.cells #[vB, vp, .int .i64 (d : Nat), .slice ao n co] 94 (0, 0))) (v : Value) (r : List Nat) (hb : BSl w v r) :
    Calls Tryz.prog 121 #[.pointer (some ⟨M, 0, none⟩), v] w fun e w' => e = .returned (.bool (rnest r && decide (n = d))) ∧ Below w.heap.size w w' := by
  have c2 : w.cell? ⟨M, 2, none⟩ = some (.int .i64 (d : Nat)) := blk_cell (j := 2) hm rfl
  have c3 : w.cell? ⟨M, 3, none⟩ = some (.slice ao n co) := blk_cell (j := 3) hm rfl
  obtain ⟨⟨a, cap, rfl, hn2, hc⟩, hmax, hby⟩ := hb
  clear hm
  by_cases hr : r = []
  · as_aux_lemma =>
    have gl : decide ((0 : Int) < (r.length : Int)) = false := by rw [hr]; rfl
    have gl2 : decide (0 < r.length) = false := by rw [hr]; rfl
    have HE : Hid ((rnest r && decide (n = d)) = false) := by show _ = _; rw [hr]; rfl
    clear hr hc
    go_enter Tryz.func121, Tryz.ntmps121
    go_wp2_with fail
    go_quiet (fail)
    go_wp2_with fail
    go_ret
    exact ⟨by rw [HE.out]; rfl, below_drewN (Below.refl _ _) _⟩
  obtain ⟨b, off, rfl, hcc⟩ := hc.resolve_left hr
  have hl0 : 0 < r.length := List.length_pos_iff.2 hr
  have gl : (0 : Int) < (r.length : Int) := by omega
  have gl2 : decide (0 < r.length) = true := decide_eq_true hl0
  obtain ⟨x, q, hxq⟩ : ∃ x q, r = x :: q := by
    cases r with
    | nil => exact absurd rfl hr
    | cons x q => exact ⟨x, q, rfl⟩
  have hx : x < 256 := hby x (by rw [hxq]; exact List.mem_cons_self ..)
  have cx : w.cell? ⟨b, off, none⟩ = some (.int .u8 (x : Nat)) := by
    have h := hcc 0 hl0
    rw [hxq] at h
    simpa using h
  have HRN : Hid (rnest r = nst8 x) := by show _ = _; rw [hxq]; rfl
  have HX := hide hx
  clear hcc hr hl0 hxq hby
  cases hn : nst8 x with
  | false => as_aux_lemma =>
    have HE : Hid ((rnest r && decide (n = d)) = false) := by show _ = _; rw [HRN.out, hn]; rfl
    have HNE := hide hn
    clear hn
    go_enter Tryz.func121, Tryz.ntmps121
    go_wp2_with fail
    go_quiet ((go_at_call 149; exact Calls.quiet_of_same (nests8_no x HX.out HNE.out _)))
    go_wp2_with fail
    go_ret
    exact ⟨by rw [HE.out]; rfl, below_drewN (Below.refl _ _) _⟩
  | true => as_aux_lemma =>
    have HE : Hid ((rnest r && decide (n = d)) = ((n : Int) == (d : Int))) := by
      show _ = _
      rw [HRN.out, hn, Bool.true_and, Bool.eq_iff_iff]
      simp
      omega
    have HNE := hide hn
    clear hn
    go_enter Tryz.func121, Tryz.ntmps121
    go_wp2_with fail
    go_quiet ((go_at_call 149; exact Calls.quiet_of_same (nests8_yes x HX.out HNE.out _)))
    go_wp2_with fail
    go_ret
    exact ⟨by rw [HE.out]; rfl, below_drewN (Below.refl _ _) _⟩
end
end Go.Proofs.YtadilnmkjcmnnaaGreatDoor
