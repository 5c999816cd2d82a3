import Derived.Test.YtfjdpooaipehmaaBke
namespace Go.Proofs.Ytfjdpooaipehmaa
open Go.RowKit

/-- Half of a push: the list is in the row of lists, its number not yet in the other row. -/
structure Half (w : World) (base B : Nat) (vb vo : Value) (es : List Ent) (ent : Ent) (a t d u : Nat) : Prop where
  blk : BkBlk w B vb vo a t d u
  hb : w.ownsRow base 53 1 vb (es.length + 1) (es.map (·.val) ++ [ent.val])
  ho : w.ownsRow base 3 1 vo es.length (es.map fun e => .int .i64 ((e.m : Nat) : Int))
  he : ∀ e ∈ es, w.ownsRow base 5 1 e.val e.n (bv (mkl e.m e.n))
  hn : w.ownsRow base 5 1 ent.val ent.n (bv (mkl ent.m ent.n))

theorem push_a {w w3 : World} {base B : Nat} {vb vo : Value} {es : List Ent} {a t d u : Nat} (h : BookC w base B vb vo es a t d u) (ent : Ent) (hent : w.ownsRow base 5 1 ent.val ent.n (bv (mkl ent.m ent.n))) (v3 : Value)
    (ho3 : w3.ownsRow base 53 1 v3 (es.length + 1) (es.map (·.val) ++ [ent.val])) (hg3 : (w.alloc (.cells #[ent.val] 53)).grownBy w3 vb.ownBlock) :
    BkBlk w3 B vb vo a t d u ∧ Half (w3.setCell ⟨B, 0, none⟩ v3) base B v3 vo es ent a t d u ∧ Kp (fun q => q = B ∨ vb.ownBlock = some q) w (w3.setCell ⟨B, 0, none⟩ v3) := by
  have hbb : vb.ownBlock ≠ some B := own_not h.hb h.blk (by decide)
  have hblk3 : BkBlk w3 B vb vo a t d u := (h.blk.alloc _).grown hg3 hbb
  have hkg : Kp (fun q => vb.ownBlock = some q) w w3 := ((Kp.refl _ w).alloc _).grown hg3 (fun q _ hq => hq)
  have hk34 : Kp (fun q => q = B) w3 (w3.setCell ⟨B, 0, none⟩ v3) := (Kp.refl _ _).setCell _ _ (fun _ => rfl)
  have hk24 : Kp (fun q => q = B ∨ vb.ownBlock = some q) w (w3.setCell ⟨B, 0, none⟩ v3) := (hkg.mono (fun _ _ h => .inr h)).trans hk34 (fun _ _ h => .inl h)
  have hkeep : ∀ {ee : TypeId} {v : Value} {nn : Nat} {yy : List Value}, w.ownsRow base ee 1 v nn yy → ee ≠ 46 → ee ≠ 53 → (w3.setCell ⟨B, 0, none⟩ v3).ownsRow base ee 1 v nn yy := fun ho h1 h2 =>
    hk24.owns ho (fun q hq hor => by
      rcases hor with rfl | hor
      · exact own_not ho h.blk h1 hq
      · exact own_apart ho h.hb h2 hq hor)
  exact ⟨hblk3, ⟨hblk3.set 0 _ rfl, hk34.owns ho3 (fun q hq e => own_not ho3 hblk3 (by decide) (by rw [hq, e])), hkeep h.ho (by decide) (by decide), fun e he => hkeep (h.he e he) (by decide) (by decide), hkeep hent (by decide) (by decide)⟩, hk24⟩

theorem push_b {w w5 : World} {base B : Nat} {v3 vo : Value} {es : List Ent} {ent : Ent} {a t d u : Nat} (h : Half w base B v3 vo es ent a t d u) (v5 : Value)
    (ho5 : w5.ownsRow base 3 1 v5 (es.length + 1) (es.map (fun e => .int .i64 ((e.m : Nat) : Int)) ++ [.int .i64 ((ent.m : Nat) : Int)])) (hg5 : (w.alloc (.cells #[.int .i64 ((ent.m : Nat) : Int)] 3)).grownBy w5 vo.ownBlock)
    (hs : ∀ e ∈ es, ∀ e' ∈ es, ∀ k, e.val.ownBlock = some k → e'.val.ownBlock = some k → e.m = e'.m) (hsh : ∀ e ∈ es, ∀ k, e.val.ownBlock = some k → ent.val.ownBlock = some k → e.m = ent.m)
    (hbase : base ≤ B) (hm : ∀ e ∈ es, e.m ≤ t ∧ e.n < 68719477000) (hme : ent.m ≤ t ∧ ent.n < 68719477000) (ht : t < 68719476736) (hu : u ≤ 16777216) :
    BkBlk w5 B v3 vo a t d u ∧ BookC (w5.setCell ⟨B, 1, none⟩ v5) base B v3 v5 (es ++ [ent]) a t d u ∧ Kp (fun q => q = B ∨ vo.ownBlock = some q) w (w5.setCell ⟨B, 1, none⟩ v5) := by
  have hbo : vo.ownBlock ≠ some B := own_not h.ho h.blk (by decide)
  have hblk5 : BkBlk w5 B v3 vo a t d u := (h.blk.alloc _).grown hg5 hbo
  have hkg : Kp (fun q => vo.ownBlock = some q) w w5 := ((Kp.refl _ w).alloc _).grown hg5 (fun q _ hq => hq)
  have hk56 : Kp (fun q => q = B) w5 (w5.setCell ⟨B, 1, none⟩ v5) := (Kp.refl _ _).setCell _ _ (fun _ => rfl)
  have hk46 : Kp (fun q => q = B ∨ vo.ownBlock = some q) w (w5.setCell ⟨B, 1, none⟩ v5) := (hkg.mono (fun _ _ h => .inr h)).trans hk56 (fun _ _ h => .inl h)
  have hkeep : ∀ {ee : TypeId} {v : Value} {nn : Nat} {yy : List Value}, w.ownsRow base ee 1 v nn yy → ee ≠ 46 → ee ≠ 3 → (w5.setCell ⟨B, 1, none⟩ v5).ownsRow base ee 1 v nn yy := fun ho h1 h2 =>
    hk46.owns ho (fun q hq hor => by
      rcases hor with rfl | hor
      · exact own_not ho h.blk h1 hq
      · exact own_apart ho h.ho h2 hq hor)
  have hv5 := hk56.owns ho5 (fun q hq e => own_not ho5 hblk5 (by decide) (by rw [hq, e]))
  have hv3 := hkeep h.hb (by decide) (by decide)
  refine ⟨hblk5, ⟨hblk5.set 1 _ rfl, by simpa using hv3, by simpa using hv5, ?_, ?_, hbase, ?_, ht, hu⟩, hk46⟩
  · intro e he
    rcases List.mem_append.1 he with he | he
    · exact hkeep (h.he e he) (by decide) (by decide)
    · simp at he; subst he; exact hkeep h.hn (by decide) (by decide)
  · intro e he e' he' q hq hq'
    rcases List.mem_append.1 he with h1 | h1 <;> rcases List.mem_append.1 he' with h2 | h2
    · exact hs e h1 e' h2 q hq hq'
    · have h2 := List.mem_singleton.1 h2; rw [h2] at hq' ⊢; exact hsh e h1 q hq hq'
    · have h1 := List.mem_singleton.1 h1; rw [h1] at hq ⊢; exact (hsh e' h2 q hq' hq).symm
    · rw [List.mem_singleton.1 h1, List.mem_singleton.1 h2]
  · intro e he
    rcases List.mem_append.1 he with he | he
    · exact hm e he
    · simp at he; subst he; exact hme

/-- How many of the first i grown lists are kept. -/
def pc : Nat → Nat
  | 0 => 0
  | i + 1 => pc i + if i + 1 < 4 ∨ (i + 1) % 16 = 0 then 1 else 0
theorem pc_le : ∀ i, pc i ≤ i
  | 0 => Nat.le_refl _
  | i + 1 => by unfold pc; have := pc_le i; split <;> omega
theorem pc_yes {q : Nat} (h : q + 1 < 4 ∨ (q + 1) % 16 = 0) : pc (q + 1) = pc q + 1 := by show pc q + _ = _; rw [if_pos h]
theorem pc_no {q : Nat} (h : ¬ (q + 1 < 4 ∨ (q + 1) % 16 = 0)) : pc (q + 1) = pc q := by show pc q + _ = _; rw [if_neg h]; rfl
theorem pc_all : pc 96 = 9 := by decide

/-- What holds within growBytes: the book was (w0, vb0, vo0, es0); the lists ahead of k have been grown. -/
structure Grw (w0 : World) (base B : Nat) (vb0 vo0 : Value) (es0 : List Ent) (a t d u : Nat) (w : World) (vb vo : Value) (es : List Ent) (k : Nat) : Prop where
  core : BookC w base B vb vo es a t d u
  pre : ∀ (j : Nat) (ej : Ent), es0[j]? = some ej → es[j]? = some ej
  kp : Kp (Foot B vb0 vo0 es0) w0 w
  foot : ∀ q, Foot B vb vo es q → Foot B vb0 vo0 es0 q ∨ w0.heap.size ≤ q
  un : ∀ (j : Nat) (ej : Ent), k ≤ j → es0[j]? = some ej → ∀ (i : Nat) (ei : Ent), es[i]? = some ei → i ≠ j → ∀ q, ei.val.ownBlock = some q → ej.val.ownBlock ≠ some q
  old : ∀ (j : Nat) (ej : Ent), es0[j]? = some ej → ∀ q, ej.val.ownBlock = some q → q < w0.heap.size

/-- .. and within the growing of list e: i of its appendings are done, gv is what has come of it. -/
structure Inn (w0 : World) (base B : Nat) (vb0 vo0 : Value) (es0 : List Ent) (a t d u : Nat) (w : World) (vb vo : Value) (es : List Ent) (k : Nat) (e : Ent) (i : Nat) (gv : Value) : Prop where
  g : Grw w0 base B vb0 vo0 es0 a t d u w vb vo es (k + 1)
  own : w.ownsRow base 5 1 gv (e.n + i) (bv (mkl e.m (e.n + i)))
  gb : ∀ q, gv.ownBlock = some q → e.val.ownBlock = some q ∨ w0.heap.size ≤ q
  share : ∀ x ∈ es, ∀ q, x.val.ownBlock = some q → gv.ownBlock = some q → x.m = e.m ∧ x.n ≤ e.n + i

section
variable {w0 : World} {base B : Nat} {vb0 vo0 : Value} {es0 : List Ent} {a t d u : Nat}

theorem Grw.begin {w : World} {vb vo : Value} {es : List Ent} {k : Nat} {e : Ent} (h : Grw w0 base B vb0 vo0 es0 a t d u w vb vo es k) (he : es0[k]? = some e) : Inn w0 base B vb0 vo0 es0 a t d u w vb vo es k e 0 e.val := by
  have hek := h.pre k e he
  refine ⟨⟨h.core, h.pre, h.kp, h.foot, fun j ej hj => h.un j ej (by omega), h.old⟩, h.core.he e (List.mem_of_getElem? hek), fun q hq => .inl hq, fun x hx q hq hq' => ?_⟩
  obtain ⟨i, hi⟩ := List.getElem?_of_mem hx
  by_cases hik : i = k
  · subst hik
    rw [hek] at hi
    injection hi with hi
    subst hi
    exact ⟨rfl, Nat.le_refl _⟩
  · exact absurd hq' (h.un k e (Nat.le_refl _) he i x hi hik q hq)

/-- One byte is appended. -/
theorem Inn.append {w : World} {vb vo : Value} {es : List Ent} {k : Nat} {e : Ent} {i : Nat} {gv : Value} (h : Inn w0 base B vb0 vo0 es0 a t d u w vb vo es k e i gv) (he : es0[k]? = some e) {w2 : World} {g2 : Value}
    (ho : w2.ownsRow base 5 1 g2 (e.n + i + 1) (bv (mkl e.m (e.n + i)) ++ [.int .u8 ((atv e.m (e.n + i) : Nat) : Int)]))
    (hkeep : ∀ v2 n2 xs2, (∀ k, v2.ownBlock = some k → gv.ownBlock = some k → n2 ≤ e.n + i) → w.ownsRow base 5 1 v2 n2 xs2 → w2.ownsRow base 5 1 v2 n2 xs2)
    (hk : Kp (fun k => gv.ownBlock = some k) w w2) (hat : g2.ownBlock = gv.ownBlock ∨ g2.ownBlock = some (w.heap.size + 1)) : Inn w0 base B vb0 vo0 es0 a t d u w2 vb vo es k e (i + 1) g2 := by
  have hfe : ∀ q, e.val.ownBlock = some q → Foot B vb0 vo0 es0 q := fun q hq => .inr (.inr (.inr ⟨e, List.mem_of_getElem? he, hq⟩))
  have hkp2 : Kp (Foot B vb0 vo0 es0) w0 w2 := h.g.kp.trans hk (fun q hq hg => by
    rcases h.gb q hg with h1 | h1
    · exact hfe q h1
    · omega)
  have hne : ∀ {ee : TypeId} {v : Value} {nn : Nat} {yy : List Value}, w.ownsRow base ee 1 v nn yy → ee ≠ 5 → w2.ownsRow base ee 1 v nn yy := fun ho h1 => hk.owns ho (fun q hq hg => own_apart ho h.own h1 hq hg)
  refine ⟨⟨⟨h.g.core.blk.kp hk (fun hg => own_not h.own h.g.core.blk (by decide) hg), hne h.g.core.hb (by decide), hne h.g.core.ho (by decide), fun x hx => hkeep _ _ _ (fun q hq hg => (h.share x hx q hq hg).2) (h.g.core.he x hx), h.g.core.hs, h.g.core.hbase, h.g.core.hm, h.g.core.ht, h.g.core.hu⟩, h.g.pre, hkp2, h.g.foot, h.g.un, h.g.old⟩, ?_, ?_, ?_⟩
  · have e1 : bv (mkl e.m (e.n + (i + 1))) = bv (mkl e.m (e.n + i)) ++ [.int .u8 ((atv e.m (e.n + i) : Nat) : Int)] := by
      rw [← Nat.add_assoc, mkl_snoc, bv_app]; rfl
    rw [e1]
    exact ho
  · intro q hq
    rcases hat with h1 | h1
    · exact h.gb q (by rw [← h1]; exact hq)
    · rw [h1] at hq; injection hq with hq; exact .inr (by have := h.g.kp.size; omega)
  · intro x hx q hq hg
    rcases hat with h1 | h1
    · have := h.share x hx q hq (by rw [← h1]; exact hg)
      exact ⟨this.1, by omega⟩
    · rw [h1] at hg
      injection hg with hg
      have := (own_back (h.g.core.he x hx) q hq).2
      omega

/-- What has come of it is kept too. -/
theorem Inn.push {w : World} {vb vo : Value} {es : List Ent} {k : Nat} {e : Ent} {i : Nat} {gv : Value} (h : Inn w0 base B vb0 vo0 es0 a t d u w vb vo es k e i gv) (he : es0[k]? = some e) {w6 : World} {vb6 vo6 : Value}
    (hc : BookC w6 base B vb6 vo6 (es ++ [⟨gv, e.n + i, e.m⟩]) a t d u) (hk : Kp (fun q => q = B ∨ vb.ownBlock = some q ∨ vo.ownBlock = some q) w w6)
    (hb : ∀ q, vb6.ownBlock = some q → vb.ownBlock = some q ∨ w0.heap.size ≤ q) (ho : ∀ q, vo6.ownBlock = some q → vo.ownBlock = some q ∨ w0.heap.size ≤ q) :
    Inn w0 base B vb0 vo0 es0 a t d u w6 vb6 vo6 (es ++ [⟨gv, e.n + i, e.m⟩]) k e i gv := by
  have hfe : ∀ q, e.val.ownBlock = some q → Foot B vb0 vo0 es0 q := fun q hq => .inr (.inr (.inr ⟨e, List.mem_of_getElem? he, hq⟩))
  have hkp2 : Kp (Foot B vb0 vo0 es0) w0 w6 := h.g.kp.trans hk (fun q hq hg => by
    have hf : Foot B vb vo es q := by
      rcases hg with h1 | h1 | h1
      · exact .inl h1
      · exact .inr (.inl h1)
      · exact .inr (.inr (.inl h1))
    rcases h.g.foot q hf with h1 | h1
    · exact h1
    · omega)
  refine ⟨⟨hc, ?_, hkp2, ?_, ?_, h.g.old⟩, ?_, h.gb, ?_⟩
  · intro j ej hj
    have := h.g.pre j ej hj
    rw [List.getElem?_append_left (List.getElem?_eq_some_iff.1 this).1]
    exact this
  · intro q hq
    rcases hq with hq | hq | hq | ⟨x, hx, hq⟩
    · exact h.g.foot q (.inl hq)
    · rcases hb q hq with h1 | h1
      · exact h.g.foot q (.inr (.inl h1))
      · exact .inr h1
    · rcases ho q hq with h1 | h1
      · exact h.g.foot q (.inr (.inr (.inl h1)))
      · exact .inr h1
    · rcases List.mem_append.1 hx with hx | hx
      · exact h.g.foot q (.inr (.inr (.inr ⟨x, hx, hq⟩)))
      · rw [List.mem_singleton.1 hx] at hq
        rcases h.gb q hq with h1 | h1
        · exact .inl (hfe q h1)
        · exact .inr h1
  · intro j ej hkj hj i' ei hi hij q hq
    rcases snoc_get hi with ⟨_, hi⟩ | ⟨_, hi⟩
    · exact h.g.un j ej hkj hj i' ei hi hij q hq
    · subst hi
      intro hq'
      rcases h.gb q hq with h1 | h1
      · exact h.g.un j ej hkj hj k e (h.g.pre k e he) (by omega) q h1 hq'
      · have := h.g.old j ej hj q hq'
        omega
  · have := hc.he ⟨gv, e.n + i, e.m⟩ (by simp)
    exact this
  · intro x hx q hq hg
    rcases List.mem_append.1 hx with hx | hx
    · exact h.share x hx q hq hg
    · rw [List.mem_singleton.1 hx]; exact ⟨rfl, Nat.le_refl _⟩
end
end Go.Proofs.Ytfjdpooaipehmaa
