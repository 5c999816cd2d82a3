import Derived.Test.YtedgdnoafajhoaaDoorPm
import Derived.Test.YtedgdnoafajhoaaDoorDwr
import Derived.Laws.Bits128
import Derived.Test.YtedgdnoafajhoaaDoorLnt
import Derived.Test.YtedgdnoafajhoaaDoorWa
import Derived.Test.YtedgdnoafajhoaaDoorRs
import Derived.Test.YtedgdnoafajhoaaDoorOq
import Derived.StillTailTactics
namespace Go.Proofs.YtedgdnoafajhoaaDoor
section
open Go.RowKit Go

/-- A place whose blocks are all within F: fresh, or with the last row in it. -/
def Plf (w : World) (B P : Nat) (F : Nat → Prop) : Prop := F P ∧ B ≤ P ∧ ((w.heap[P]? = some (.cells #[.slice none 0 0, .slice none 0 0] 26 (0, 0))) ∨ ∃ ov iv vx xs, Pls w B P ov iv vx 1 [vx] xs ∧ ∀ q, pbk P ov iv vx q → F q)
/-- Its answer: the row. -/
def Plq (w : World) (B P : Nat) (F : Nat → Prop) (v : Value) (xs : List Nat) : Prop := ∃ ov iv, Pls w B P ov iv v 1 [v] xs ∧ ∀ q, pbk P ov iv v q → F q
theorem Pls.kp {w w' : World} {B P no : Nat} {ov iv vx : Value} {os : List Value} {xs : List Nat} {S : Nat → Prop} (h : Pls w B P ov iv vx no os xs) (hk : Kp S w w') (hs : ∀ q, pbk P ov iv vx q → ¬ S q) : Pls w' B P ov iv vx no os xs :=
  ⟨(hk.block P (blk_lt h.p) (hs P (.inl rfl))).trans h.p, hk.owns h.o (fun k e => hs k (.inr (.inl e))), hk.owns h.i (fun k e => hs k (.inr (.inr (.inl e)))), hk.owns h.x (fun k e => hs k (.inr (.inr (.inr e)))), h.oi, h.pb⟩
theorem Plf.lt {w : World} {B P : Nat} {F : Nat → Prop} (h : Plf w B P F) : P < w.heap.size := by
  obtain ⟨_, _, h | ⟨ov, iv, vx, xs, h, _⟩⟩ := h
  · exact blk_lt h
  · exact blk_lt h.p
/-- What else is known of its blocks. -/
theorem Plf.foot {w : World} {B P : Nat} {F F' : Nat → Prop} (h : Plf w B P F) (hF : ∀ q, F q → q < w.heap.size → F' q) : Plf w B P F' := by
  have hl := h.lt
  obtain ⟨h0, h1, h | ⟨ov, iv, vx, xs, h, h2⟩⟩ := h
  · exact ⟨hF P h0 hl, h1, .inl h⟩
  · exact ⟨hF P h0 hl, h1, .inr ⟨ov, iv, vx, xs, h, fun q hq => hF q (h2 q hq) (pbk_lt h q hq)⟩⟩
theorem Plf.kp {w w' : World} {B P : Nat} {F S : Nat → Prop} (h : Plf w B P F) (hk : Kp S w w') (hs : ∀ q, F q → ¬ S q) : Plf w' B P F := by
  obtain ⟨h0, h1, h | ⟨ov, iv, vx, xs, h, h2⟩⟩ := h
  · exact ⟨h0, h1, .inl ((hk.block P (blk_lt h) (hs P h0)).trans h)⟩
  · exact ⟨h0, h1, .inr ⟨ov, iv, vx, xs, h.kp hk (fun q hq => hs q (h2 q hq)), h2⟩⟩
theorem Plf.below {w w' : World} {B P : Nat} {F : Nat → Prop} (h : Plf w B P F) (hb : Below w.heap.size w w') : Plf w' B P F := h.kp (Kp.of_below (S := fun _ => False) hb) (fun _ _ h => h)
theorem Plq.own {w : World} {B P : Nat} {F : Nat → Prop} {v : Value} {xs : List Nat} (h : Plq w B P F v xs) : w.ownsRow B 5 1 v xs.length (bv xs) := by
  obtain ⟨ov, iv, h, _⟩ := h
  exact h.x
theorem Plq.blk {w : World} {B P : Nat} {F : Nat → Prop} {v : Value} {xs : List Nat} (h : Plq w B P F v xs) : ∀ q, v.ownBlock = some q → F q := by
  obtain ⟨ov, iv, _, h2⟩ := h
  exact fun q e => h2 q (.inr (.inr (.inr e)))
theorem Plq.plf {w : World} {B P : Nat} {F : Nat → Prop} {v : Value} {xs : List Nat} (h : Plq w B P F v xs) : Plf w B P F := by
  obtain ⟨ov, iv, h, h2⟩ := h
  exact ⟨h2 P (.inl rfl), h.pb, .inr ⟨ov, iv, v, xs, h, h2⟩⟩
theorem Plq.foot {w : World} {B P : Nat} {F F' : Nat → Prop} {v : Value} {xs : List Nat} (h : Plq w B P F v xs) (hF : ∀ q, F q → q < w.heap.size → F' q) : Plq w B P F' v xs := by
  obtain ⟨ov, iv, h, h2⟩ := h
  exact ⟨ov, iv, h, fun q hq => hF q (h2 q hq) (pbk_lt h q hq)⟩
theorem Plq.kp {w w' : World} {B P : Nat} {F S : Nat → Prop} {v : Value} {xs : List Nat} (h : Plq w B P F v xs) (hk : Kp S w w') (hs : ∀ q, F q → ¬ S q) : Plq w' B P F v xs := by
  obtain ⟨ov, iv, h, h2⟩ := h
  exact ⟨ov, iv, h.kp hk (fun q hq => hs q (h2 q hq)), h2⟩
theorem Plq.below {w w' : World} {B P : Nat} {F : Nat → Prop} {v : Value} {xs : List Nat} (h : Plq w B P F v xs) (hb : Below w.heap.size w w') : Plq w' B P F v xs := h.kp (Kp.of_below (S := fun _ => False) hb) (fun _ _ h => h)
/-- The row is written over in its place. -/
theorem Plq.over {w w' : World} {B P : Nat} {F : Nat → Prop} {v : Value} {xs ys : List Nat} (h : Plq w B P F v xs) (hk : Kp (fun q => v.ownBlock = some q) w w') (ho : w'.ownsRow B 5 1 v ys.length (bv ys)) : Plq w' B P F v ys := by
  obtain ⟨ov, iv, h, h2⟩ := h
  exact ⟨ov, iv, ⟨(hk.block P (blk_lt h.p) (fun e => own_not h.x h.p (by decide) e)).trans h.p, hk.owns h.o (fun k hk' e => own_apart h.o h.x (by decide) hk' e), hk.owns h.i (fun k hk' e => own_apart h.i h.x (by decide) hk' e), ho, h.oi, h.pb⟩, h2⟩
theorem rows_plf (w : World) (B P c : Nat) (F : Nat → Prop) (v : Value) (ys : List Nat) (h : Plf w B P F) (hc : w.cell? ⟨c, 0, none⟩ = some v) (hB : B ≤ w.heap.size) (hl : ys.length ≤ 140737488351232) (hcp : c ≠ P) (hv : ∀ w', Below B w w' → BSl w' v ys) :
    Calls Tryd.prog 40 #[.pointer (some ⟨P, 0, none⟩), .slice (some ⟨c, 0, none⟩) 1 1] w fun e w' => ∃ ov' vx', e = .returned ov' ∧ w'.ownsRow B 27 1 ov' 1 [vx'] ∧ Plq w' B P (fun q => F q ∨ w.heap.size ≤ q) vx' ys ∧ Kp F w w' := by
  obtain ⟨h0, h1, h | ⟨ov, iv, vx, xs, h, h2⟩⟩ := h
  · refine (rows_fresh w B P c v ys h h1 hc (hv w (Below.refl _ _)) hB hl hcp (fun w' hk => hv w' (hk.below hB (fun k e => by omega)))).mono ?_
    rintro e w' ⟨ov', iv', vx', he, hp, hk, hq⟩
    exact ⟨ov', vx', he, hp.o, ⟨ov', iv', hp, fun q e => (hq q e).imp (fun e => by rw [e]; exact h0) id⟩, hk.mono (fun q _ e => by rw [e]; exact h0)⟩
  · refine (rows_used w B P c v ov iv vx 1 [vx] xs ys h hc (hv w (Below.refl _ _)) hB hl hcp (fun w' hk => hv w' (hk.below hB (fun k e => by have := h.pb; omega)))).mono ?_
    rintro e w' ⟨ov', iv', vx', he, hp, hk, hq⟩
    exact ⟨ov', vx', he, hp.o, ⟨ov', iv', hp, fun q e => (hq q e).imp (h2 q) id⟩, hk.mono (fun q _ e => h2 q e)⟩

set_option maxRecDepth 1000000 in
set_option maxHeartbeats 1000000 in
/-- Place.Bytes. -/
theorem pbytes_f (w : World) (B P : Nat) (F : Nat → Prop) (v : Value) (ys : List Nat) (h : Plf w B P F) (hB : B ≤ w.heap.size) (hl : ys.length ≤ 140737488351232) (hv : ∀ w', Below B w w' → BSl w' v ys) :
    Calls Tryd.prog 16 #[.pointer (some ⟨P, 0, none⟩), v] w fun e w' => ∃ vx', e = .returned vx' ∧ Plq w' B P (fun q => F q ∨ w.heap.size ≤ q) vx' ys ∧ Kp F w w' := by
  have HP := hide h
  have HB := hide hB
  have HL := hide hl
  have HV := hide hv
  clear h hB hl hv
  obtain ⟨⟨av, cv, rfl, _, _⟩, _, _⟩ := HV.out w (Below.refl _ _)
  go_enter Tryd.func16, Tryd.ntmps16
  go_wp2_with fail
  generalize hw1 : w.alloc _ = w1
  have HBa : Hid (Below w.heap.size w w1) := by rw [← hw1]; exact (Below.refl _ _).alloc (Nat.le_refl _) _
  have HC : Hid (w1.cell? ⟨w.heap.size, 0, none⟩ = some (.slice av ys.length cv)) := by rw [← hw1]; exact cell_alloc1 _ _ _
  have HPx := hide (HP.out.below HBa.out)
  have HBx : Hid (B ≤ w1.heap.size) := Nat.le_trans HB.out HBa.out.size
  refine (rows_plf w1 B P w.heap.size F _ ys HPx.out HC.out HBx.out HL.out (fun e => by have := HP.out.lt; omega) (fun w' hb => HV.out w' ((HBa.out.mono HB.out).trans hb))).mono ?_
  rintro e w2 ⟨ov, vx, rfl, ho, hp, hkm⟩
  have HPR : Hid (Plq w2 B P (fun q => F q ∨ w.heap.size ≤ q) vx ys) := hp.foot (fun q hq _ => hq.imp id (fun h => Nat.le_trans HBa.out.size h))
  obtain ⟨go, co, rfl, c0, _⟩ := own_one_form ho
  have HKM : Hid (Kp F w w2) := (Kp.of_below HBa.out).trans hkm (fun _ _ h => h)
  clear ho hp hkm
  go_wp2_with fail
  go_ret
  exact ⟨vx, rfl, HPR.out, HKM.out⟩
end
section
open Go.RowKit Go

theorem i64_and1 (n : Int) : bits .and .i64 n 1 = n % 2 := by
  have h1 : (BitVec.ofInt 64 1).toNat = 2 ^ 1 - 1 := by decide
  have key : (BitVec.ofInt 64 n &&& BitVec.ofInt 64 1).toNat = (n % ((2 ^ 64 : Nat) : Int)).toNat % 2 ^ 1 := by
    rw [BitVec.toNat_and, BitVec.toNat_ofInt, h1, Nat.and_two_pow_sub_one_eq_mod]
  show IntKind.i64.wrap ((BitVec.ofInt 64 n &&& BitVec.ofInt 64 1).toNat : Nat) = n % 2
  rw [key, IntKind.wrap_i64]
  omega
theorem and1_ex (n : Int) : ∃ k : Nat, bits .and .i64 n 1 = (k : Int) ∧ k < 2 := ⟨(n % 2).toNat, by rw [i64_and1]; omega, by omega⟩
/-- One of two is put in. -/
def setf {α : Type} (f : Nat → α) (k : Nat) (y : α) : Nat → α := fun j => if j = k then y else f j
theorem setf_same {α : Type} (f : Nat → α) (k : Nat) (y : α) : setf f k y k = y := by simp [setf]
theorem setf_ne {α : Type} (f : Nat → α) {k j : Nat} (y : α) (h : j ≠ k) : setf f k y j = f j := by simp [setf, h]
theorem two {k : Nat} (h : k < 2) : k = 0 ∨ k = 1 := by omega
/-- What is no block of the two hashes' and of what was written to them. -/
def foot (B Hb Ab : Nat) (gs : Nat → Nat) (vs : Nat → Value) (q : Nat) : Prop := B ≤ q ∧ q ≠ Hb ∧ q ≠ Ab ∧ (∀ k, k < 2 → q ≠ gs k) ∧ ∀ k, k < 2 → (vs k).ownBlock ≠ some q
/-- The two hashes and what was written to them. -/
structure Dq (w wx : World) (Hb Ab : Nat) (gs : Nat → Nat) (vs : Nat → Value) (zs xs : Nat → List Nat) : Prop where
  c : Cb wx
  l : Below w.heap.size w wx
  hb : wx.heap[Hb]? = some (.cells #[.pointer (some ⟨gs 0, 0, none⟩), .pointer (some ⟨gs 1, 0, none⟩)] 38 (0, 0))
  ab : wx.heap[Ab]? = some (.cells #[vs 0, vs 1] 39 (0, 0))
  h : ∀ k, k < 2 → HS wx (gs k) (zs k)
  a : ∀ k, k < 2 → wx.ownsRow w.heap.size 5 1 (vs k) (xs k).length (bv (xs k))
  n : gs 0 ≠ gs 1
  va : ∀ q, (vs 0).ownBlock = some q → (vs 1).ownBlock ≠ some q
  bg : ∀ k, k < 2 → w.heap.size ≤ gs k
  bh : w.heap.size ≤ Hb
  ba : w.heap.size ≤ Ab
  p0 : 0 < w.heap.size
section
variable {w wx wy : World} {Hb Ab : Nat} {gs : Nat → Nat} {vs : Nat → Value} {zs xs : Nat → List Nat}
theorem Dq.kp (h : Dq w wx Hb Ab gs vs zs xs) {S : Nat → Prop} (hk : Kp S wx wy) (hs : ∀ q, S q → foot w.heap.size Hb Ab gs vs q) : Dq w wy Hb Ab gs vs zs xs :=
  ⟨h.c.kp hk (fun e => by have := (hs 0 e).1; have := h.p0; omega), h.l.trans (hk.below h.l.size (fun q e => (hs q e).1)), (hk.block Hb (blk_lt h.hb) (fun e => (hs _ e).2.1 rfl)).trans h.hb, (hk.block Ab (blk_lt h.ab) (fun e => (hs _ e).2.2.1 rfl)).trans h.ab,
    fun k hk2 => (h.h k hk2).kp hk (fun e => (hs _ e).2.2.2.1 k hk2 rfl), fun k hk2 => hk.owns (h.a k hk2) (fun q hq e => (hs _ e).2.2.2.2 k hk2 hq), h.n, h.va, h.bg, h.bh, h.ba, h.p0⟩
theorem Dq.below (h : Dq w wx Hb Ab gs vs zs xs) (hb : Below wx.heap.size wx wy) : Dq w wy Hb Ab gs vs zs xs := h.kp (Kp.of_below (S := fun _ => False) hb) (fun _ e => e.elim)
theorem blk_ne {w : World} {a b : Nat} {A B : Array Value} {e e' : TypeId} (h : w.heap[a]? = some (.cells A e (0, 0))) (h' : w.heap[b]? = some (.cells B e' (0, 0))) (hne : e ≠ e') : a ≠ b := by
  intro he
  subst he
  rw [h] at h'
  injection h' with h'
  injection h' with _ h' _
  exact hne h'
theorem Dq.hcell (h : Dq w wx Hb Ab gs vs zs xs) {k : Nat} (hk : k < 2) : wx.cell? ⟨Hb, k, none⟩ = some (.pointer (some ⟨gs k, 0, none⟩)) := by
  rcases two hk with e | e <;> (subst e; exact blk_cell h.hb rfl)
theorem Dq.acell (h : Dq w wx Hb Ab gs vs zs xs) {k : Nat} (hk : k < 2) : wx.cell? ⟨Ab, k, none⟩ = some (vs k) := by
  rcases two hk with e | e <;> (subst e; exact blk_cell h.ab rfl)
theorem Dq.gne (h : Dq w wx Hb Ab gs vs zs xs) {k j : Nat} (hk : k < 2) (hj : j < 2) (hne : j ≠ k) : gs j ≠ gs k := by
  have hn := h.n
  rcases two hk with e | e <;> rcases two hj with e' | e' <;> subst e <;> subst e' <;> first | (exfalso; exact hne rfl) | exact hn | exact fun e => hn e.symm
theorem Dq.vne (h : Dq w wx Hb Ab gs vs zs xs) {k j : Nat} (hk : k < 2) (hj : j < 2) (hne : j ≠ k) : ∀ q, (vs j).ownBlock = some q → (vs k).ownBlock ≠ some q := by
  have hn := h.va
  rcases two hk with e | e <;> rcases two hj with e' | e' <;> subst e <;> subst e' <;> first | (exfalso; exact hne rfl) | exact hn | exact fun q e e' => hn q e' e
/-- Bytes are written to one of the hashes. -/
theorem Dq.write (h : Dq w wx Hb Ab gs vs zs xs) {k : Nat} (hk2 : k < 2) {ys : List Nat} (hk : Kp (fun q => q = gs k) wx wy) (hh : HS wy (gs k) ys) : Dq w wy Hb Ab gs vs (setf zs k ys) xs := by
  have hg := h.bg k hk2
  have p0 := h.p0
  refine ⟨h.c.kp hk (fun e => by omega), h.l.trans (hk.below h.l.size (fun q e => by omega)), (hk.block Hb (blk_lt h.hb) (blk_ne h.hb (h.h k hk2).b (by decide))).trans h.hb, (hk.block Ab (blk_lt h.ab) (blk_ne h.ab (h.h k hk2).b (by decide))).trans h.ab,
    fun j hj => ?_, fun j hj => hk.owns (h.a j hj) (fun q hq e => own_not (h.a j hj) (h.h k hk2).b (by decide) (by rw [← e]; exact hq)), h.n, h.va, h.bg, h.bh, h.ba, h.p0⟩
  by_cases e : j = k
  · subst e
    rw [setf_same]
    exact hh
  · rw [setf_ne _ _ e]
    exact (h.h j hj).kp hk (h.gne hk2 hj e)
theorem blk_two {w : World} {b k : Nat} {f : Nat → Value} {e : TypeId} (v : Value) (h : w.heap[b]? = some (.cells #[f 0, f 1] e (0, 0))) (hk : k < 2) : (w.setCell ⟨b, k, none⟩ v).heap[b]? = some (.cells #[setf f k v 0, setf f k v 1] e (0, 0)) := by
  rw [blk_set k v h]
  rcases two hk with e | e <;> (subst e; simp [setf])
/-- What was written to one grows. -/
theorem Dq.app (h : Dq w wx Hb Ab gs vs zs xs) {k : Nat} (hk2 : k < 2) {v' : Value} {ys : List Nat} (hg : wx.grownBy wy (vs k).ownBlock) (ho : wy.ownsRow w.heap.size 5 1 v' ys.length (bv ys)) (hn : v'.ownBlock = (vs k).ownBlock ∨ v'.ownBlock = some wx.heap.size) :
    Dq w (wy.setCell ⟨Ab, k, none⟩ v') Hb Ab gs (setf vs k v') zs (setf xs k ys) := by
  have hk : Kp (fun q => (vs k).ownBlock = some q) wx wy := (Kp.refl _ _).grown hg (fun k _ h => h)
  have lo : ∀ q, (vs k).ownBlock = some q → w.heap.size ≤ q := fun q hq => ((h.a k hk2).lt q hq).1
  have p0 := h.p0
  have ba := h.ba
  have hab : wy.heap[Ab]? = some (.cells #[vs 0, vs 1] 39 (0, 0)) := (hk.block Ab (blk_lt h.ab) (fun e => own_not (h.a k hk2) h.ab (by decide) e)).trans h.ab
  have hhb : wy.heap[Hb]? = _ := (hk.block Hb (blk_lt h.hb) (fun e => own_not (h.a k hk2) h.hb (by decide) e)).trans h.hb
  have hc : Cb wy := h.c.kp hk (fun e => by have := lo 0 e; omega)
  have hs : Kp (fun q => q = Ab) wy (wy.setCell ⟨Ab, k, none⟩ v') := (Kp.refl _ _).setCell _ _ (fun _ => rfl)
  have hl : Below w.heap.size w wy := h.l.trans (hk.below h.l.size lo)
  have hh : ∀ j, j < 2 → HS wy (gs j) (zs j) := fun j hj => (h.h j hj).kp hk (fun e => own_not (h.a k hk2) (h.h j hj).b (by decide) e)
  have far : ∀ j q, j < 2 → j ≠ k → (vs j).ownBlock = some q → v'.ownBlock ≠ some q := fun j q hj hne hq e => by
    rcases hn with hn | hn
    · exact h.vne hk2 hj hne q hq (by rw [← hn]; exact e)
    · rw [hn] at e
      injection e with e
      have := ((h.a j hj).lt q hq).2
      omega
  have ha : ∀ j, j < 2 → wy.ownsRow w.heap.size 5 1 (setf vs k v' j) (setf xs k ys j).length (bv (setf xs k ys j)) := fun j hj => by
    by_cases e : j = k
    · subst e
      rw [setf_same, setf_same]
      exact ho
    · rw [setf_ne _ _ e, setf_ne _ _ e]
      exact hk.owns (h.a j hj) (fun q hq e' => h.vne hk2 hj e q hq e')
  refine ⟨hc.kp hs (fun e => by omega), hl.trans (hs.below hl.size (fun q e => by omega)), (hs.block Hb (blk_lt hhb) (blk_ne hhb hab (by decide))).trans hhb, blk_two v' hab hk2, fun j hj => (hh j hj).kp hs (fun e => blk_ne (hh j hj).b hab (by decide) e),
    fun j hj => hs.owns (ha j hj) (fun q hq e => own_not (ha j hj) hab (by decide) (by rw [← e]; exact hq)), h.n, fun q hq => ?_, h.bg, h.bh, h.ba, h.p0⟩
  by_cases e0 : 0 = k
  · subst e0
    rw [setf_same] at hq
    rw [setf_ne _ _ (by decide)]
    exact fun e => far 1 q (by omega) (by omega) e hq
  · have e1 : 1 = k := by omega
    subst e1
    rw [setf_ne _ _ (by decide)] at hq
    rw [setf_same]
    exact far 0 q (by omega) (by omega) hq
/-- One is given up for a new one. -/
theorem Dq.newh (h : Dq w wx Hb Ab gs vs zs xs) {k g : Nat} (hk2 : k < 2) (hb : Below wx.heap.size wx wy) (hg : wx.heap.size ≤ g) (hh : HS wy g []) : Dq w (wy.setCell ⟨Hb, k, none⟩ (.pointer (some ⟨g, 0, none⟩))) Hb Ab (setf gs k g) vs (setf zs k []) xs := by
  have h1 := h.below hb
  have p0 := h.p0
  have bh := h.bh
  have hs : Kp (fun q => q = Hb) wy (wy.setCell ⟨Hb, k, none⟩ (.pointer (some ⟨g, 0, none⟩))) := (Kp.refl _ _).setCell _ _ (fun _ => rfl)
  have glt : ∀ j, j < 2 → gs j < wx.heap.size := fun j hj => blk_lt (h.h j hj).b
  refine ⟨h1.c.kp hs (fun e => by omega), h1.l.trans (hs.below h1.l.size (fun q e => by omega)), ?_, (hs.block Ab (blk_lt h1.ab) (fun e => blk_ne h1.ab h1.hb (by decide) e)).trans h1.ab, fun j hj => ?_, fun j hj => hs.owns (h1.a j hj) (fun q hq e => own_not (h1.a j hj) h1.hb (by decide) (by rw [← e]; exact hq)), ?_, h.va, fun j hj => ?_, h.bh, h.ba, h.p0⟩
  · have e := blk_two (f := fun j => .pointer (some ⟨gs j, 0, none⟩)) (.pointer (some ⟨g, 0, none⟩)) h1.hb hk2
    rw [e]
    rcases two hk2 with e | e <;> (subst e; simp [setf])
  · by_cases e : j = k
    · subst e
      rw [setf_same, setf_same]
      exact hh.kp hs (fun e => blk_ne hh.b h1.hb (by decide) e)
    · rw [setf_ne _ _ e, setf_ne _ _ e]
      exact (h1.h j hj).kp hs (fun e => blk_ne (h1.h j hj).b h1.hb (by decide) e)
  · have g0 := glt 0 (by omega)
    have g1 := glt 1 (by omega)
    rcases two hk2 with e | e <;> (subst e; simp [setf]; omega)
  · have := h.l.size
    unfold setf
    split
    · omega
    · exact h.bg j hj
/-- What was written to one is given up. -/
theorem Dq.nil (h : Dq w wx Hb Ab gs vs zs xs) {k : Nat} (hk2 : k < 2) : Dq w (wx.setCell ⟨Ab, k, none⟩ (.slice none 0 0)) Hb Ab gs (setf vs k (.slice none 0 0)) zs (setf xs k []) := by
  have p0 := h.p0
  have ba := h.ba
  have hs : Kp (fun q => q = Ab) wx (wx.setCell ⟨Ab, k, none⟩ (.slice none 0 0)) := (Kp.refl _ _).setCell _ _ (fun _ => rfl)
  refine ⟨h.c.kp hs (fun e => by omega), h.l.trans (hs.below h.l.size (fun q e => by omega)), (hs.block Hb (blk_lt h.hb) (fun e => blk_ne h.hb h.ab (by decide) e)).trans h.hb, blk_two _ h.ab hk2, fun j hj => (h.h j hj).kp hs (fun e => blk_ne (h.h j hj).b h.ab (by decide) e), fun j hj => ?_, h.n, fun q hq => ?_, h.bg, h.bh, h.ba, h.p0⟩
  · by_cases e : j = k
    · subst e
      rw [setf_same, setf_same]
      exact ⟨rfl, .inl ⟨rfl, rfl⟩⟩
    · rw [setf_ne _ _ e, setf_ne _ _ e]
      exact hs.owns (h.a j hj) (fun q hq e => own_not (h.a j hj) h.ab (by decide) (by rw [← e]; exact hq))
  · rcases two hk2 with e | e
    · subst e
      rw [setf_same] at hq
      cases hq
    · subst e
      rw [setf_same]
      simp [Value.ownBlock]
end
end
section
open Go.RowKit

set_option maxRecDepth 1000000 in
set_option maxHeartbeats 400000 in
/-- What was lent is written over. -/
theorem over_any {w : World} {base g cap : Nat} {xs : List Nat} (h : Lnt w base g cap xs) :
    Calls Tryd.prog 21 #[.slice (some ⟨g, 0, none⟩) xs.length cap] w fun e w' => e = .returned (.tuple #[]) ∧ Lnt w' base g cap (List.replicate xs.length 238) ∧ Kp (fun k => k = g) w w' := by
  have HH := hide h
  have hmx : xs.length ≤ 9223372036854775807 := by have := h.len; omega
  clear h
  have HLE : Hid ((List.replicate xs.length 238).length = xs.length) := by show _ = _; simp
  have HGD : Hid (∀ k, k < xs.length → (List.replicate xs.length 238).getD k 0 = 238) := fun k hk => by simp [List.getD, hk]
  have HYB : Hid (∀ y ∈ List.replicate xs.length 238, y < 256) := fun y hy => by have := List.eq_of_mem_replicate hy; omega
  generalize List.replicate xs.length 238 = ys at *
  go_enter Tryd.func21, Tryd.ntmps21
  go_wp2
  go_loopw [2] (fun i wr => ∃ k : Nat, k ≤ xs.length ∧ i = .int .i64 k ∧ wr.ownsRow base 5 1 (.slice (some ⟨g, 0, none⟩) (xs.length + 70) cap) (xs.length + 70) (bv (ys.take k ++ xs.drop k ++ marks)) ∧ Kp (fun q => q = g) w wr) (fun i _ => xs.length - (intOf i).toNat)
  case atStart => exact ⟨0, Nat.zero_le _, rfl, by simpa using HH.out.own, Kp.refl _ _⟩
  case round =>
    obtain ⟨k, hk, rfl, hown, hkp⟩ := hrel
    have HO := hide hown
    have HK := hide hkp
    clear hown hkp
    by_cases hlt : k < xs.length
    · have hlt' : (k : Int) < (xs.length : Int) := by omega
      have hlty : k < ys.length := by have := HLE.out; omega
      have hget : (bv (ys.take k ++ xs.drop k ++ marks))[k]? = some (.int .u8 ((xs.getD k 0 : Nat) : Int)) := by
        have hl : k < (ys.take k ++ xs.drop k ++ marks).length := by simp [marks]; omega
        rw [bv_get hl]
        congr 3
        have hl2 : (ys.take k).length = k := by rw [List.length_take]; omega
        rw [List.append_assoc]
        simp only [List.getD]
        rw [List.getElem?_append_right (by omega), hl2, Nat.sub_self, List.getElem?_append_left (by rw [List.length_drop]; omega)]
        simp
      obtain ⟨cg, fg⟩ := own_cell HO.out hget
      have hset := into_set xs ys k hlt hlty
      rw [HGD.out k hlt] at hset
      have HSE := hide hset
      clear hset hget
      generalize xs.getD k 0 = old at *
      go_wp2
      go_roundw
      case rel => exact ⟨k + 1, by omega, by go_num, by rw [← HSE.out]; exact own_set _ HO.out, HK.out.setCell _ _ (fun _ => rfl)⟩
      case measure => simp [intOf]; omega
    · have hlt' : ¬ (k : Int) < (xs.length : Int) := by omega
      go_wp2
      go_end0
      refine ⟨rfl, ⟨?_, HYB.out, by rw [HLE.out]; exact HH.out.len⟩, HK.out⟩
      have h := HO.out
      rw [List.take_of_length_le (by have := HLE.out; omega), List.drop_of_length_le (by omega), List.append_nil] at h
      rw [HLE.out]
      exact h
end
section
open Go.RowKit Go

/-- A slice of things to do. -/
structure OpsIn (w : World) (v : Value) (len : Nat) : Prop where
  form : ∃ a cap, v = .slice a len cap ∧ (len = 0 ∨ ∃ b off, a = some ⟨b, off, none⟩ ∧ ∀ i, i < len → ∃ (on d : Int) (u : Value) (ys : List Nat), w.cell? ⟨b, off + i * 3, none⟩ = some (.int .i64 on) ∧ w.cell? ⟨b, off + i * 3 + 1, none⟩ = some (.int .i64 d) ∧ w.cell? ⟨b, off + i * 3 + 2, none⟩ = some u ∧ BSl w u ys ∧ ys.length ≤ 140737488351232)
  max : len ≤ 9223372036854775807
theorem OpsIn.row {w : World} {a : Option Addr} {len cap : Nat} (h : OpsIn w (.slice a len cap) len) (hl : 0 < len) : ∃ b off, a = some ⟨b, off, none⟩ ∧ ∀ i, i < len → ∃ (on d : Int) (u : Value) (ys : List Nat), w.cell? ⟨b, off + i * 3, none⟩ = some (.int .i64 on) ∧ w.cell? ⟨b, off + i * 3 + 1, none⟩ = some (.int .i64 d) ∧ w.cell? ⟨b, off + i * 3 + 2, none⟩ = some u ∧ BSl w u ys ∧ ys.length ≤ 140737488351232 := by
  obtain ⟨⟨a', cap', hv, hr⟩, _⟩ := h
  injection hv with h1 h2 h3
  subst h1
  rcases hr with hr | hr
  · omega
  · exact hr

theorem dq_start {w w3 : World} {g0 g1 : Nat} (hc : Cb w3) (hl : Below w.heap.size w w3) (h0 : HS w3 g0 []) (h1 : HS w3 g1 []) (hn : g0 ≠ g1) (b0 : w.heap.size ≤ g0) (b1 : w.heap.size ≤ g1) (p0 : 0 < w.heap.size) :
    Dq w (((w3.alloc (.cells #[.pointer (some ⟨g0, 0, none⟩), .pointer (some ⟨g1, 0, none⟩)] 38)).alloc (.cells #[.slice none 0 0, .slice none 0 0] 39)).alloc (.cells #[.slice none 0 0, .slice none 0 0] 26)) w3.heap.size (w3.heap.size + 1) (fun k => if k = 0 then g0 else g1) (fun _ => .slice none 0 0) (fun _ => []) (fun _ => []) ∧
    Plf (((w3.alloc (.cells #[.pointer (some ⟨g0, 0, none⟩), .pointer (some ⟨g1, 0, none⟩)] 38)).alloc (.cells #[.slice none 0 0, .slice none 0 0] 39)).alloc (.cells #[.slice none 0 0, .slice none 0 0] 26)) w.heap.size (w3.heap.size + 1 + 1) (foot w.heap.size w3.heap.size (w3.heap.size + 1) (fun k => if k = 0 then g0 else g1) (fun _ => .slice none 0 0)) := by
  have hsz := hl.size
  have l0 := blk_lt h0.b
  have l1 := blk_lt h1.b
  have ba := below_alloc w3 (.cells #[.pointer (some ⟨g0, 0, none⟩), .pointer (some ⟨g1, 0, none⟩)] 38)
  have ha := heap_alloc_new w3 (.cells #[.pointer (some ⟨g0, 0, none⟩), .pointer (some ⟨g1, 0, none⟩)] 38)
  have sa : (w3.alloc (.cells #[.pointer (some ⟨g0, 0, none⟩), .pointer (some ⟨g1, 0, none⟩)] 38)).heap.size = w3.heap.size + 1 := by simp
  generalize w3.alloc (.cells #[.pointer (some ⟨g0, 0, none⟩), .pointer (some ⟨g1, 0, none⟩)] 38) = wa at *
  have bb := below_alloc wa (.cells #[.slice none 0 0, .slice none 0 0] 39)
  have hb := heap_alloc_new wa (.cells #[.slice none 0 0, .slice none 0 0] 39)
  have sb : (wa.alloc (.cells #[.slice none 0 0, .slice none 0 0] 39)).heap.size = w3.heap.size + 1 + 1 := by simp [sa]
  generalize wa.alloc (.cells #[.slice none 0 0, .slice none 0 0] 39) = wb at *
  have bc := below_alloc wb (.cells #[.slice none 0 0, .slice none 0 0] 26)
  have hp := heap_alloc_new wb (.cells #[.slice none 0 0, .slice none 0 0] 26)
  generalize wb.alloc (.cells #[.slice none 0 0, .slice none 0 0] 26) = wc at *
  rw [sa] at bb hb
  rw [sb] at bc hp
  have b3 : Below w3.heap.size w3 wc := (ba.trans (bb.mono (by omega))).trans (bc.mono (by omega))
  refine ⟨⟨hc.below b3, hl.trans (b3.mono hsz), ?_, ?_, fun k hk => ?_, fun k hk => ⟨rfl, .inl ⟨rfl, rfl⟩⟩, by simpa using hn, fun q hq => by simp [Value.ownBlock], fun k hk => ?_, hsz, by omega, p0⟩, ?_, by omega, .inl hp⟩
  · exact (bc.block _ (by omega)).trans ((bb.block _ (by omega)).trans ha)
  · exact (bc.block _ (by omega)).trans hb
  · rcases two hk with e | e
    · subst e
      exact h0.below b3
    · subst e
      exact h1.below b3
  · rcases two hk with e | e
    · subst e
      exact b0
    · subst e
      exact b1
  · refine ⟨by omega, by omega, by omega, fun k hk => ?_, fun k hk => by simp [Value.ownBlock]⟩
    rcases two hk with e | e
    · subst e
      show _ ≠ g0
      omega
    · subst e
      show _ ≠ g1
      omega

theorem same3q (w : World) (D : List Nat) (h : D.length = 32) : Calls Tryd.prog 12 #[.agg (bv D).toArray, .agg (bv D).toArray] w fun e w' => e = .returned (.bool true) ∧ Below w.heap.size w w' := by
  have h := same3l_any w D D h h
  simpa using h
theorem foot_newh {wx wy : World} {B P Hb Ab k g : Nat} {gs : Nat → Nat} {vs : Nat → Value} {x : Value} (h : Plf wx B P (foot B Hb Ab gs vs)) (hb : Below wx.heap.size wx wy) (hg : wx.heap.size ≤ g) : Plf (wy.setCell ⟨Hb, k, none⟩ x) B P (foot B Hb Ab (setf gs k g) vs) := by
  have h1 : Plf wx B P (fun q => foot B Hb Ab gs vs q ∧ q < wx.heap.size) := h.foot (fun q h1 h2 => ⟨h1, h2⟩)
  have h2 := (h1.below hb).kp ((Kp.refl (fun q => q = Hb) wy).setCell ⟨Hb, k, none⟩ x (fun _ => rfl)) (fun q h e => h.1.2.1 e)
  refine h2.foot (fun q hq _ => ⟨hq.1.1, hq.1.2.1, hq.1.2.2.1, fun j hj => ?_, hq.1.2.2.2.2⟩)
  by_cases e : j = k
  · subst e
    rw [setf_same]
    have := hq.2
    omega
  · rw [setf_ne _ _ e]
    exact hq.1.2.2.2.1 j hj
theorem foot_nil {wx : World} {B P Hb Ab k : Nat} {gs : Nat → Nat} {vs : Nat → Value} {x : Value} (h : Plf wx B P (foot B Hb Ab gs vs)) : Plf (wx.setCell ⟨Ab, k, none⟩ x) B P (foot B Hb Ab gs (setf vs k (.slice none 0 0))) := by
  have h2 := h.kp ((Kp.refl (fun q => q = Ab) wx).setCell ⟨Ab, k, none⟩ x (fun _ => rfl)) (fun q h e => h.2.2.1 e)
  refine h2.foot (fun q hq _ => ⟨hq.1, hq.2.1, hq.2.2.1, hq.2.2.2.1, fun j hj => ?_⟩)
  by_cases e : j = k
  · subst e
    rw [setf_same]
    simp [Value.ownBlock]
  · rw [setf_ne _ _ e]
    exact hq.2.2.2.2 j hj
theorem foot_app {wx wy : World} {B P Hb Ab k : Nat} {gs : Nat → Nat} {vs : Nat → Value} {v' : Value} (h : Plf wx B P (foot B Hb Ab gs vs)) (hk2 : k < 2) (hg : wx.grownBy wy (vs k).ownBlock) (hn : v'.ownBlock = (vs k).ownBlock ∨ v'.ownBlock = some wx.heap.size) : Plf (wy.setCell ⟨Ab, k, none⟩ v') B P (foot B Hb Ab gs (setf vs k v')) := by
  have h1 : Plf wx B P (fun q => foot B Hb Ab gs vs q ∧ q < wx.heap.size) := h.foot (fun q h1 h2 => ⟨h1, h2⟩)
  have h2 := h1.kp ((Kp.refl (fun q => (vs k).ownBlock = some q) wx).grown hg (fun k _ h => h)) (fun q h e => h.1.2.2.2.2 k hk2 e)
  have h3 := h2.kp ((Kp.refl (fun q => q = Ab) wy).setCell ⟨Ab, k, none⟩ v' (fun _ => rfl)) (fun q h e => h.1.2.2.1 e)
  refine h3.foot (fun q hq _ => ⟨hq.1.1, hq.1.2.1, hq.1.2.2.1, hq.1.2.2.2.1, fun j hj => ?_⟩)
  by_cases e : j = k
  · subst e
    rw [setf_same]
    rcases hn with hn | hn
    · rw [hn]
      exact hq.1.2.2.2.2 j hj
    · rw [hn]
      intro e
      injection e with e
      have := hq.2
      omega
  · rw [setf_ne _ _ e]
    exact hq.1.2.2.2.2 j hj
theorem foot_new {w wx : World} {Hb Ab : Nat} {gs : Nat → Nat} {vs : Nat → Value} {zs xs : Nat → List Nat} (h : Dq w wx Hb Ab gs vs zs xs) {q : Nat} (hq : wx.heap.size ≤ q) : foot w.heap.size Hb Ab gs vs q :=
  ⟨Nat.le_trans h.l.size hq, by have := blk_lt h.hb; omega, by have := blk_lt h.ab; omega, fun k hk => by have := blk_lt (h.h k hk).b; omega, fun k hk e => by have := ((h.a k hk).lt q e).2; omega⟩

set_option maxRecDepth 1000000 in
set_option maxHeartbeats 4000000 in
theorem parts_any (w : World) (a : Option Addr) (len cap : Nat) (hcb : Cb w) (h : OpsIn w (.slice a len cap) len) :
    Calls Tryd.prog 4 #[.slice a len cap] w fun e w' => e = .returned (.bool true) ∧ Below w.heap.size w w' := by
  have HCB := hide hcb
  have HO := hide h
  have hmx := h.max
  clear hcb h
  go_enter Tryd.func4, Tryd.ntmps4
  go_wp2_with fail
  refine (begun_any w HCB.out).mono ?_
  rintro e w1 ⟨rfl, hb1⟩
  have HC1 := hide (HCB.out.below hb1)
  have HB1 := hide hb1
  clear hb1
  go_wp2_with fail
  refine (new_any w1).mono ?_
  rintro e w2 ⟨g0, rfl, hg0, hh0, hb2⟩
  have HH0 := hide hh0
  have HG0 := hide hg0
  have HB2 := hide hb2
  clear hg0 hh0 hb2
  go_wp2_with fail
  refine (new_any w2).mono ?_
  rintro e w3 ⟨g1, rfl, hg1, hh1, hb3⟩
  have HH1 := hide hh1
  have HG1 := hide hg1
  have HB3 := hide hb3
  clear hg1 hh1 hb3
  go_wp2_with fail
  have hb13 : Below w1.heap.size w1 w3 := HB2.out.trans (HB3.out.mono HB2.out.size)
  have hl3 : Below w.heap.size w w3 := HB1.out.trans (hb13.mono HB1.out.size)
  have e0 := HG0.out
  have e1 := HG1.out
  have e2 := HB1.out.size
  have e3 := HB2.out.size
  have e4 := blk_lt HH0.out.b
  have HS0 := hide (dq_start (w := w) (w3 := w3) (g0 := g0) (g1 := g1) (HC1.out.below hb13) hl3 (HH0.out.below HB3.out) HH1.out (by omega) (by omega) (by omega) HCB.out.pos)
  clear hb13 hl3 e0 e1 e2 e3 e4
  clear HC1 HB1 HB2 HB3 HH0 HH1 HG0 HG1
  generalize ((w3.alloc (.cells #[.pointer (some ⟨g0, 0, none⟩), .pointer (some ⟨g1, 0, none⟩)] 38)).alloc (.cells #[.slice none 0 0, .slice none 0 0] 39)).alloc (.cells #[.slice none 0 0, .slice none 0 0] 26) = w4 at *
  generalize w3.heap.size = Hb at *
  generalize Hb + 1 = Ab at *
  generalize Ab + 1 = P at *
  go_loopw [6] (fun ii wx => ∃ (i : Nat) (gs : Nat → Nat) (vs : Nat → Value) (xs : Nat → List Nat), i ≤ len ∧ i ≤ 2000 ∧ (xs 0).length + (xs 1).length ≤ 65536 ∧ ii = .int .i64 (i : Nat) ∧ Hid (∀ k, k < 2 → ∀ x ∈ xs k, x < 256) ∧ Hid (Dq w wx Hb Ab gs vs xs xs) ∧ Hid (Plf wx w.heap.size P (foot w.heap.size Hb Ab gs vs))) (fun ii _ => 2000 - (intOf ii).toNat)
  case atStart => exact ⟨0, _, _, _, by omega, by omega, by simp, rfl, (fun k hk x hx => by simp at hx), HS0.out.1, HS0.out.2⟩
  case round =>
    obtain ⟨i, gs, vs, xs, hi, hi2, hxs, rfl, HY, HD, HP⟩ := hrel
    clear HS0
    by_cases hil : i < len ∧ i < 2000
    · obtain ⟨hil, hi2000⟩ := hil
      have r1 : (i : Int) < (len : Int) := by omega
      have r2 : (i : Int) < 2000 := by omega
      obtain ⟨b, off, rfl, hrow⟩ := HO.out.row (by omega)
      obtain ⟨on, d, u, ys, hc0, hc1, hc2, hbu, hyl⟩ := hrow i hil
      have HC2 := hide hc2
      have HU0 := hide hbu
      have HYL := hide hyl
      obtain ⟨k, hkb, hk2⟩ := and1_ex on
      have c0 : wr.cell? ⟨b, off + i * 3, none⟩ = some (.int .i64 on) := keep_below HD.out.l _ _ hc0
      have c1 : wr.cell? ⟨b, off + i * 3 + 1, none⟩ = some (.int .i64 d) := keep_below HD.out.l _ _ hc1
      have c2 : wr.cell? ⟨b, off + i * 3 + 2, none⟩ = some u := keep_below HD.out.l _ _ hc2
      have hmy := hbu.max
      obtain ⟨⟨au, cau, hu, hnu, hcau⟩, hmu, hbyu⟩ := hbu
      subst hu
      clear hcau hbyu hnu hrow hc0 hc1 hc2
      have hk2i : (k : Int) < 2 := by omega
      have qh : wr.cell? ⟨Hb, k, none⟩ = some (.pointer (some ⟨gs k, 0, none⟩)) := HD.out.hcell hk2
      have qa : wr.cell? ⟨Ab, k, none⟩ = some (vs k) := HD.out.acell hk2
      have hxk : (xs k).length ≤ 65536 := by rcases two hk2 with e | e <;> (subst e; omega)
      by_cases hd1 : d = 1
      · subst hd1
        go_wp2_with fail
        obtain ⟨a0, d0, hv0, _, hm0, _⟩ := own_form (HD.out.a 0 (by decide))
        obtain ⟨a1, d1, hv1, _, hm1, _⟩ := own_form (HD.out.a 1 (by decide))
        have qa0 : wr.cell? ⟨Ab, 0, none⟩ = some (.slice a0 (xs 0).length d0) := by rw [← hv0]; exact HD.out.acell (by decide)
        have qa1 : wr.cell? ⟨Ab, 1, none⟩ = some (.slice a1 (xs 1).length d1) := by rw [← hv1]; exact HD.out.acell (by decide)
        have HV0 := hide hv0
        have HV1 := hide hv1
        have hyl2 := HYL.out
        have s1 : IntKind.i64.wrap (((xs 0).length : Int) + ((xs 1).length : Int)) = ((xs 0).length : Int) + ((xs 1).length : Int) := by rw [IntKind.wrap_i64]; omega
        have s2 : IntKind.i64.wrap (((xs 0).length : Int) + ((xs 1).length : Int) + (ys.length : Int)) = ((xs 0).length : Int) + ((xs 1).length : Int) + (ys.length : Int) := by rw [IntKind.wrap_i64]; omega
        clear hv0 hv1
        by_cases hsz : 65536 < (xs 0).length + (xs 1).length + ys.length
        · have g3 : (65536 : Int) < ((xs 0).length : Int) + ((xs 1).length : Int) + (ys.length : Int) := by omega
          go_quiet (fail)
          go_wp2_with fail
          go_roundw
          case rel => exact ⟨i + 1, gs, vs, xs, by omega, by omega, hxs, by go_num, HY, HD.out.kp ((Kp.refl (fun _ => False) _).drewN _) (fun _ e => e.elim), HP.out.kp ((Kp.refl (fun _ => False) _).drewN _) (fun _ _ e => e)⟩
          case measure => simp [intOf]; omega
        · have g3 : ¬ (65536 : Int) < ((xs 0).length : Int) + ((xs 1).length : Int) + (ys.length : Int) := by omega
          go_quiet (fail)
          have HDq := hide (HD.out.kp ((Kp.refl (fun _ => False) wr).drewN nq) (fun _ e => e.elim))
          have HPq := hide (HP.out.kp ((Kp.refl (fun _ => False) wr).drewN nq) (fun _ _ e => e))
          have HSX : Hid ((xs k).length + ys.length ≤ 140737488355328) := by show _ ≤ _; omega
          have HPK : Hid (0 < gs k) := Nat.lt_of_lt_of_le HD.out.p0 (HD.out.bg k hk2)
          clear qh qa qa0 qa1 s1 s2 g3 c0 c1 c2 HD HP HV0 HV1
          generalize wr.drewN nq = w5 at *
          have c2 : w5.cell? ⟨b, off + i * 3 + 2, none⟩ = some (.slice au ys.length cau) := keep_below HDq.out.l _ _ HC2.out
          go_wp2_with fail
          refine (pbytes_f w5 w.heap.size P _ _ ys HPq.out HDq.out.l.size HYL.out (fun w' hb => HU0.out.move (keep_below (HDq.out.l.trans hb)))).mono ?_
          rintro e w6 ⟨vb, rfl, hq6, hk6⟩
          have HD6 := hide (HDq.out.kp hk6 (fun q h => h))
          have HQ6 : Hid (Plq w6 w.heap.size P (foot w.heap.size Hb Ab gs vs) vb ys) := hq6.foot (fun q h _ => h.elim id (fun hge => foot_new HDq.out hge))
          clear hq6 hk6 c2 HDq HPq
          by_cases hpar : i % 2 = 0
          · have g4 : ((i : Int) % 2 == 0) = true := beq_iff_eq.2 (by omega)
            have c2 : w6.cell? ⟨b, off + i * 3 + 2, none⟩ = some (.slice au ys.length cau) := keep_below HD6.out.l _ _ HC2.out
            go_wp2_with fail
            refine (lend_any w6 _ ys (HU0.out.move (keep_below HD6.out.l)) HYL.out).mono ?_
            rintro e w7 ⟨gx, cx, rfl, ho7, hb7⟩
            have HL7 : Hid (Lnt w7 w6.heap.size gx cx ys) := ⟨ho7, HU0.out.byte, HYL.out⟩
            have hgx : w6.heap.size ≤ gx := (ho7.lt gx rfl).1
            have HGX : Hid (foot w.heap.size Hb Ab gs vs gx) := foot_new HD6.out hgx
            have HD7 := hide (HD6.out.below hb7)
            have HP7 : Hid (Plf w7 w.heap.size P (fun q => foot w.heap.size Hb Ab gs vs q ∧ q ≠ gx)) := (HQ6.out.plf.foot (fun q h hl => ⟨h, by omega⟩)).below hb7
            clear ho7 hb7 hgx c2 HQ6 HD6
            have qh := HD7.out.hcell hk2
            go_wp2_with fail
            refine (write_any w7 (gs k) _ (xs k) ys HD7.out.c HPK.out (HD7.out.h k hk2) (HY.out k hk2) HL7.out.bsl (fun _ e => HGX.out.2.2.2.1 k hk2 (Option.some.inj e)) HSX.out).mono ?_
            rintro e w8 ⟨rfl, hh8, hk8⟩
            have HD8 := hide (HD7.out.write hk2 hk8 hh8)
            have HL8 := hide (HL7.out.kp hk8 (fun e => HGX.out.2.2.2.1 k hk2 e))
            have HP8 := hide (HP7.out.kp hk8 (fun q h e => h.1.2.2.2.1 k hk2 e))
            clear hh8 hk8 qh HD7 HL7 HP7
            have c2 : w8.cell? ⟨b, off + i * 3 + 2, none⟩ = some (.slice au ys.length cau) := keep_below HD8.out.l _ _ HC2.out
            go_wp2_with fail
            refine (eq_same _ _ _ ys HL8.out.bsl (HU0.out.move (keep_below HD8.out.l))).mono ?_
            rintro e w9 ⟨rfl, hb9⟩
            have HD9 := hide (HD8.out.below hb9)
            have HL9 := hide (HL8.out.belowq hb9)
            have HP9 := hide (HP8.out.below hb9)
            clear hb9 c2 HD8 HL8 HP8
            have c2 : w9.cell? ⟨b, off + i * 3 + 2, none⟩ = some (.slice au ys.length cau) := keep_below HD9.out.l _ _ HC2.out
            go_wp2_with fail
            refine (intactq HL9.out _ (HU0.out.move (keep_below HD9.out.l))).mono ?_
            rintro e wa ⟨rfl, hba⟩
            have HDa := hide (HD9.out.below hba)
            have HLa := hide (HL9.out.belowq hba)
            have HPa := hide (HP9.out.below hba)
            clear hba c2 HD9 HL9 HP9
            go_wp2_with fail
            refine (over_any HLa.out).mono ?_
            rintro e wb ⟨rfl, hlb, hkb⟩
            have HDb := hide (HDa.out.kp hkb (fun q e => by rw [e]; exact HGX.out))
            have HPb : Hid (Plf wb w.heap.size P (foot w.heap.size Hb Ab gs vs)) := (HPa.out.kp hkb (fun q h e => h.2 e)).foot (fun q h _ => h.1)
            clear hlb hkb HDa HLa HPa
            have HSZ : Hid ((xs k).length + ys.length ≤ 140737488355328) := by show _ ≤ _; omega
            obtain ⟨av, cv, hvk, _⟩ := own_form (HDb.out.a k hk2)
            have HDr := hide (HDb.out.below ((Below.refl wb.heap.size wb).drew))
            have HPr := hide (HPb.out.below ((Below.refl wb.heap.size wb).drew))
            have HUr : Hid (BSl wb.drew (.slice au ys.length cau) ys) := HU0.out.move (keep_below HDr.out.l)
            have HOr : Hid (wb.drew.ownsRow w.heap.size 5 1 (.slice av (xs k).length cv) (xs k).length (bv (xs k))) := by show World.ownsRow _ _ _ _ _ _ _; rw [← hvk]; exact HDr.out.a k hk2
            have qa : wb.cell? ⟨Ab, k, none⟩ = some (.slice av (xs k).length cv) := by rw [← hvk]; exact HDb.out.acell hk2
            have c2 : wb.cell? ⟨b, off + i * 3 + 2, none⟩ = some (.slice au ys.length cau) := keep_below HDb.out.l _ _ HC2.out
            have HVK := hide hvk
            clear hvk
            go_wp2_with fail
            refine heldStartN (S := fun w' => Below w.heap.size w w') 12 rfl (by kernel_rfl) ?_
            have hS : Below w.heap.size w wb.drew := HDr.out.l
            refine heldTake 0 _ rfl (by kernel_rfl) (by kernel_rfl) (by kernel_rfl) (fun _ _ _ h => h) rfl hS (fun wy hy => by first | (go_simp; done) | (go_simp; rfl) | rfl) ?_
            (try simp only [Act.put]); (try simp only [List.setIfInBounds_toArray, List.set_cons_zero, List.set_cons_succ])
            refine heldTake 1 _ rfl (by kernel_rfl) (by kernel_rfl) (by kernel_rfl) (fun _ _ _ h => h) rfl hS (fun wy hy => by first | (go_simp; done) | (go_simp; rfl) | rfl) ?_
            (try simp only [Act.put]); (try simp only [List.setIfInBounds_toArray, List.set_cons_zero, List.set_cons_succ])
            refine heldTake 2 _ rfl (by kernel_rfl) (by kernel_rfl) (by kernel_rfl) (fun _ _ _ h => h) rfl hS (fun wy hy => by first | (go_simp; done) | (go_simp; rfl) | rfl) ?_
            (try simp only [Act.put]); (try simp only [List.setIfInBounds_toArray, List.set_cons_zero, List.set_cons_succ])
            refine heldTake 4 _ rfl (by kernel_rfl) (by kernel_rfl) (by kernel_rfl) (fun _ _ _ h => h) rfl hS (fun wy hy => by first | (go_simp; done) | (go_simp; rfl) | rfl) ?_
            (try simp only [Act.put]); (try simp only [List.setIfInBounds_toArray, List.set_cons_zero, List.set_cons_succ])
            refine heldTake 5 _ rfl (by kernel_rfl) (by kernel_rfl) (by kernel_rfl) (fun _ _ _ h => h) rfl hS (fun wy hy => by first | (go_simp; done) | (go_simp; rfl) | rfl) ?_
            (try simp only [Act.put]); (try simp only [List.setIfInBounds_toArray, List.set_cons_zero, List.set_cons_succ])
            refine heldTake 6 _ rfl (by kernel_rfl) (by kernel_rfl) (by kernel_rfl) (fun _ _ _ h => h) rfl hS (fun wy hy => by first | (go_simp; done) | (go_simp; rfl) | rfl) ?_
            (try simp only [Act.put]); (try simp only [List.setIfInBounds_toArray, List.set_cons_zero, List.set_cons_succ])
            refine heldTake 7 _ rfl (by kernel_rfl) (by kernel_rfl) (by kernel_rfl) (fun _ _ _ h => h) rfl hS (fun wy hy => by first | (go_simp; done) | (go_simp; rfl) | rfl) ?_
            (try simp only [Act.put]); (try simp only [List.setIfInBounds_toArray, List.set_cons_zero, List.set_cons_succ])
            refine heldTake 8 _ rfl (by kernel_rfl) (by kernel_rfl) (by kernel_rfl) (fun _ _ _ h => h) rfl hS (fun wy hy => by have cu : wy.cell? ⟨b, off + i * 3 + 2, none⟩ = some (.slice au ys.length cau) := keep_below hy _ _ HC2.out; go_simp; rfl) ?_
            (try simp only [Act.put]); (try simp only [List.setIfInBounds_toArray, List.set_cons_zero, List.set_cons_succ])
            have qar : wb.drew.cell? ⟨Ab, k, none⟩ = some (.slice av (xs k).length cv) := qa
            refine heldStep 3 rfl (by kernel_rfl) (fun K hK => ?_)
            go_simp
            refine (Hid.out hK) _ _ hS (fun _ => ?_)
            clear hK K qa qar c2
            (try simp only [Act.put]); (try simp only [List.setIfInBounds_toArray, List.set_cons_zero, List.set_cons_succ])
            refine heldStep 9 rfl (by kernel_rfl) (fun K hK => ?_)
            refine step_append_bsl_at rfl (.tmp 109) (.tmp 114) rfl w.heap.size (.slice av (xs k).length cv) (xs k).length (xs k) rfl HOr.out (.slice au ys.length cau) ys rfl HUr.out HSZ.out HDr.out.l.size ?_
            intro v' w' r1 r2 r3
            obtain ⟨az, cz, hvz, _⟩ := own_form r1
            subst hvz
            rw [← HVK.out] at r2 r3
            have HDz := hide (HDr.out.app hk2 (ys := xs k ++ ys) r2 (by rw [List.length_append]; exact r1) r3)
            have HPz : Hid (Plf (w'.setCell ⟨Ab, k, none⟩ (.slice az ((xs k).length + ys.length) cz)) w.heap.size P (foot w.heap.size Hb Ab gs (setf vs k (.slice az ((xs k).length + ys.length) cz)))) := foot_app HPr.out hk2 r2 r3
            have hkz : Kp (fun q => (vs k).ownBlock = some q) wb.drew w' := (Kp.refl _ _).grown r2 (fun k _ h => h)
            have hab : w'.heap[Ab]? = some (.cells #[vs 0, vs 1] 39 (0, 0)) := (hkz.block Ab (blk_lt HDr.out.ab) (fun e => own_not (HDr.out.a k hk2) HDr.out.ab (by decide) e)).trans HDr.out.ab
            have qa : w'.cell? ⟨Ab, k, none⟩ = some (vs k) := by rcases two hk2 with e | e <;> (subst e; exact blk_cell hab rfl)
            have fa : w'.frozen? ⟨Ab, k, none⟩ = false := blk_frozen k hab
            have hxz : (setf xs k (xs k ++ ys) 0).length + (setf xs k (xs k ++ ys) 1).length ≤ 65536 := by rcases two hk2 with e | e <;> (subst e; simp [setf]; omega)
            have hS2 : Below w.heap.size w w' := HDr.out.l.trans (hkz.below HDr.out.l.size (fun q hq => ((HDr.out.a k hk2).lt q hq).1))
            clear r1 r2 r3 hkz hab hS
            refine (Hid.out hK) _ _ hS2 (fun _ => ?_)
            clear hK K
            (try simp only [Act.put]); (try simp only [List.setIfInBounds_toArray, List.set_cons_zero, List.set_cons_succ])
            refine heldTake 10 _ rfl (by kernel_rfl) (by kernel_rfl) (by kernel_rfl) (fun _ _ _ h => h) rfl hS2 (fun wy hy => by first | (go_simp; done) | (go_simp; rfl) | rfl) ?_
            (try simp only [Act.put]); (try simp only [List.setIfInBounds_toArray, List.set_cons_zero, List.set_cons_succ])
            refine heldStep 11 rfl (by kernel_rfl) (fun K hK => ?_)
            go_simp
            refine (Hid.out hK) _ _ HDz.out.l (fun _ => ?_)
            clear hK K
            (try simp only [Act.put]); (try simp only [List.setIfInBounds_toArray, List.set_cons_zero, List.set_cons_succ])
            refine heldDone (by kernel_rfl) ?_
            clear qa fa hS2
            go_wp2_with fail
            go_roundw
            case rel =>
              refine ⟨i + 1, gs, _, setf xs k (xs k ++ ys), by omega, by omega, hxz, by go_num, (fun j hj x hx => ?_), HDz, HPz⟩
              by_cases e : j = k
              · subst e
                rw [setf_same] at hx
                rcases List.mem_append.1 hx with h | h
                · exact HY.out j hj x h
                · exact HU0.out.byte x h
              · rw [setf_ne _ _ e] at hx
                exact HY.out j hj x hx
            case measure => simp [intOf]; omega
          · have g4 : ((i : Int) % 2 == 0) = false := beq_eq_false_iff_ne.2 (by omega)
            obtain ⟨avb, cvb, hvb, _⟩ := own_form HQ6.out.own
            subst hvb
            have qh := HD6.out.hcell hk2
            go_wp2_with fail
            refine (write_any w6 (gs k) _ (xs k) ys HD6.out.c HPK.out (HD6.out.h k hk2) (HY.out k hk2) (BSl.own HQ6.out.own HU0.out.byte) (fun _ e => (HQ6.out.blk _ e).2.2.2.1 k hk2 rfl) HSX.out).mono ?_
            rintro e w8 ⟨rfl, hh8, hk8⟩
            have HD8 := hide (HD6.out.write hk2 hk8 hh8)
            have HQ8 := hide (HQ6.out.kp hk8 (fun q h e => h.2.2.2.1 k hk2 e))
            clear hh8 hk8 qh HD6 HQ6
            have c2 : w8.cell? ⟨b, off + i * 3 + 2, none⟩ = some (.slice au ys.length cau) := keep_below HD8.out.l _ _ HC2.out
            go_wp2_with fail
            refine (eq_same _ _ _ ys (BSl.own HQ8.out.own HU0.out.byte) (HU0.out.move (keep_below HD8.out.l))).mono ?_
            rintro e w9 ⟨rfl, hb9⟩
            have HD9 := hide (HD8.out.below hb9)
            have HQ9 := hide (HQ8.out.below hb9)
            clear hb9 c2 HD8 HQ8
            go_wp2_with fail
            refine (overR_any HQ9.out.own HYL.out).mono ?_
            rintro e wb ⟨rfl, hob, hkb⟩
            have HDb := hide (HD9.out.kp hkb (fun q e => HQ9.out.blk q e))
            have HPb : Hid (Plf wb w.heap.size P (foot w.heap.size Hb Ab gs vs)) := (HQ9.out.over (ys := List.replicate ys.length 238) hkb (by rw [List.length_replicate]; exact hob)).plf
            clear hob hkb HD9 HQ9
            have HSZ : Hid ((xs k).length + ys.length ≤ 140737488355328) := by show _ ≤ _; omega
            obtain ⟨av, cv, hvk, _⟩ := own_form (HDb.out.a k hk2)
            have HDr := hide (HDb.out.below ((Below.refl wb.heap.size wb).drew))
            have HPr := hide (HPb.out.below ((Below.refl wb.heap.size wb).drew))
            have HUr : Hid (BSl wb.drew (.slice au ys.length cau) ys) := HU0.out.move (keep_below HDr.out.l)
            have HOr : Hid (wb.drew.ownsRow w.heap.size 5 1 (.slice av (xs k).length cv) (xs k).length (bv (xs k))) := by show World.ownsRow _ _ _ _ _ _ _; rw [← hvk]; exact HDr.out.a k hk2
            have qa : wb.cell? ⟨Ab, k, none⟩ = some (.slice av (xs k).length cv) := by rw [← hvk]; exact HDb.out.acell hk2
            have c2 : wb.cell? ⟨b, off + i * 3 + 2, none⟩ = some (.slice au ys.length cau) := keep_below HDb.out.l _ _ HC2.out
            have HVK := hide hvk
            clear hvk
            go_wp2_with fail
            refine heldStartN (S := fun w' => Below w.heap.size w w') 12 rfl (by kernel_rfl) ?_
            have hS : Below w.heap.size w wb.drew := HDr.out.l
            refine heldTake 0 _ rfl (by kernel_rfl) (by kernel_rfl) (by kernel_rfl) (fun _ _ _ h => h) rfl hS (fun wy hy => by first | (go_simp; done) | (go_simp; rfl) | rfl) ?_
            (try simp only [Act.put]); (try simp only [List.setIfInBounds_toArray, List.set_cons_zero, List.set_cons_succ])
            refine heldTake 1 _ rfl (by kernel_rfl) (by kernel_rfl) (by kernel_rfl) (fun _ _ _ h => h) rfl hS (fun wy hy => by first | (go_simp; done) | (go_simp; rfl) | rfl) ?_
            (try simp only [Act.put]); (try simp only [List.setIfInBounds_toArray, List.set_cons_zero, List.set_cons_succ])
            refine heldTake 2 _ rfl (by kernel_rfl) (by kernel_rfl) (by kernel_rfl) (fun _ _ _ h => h) rfl hS (fun wy hy => by first | (go_simp; done) | (go_simp; rfl) | rfl) ?_
            (try simp only [Act.put]); (try simp only [List.setIfInBounds_toArray, List.set_cons_zero, List.set_cons_succ])
            refine heldTake 4 _ rfl (by kernel_rfl) (by kernel_rfl) (by kernel_rfl) (fun _ _ _ h => h) rfl hS (fun wy hy => by first | (go_simp; done) | (go_simp; rfl) | rfl) ?_
            (try simp only [Act.put]); (try simp only [List.setIfInBounds_toArray, List.set_cons_zero, List.set_cons_succ])
            refine heldTake 5 _ rfl (by kernel_rfl) (by kernel_rfl) (by kernel_rfl) (fun _ _ _ h => h) rfl hS (fun wy hy => by first | (go_simp; done) | (go_simp; rfl) | rfl) ?_
            (try simp only [Act.put]); (try simp only [List.setIfInBounds_toArray, List.set_cons_zero, List.set_cons_succ])
            refine heldTake 6 _ rfl (by kernel_rfl) (by kernel_rfl) (by kernel_rfl) (fun _ _ _ h => h) rfl hS (fun wy hy => by first | (go_simp; done) | (go_simp; rfl) | rfl) ?_
            (try simp only [Act.put]); (try simp only [List.setIfInBounds_toArray, List.set_cons_zero, List.set_cons_succ])
            refine heldTake 7 _ rfl (by kernel_rfl) (by kernel_rfl) (by kernel_rfl) (fun _ _ _ h => h) rfl hS (fun wy hy => by first | (go_simp; done) | (go_simp; rfl) | rfl) ?_
            (try simp only [Act.put]); (try simp only [List.setIfInBounds_toArray, List.set_cons_zero, List.set_cons_succ])
            refine heldTake 8 _ rfl (by kernel_rfl) (by kernel_rfl) (by kernel_rfl) (fun _ _ _ h => h) rfl hS (fun wy hy => by have cu : wy.cell? ⟨b, off + i * 3 + 2, none⟩ = some (.slice au ys.length cau) := keep_below hy _ _ HC2.out; go_simp; rfl) ?_
            (try simp only [Act.put]); (try simp only [List.setIfInBounds_toArray, List.set_cons_zero, List.set_cons_succ])
            have qar : wb.drew.cell? ⟨Ab, k, none⟩ = some (.slice av (xs k).length cv) := qa
            refine heldStep 3 rfl (by kernel_rfl) (fun K hK => ?_)
            go_simp
            refine (Hid.out hK) _ _ hS (fun _ => ?_)
            clear hK K qa qar c2
            (try simp only [Act.put]); (try simp only [List.setIfInBounds_toArray, List.set_cons_zero, List.set_cons_succ])
            refine heldStep 9 rfl (by kernel_rfl) (fun K hK => ?_)
            refine step_append_bsl_at rfl (.tmp 109) (.tmp 114) rfl w.heap.size (.slice av (xs k).length cv) (xs k).length (xs k) rfl HOr.out (.slice au ys.length cau) ys rfl HUr.out HSZ.out HDr.out.l.size ?_
            intro v' w' r1 r2 r3
            obtain ⟨az, cz, hvz, _⟩ := own_form r1
            subst hvz
            rw [← HVK.out] at r2 r3
            have HDz := hide (HDr.out.app hk2 (ys := xs k ++ ys) r2 (by rw [List.length_append]; exact r1) r3)
            have HPz : Hid (Plf (w'.setCell ⟨Ab, k, none⟩ (.slice az ((xs k).length + ys.length) cz)) w.heap.size P (foot w.heap.size Hb Ab gs (setf vs k (.slice az ((xs k).length + ys.length) cz)))) := foot_app HPr.out hk2 r2 r3
            have hkz : Kp (fun q => (vs k).ownBlock = some q) wb.drew w' := (Kp.refl _ _).grown r2 (fun k _ h => h)
            have hab : w'.heap[Ab]? = some (.cells #[vs 0, vs 1] 39 (0, 0)) := (hkz.block Ab (blk_lt HDr.out.ab) (fun e => own_not (HDr.out.a k hk2) HDr.out.ab (by decide) e)).trans HDr.out.ab
            have qa : w'.cell? ⟨Ab, k, none⟩ = some (vs k) := by rcases two hk2 with e | e <;> (subst e; exact blk_cell hab rfl)
            have fa : w'.frozen? ⟨Ab, k, none⟩ = false := blk_frozen k hab
            have hxz : (setf xs k (xs k ++ ys) 0).length + (setf xs k (xs k ++ ys) 1).length ≤ 65536 := by rcases two hk2 with e | e <;> (subst e; simp [setf]; omega)
            have hS2 : Below w.heap.size w w' := HDr.out.l.trans (hkz.below HDr.out.l.size (fun q hq => ((HDr.out.a k hk2).lt q hq).1))
            clear r1 r2 r3 hkz hab hS
            refine (Hid.out hK) _ _ hS2 (fun _ => ?_)
            clear hK K
            (try simp only [Act.put]); (try simp only [List.setIfInBounds_toArray, List.set_cons_zero, List.set_cons_succ])
            refine heldTake 10 _ rfl (by kernel_rfl) (by kernel_rfl) (by kernel_rfl) (fun _ _ _ h => h) rfl hS2 (fun wy hy => by first | (go_simp; done) | (go_simp; rfl) | rfl) ?_
            (try simp only [Act.put]); (try simp only [List.setIfInBounds_toArray, List.set_cons_zero, List.set_cons_succ])
            refine heldStep 11 rfl (by kernel_rfl) (fun K hK => ?_)
            go_simp
            refine (Hid.out hK) _ _ HDz.out.l (fun _ => ?_)
            clear hK K
            (try simp only [Act.put]); (try simp only [List.setIfInBounds_toArray, List.set_cons_zero, List.set_cons_succ])
            refine heldDone (by kernel_rfl) ?_
            clear qa fa hS2
            go_wp2_with fail
            go_roundw
            case rel =>
              refine ⟨i + 1, gs, _, setf xs k (xs k ++ ys), by omega, by omega, hxz, by go_num, (fun j hj x hx => ?_), HDz, HPz⟩
              by_cases e : j = k
              · subst e
                rw [setf_same] at hx
                rcases List.mem_append.1 hx with h | h
                · exact HY.out j hj x h
                · exact HU0.out.byte x h
              · rw [setf_ne _ _ e] at hx
                exact HY.out j hj x hx
            case measure => simp [intOf]; omega
      · have g1 : (d == 1) = false := beq_eq_false_iff_ne.2 hd1
        by_cases hd2 : d = 2
        · subst hd2
          go_wp2_with fail
          have HXL : Hid ((xs k).length ≤ 140737488351232) := by show _ ≤ _; omega
          refine (refSum_any wr _ (xs k) (BSl.own (HD.out.a k hk2) (HY.out k hk2)) HXL.out).mono ?_
          rintro e w4 ⟨rfl, hb4⟩
          have HI := hide (info32d (xs k))
          have HON := hide (one32 (xs k))
          have HSL := hide (sha_len (xs k))
          have hb5 := hb4.trans ((below_alloc w4 (.cells (bv (sha (xs k))).toArray 28)).mono hb4.size)
          have HD5 := hide (HD.out.below hb5)
          have HP5 := hide (HP.out.below hb5)
          have HDA : Hid ((w4.alloc (.cells (bv (sha (xs k))).toArray 28)).heap[w4.heap.size]? = some (.cells (bv (sha (xs k))).toArray 28 (0, 0))) := heap_alloc_new w4 _
          clear hb4 hb5 qa c0 c1 c2 qh
          generalize hD : sha (xs k) = D at *
          have HDE := hide hD
          clear hD
          go_wp2_with (refine wpList_storeRow rfl rfl w4.heap.size _ (bv D).toArray 28 rfl rfl (heap_alloc_new w4 _) HI.out (by simp [bv_len, HSL.out]) HON.out ?_; rw [World.setRow_alloc_new]; generalize w4.alloc (.cells (bv D).toArray 28) = w5 at *; generalize w4.heap.size = dd at *)
          have HI2 : Hid ((Tryd.prog.info? 28).map (·.size) = some (bv D).length) := by
            show _ = _
            rw [bv_len, HSL.out]
            exact info32
          have HRD : Hid (∀ wx, Below w5.heap.size w5 wx → wx.rangeAt dd 0 (bv D)) := fun wx hb => cells_of ((hb.block dd (blk_lt HDA.out)).trans HDA.out)
          try simp only [Act.put]
          refine heldStartN (S := fun w' => Below w5.heap.size w5 w') 16 rfl (by kernel_rfl) ?_
          have hS : Below w5.heap.size w5 w5.drew := (Below.refl _ _).drew
          refine heldTake 0 _ rfl (by kernel_rfl) (by kernel_rfl) (by kernel_rfl) (fun _ _ _ h => h) rfl hS (fun wy hy => by first | (go_simp; done) | (go_simp; rfl) | rfl) ?_
          (try simp only [Act.put]); (try simp only [List.setIfInBounds_toArray, List.set_cons_zero, List.set_cons_succ])
          refine heldTake 1 _ rfl (by kernel_rfl) (by kernel_rfl) (by kernel_rfl) (fun _ _ _ h => h) rfl hS (fun wy hy => by first | (go_simp; done) | (go_simp; rfl) | rfl) ?_
          (try simp only [Act.put]); (try simp only [List.setIfInBounds_toArray, List.set_cons_zero, List.set_cons_succ])
          refine heldTake 2 _ rfl (by kernel_rfl) (by kernel_rfl) (by kernel_rfl) (fun _ _ _ h => h) rfl hS (fun wy hy => by have qh := (HD5.out.below hy).hcell hk2; go_simp; rfl) ?_
          (try simp only [Act.put]); (try simp only [List.setIfInBounds_toArray, List.set_cons_zero, List.set_cons_succ])
          refine heldTake 4 _ rfl (by kernel_rfl) (by kernel_rfl) (by kernel_rfl) (fun _ _ _ h => h) rfl hS (fun wy hy => loadA_run wy (HRD.out _ hy) rfl rfl HI2.out Tryd.underlying28) ?_
          (try simp only [Act.put]); (try simp only [List.setIfInBounds_toArray, List.set_cons_zero, List.set_cons_succ])
          refine heldStep 3 rfl (by kernel_rfl) (fun K hK => ?_)
          go_simp
          refine (hsum_any _ (gs k) (xs k) (HD5.out.c.below hS) ((HD5.out.below hS).h k hk2) (HY.out k hk2) HXL.out).mono ?_
          rw [HDE.out]
          rintro e wn ⟨rfl, hbn⟩
          refine (Hid.out hK) _ _ (hS.trans (hbn.mono hS.size)) (fun hS2 => ?_)
          clear hK K hS
          have hS := hS2
          clear hS2
          (try simp only [Act.put]); (try simp only [List.setIfInBounds_toArray, List.set_cons_zero, List.set_cons_succ])
          clear hbn
          refine heldStep 5 rfl (by kernel_rfl) (fun K hK => ?_)
          go_simp
          refine (same3q _ D HSL.out).mono ?_
          rintro e wn ⟨rfl, hbn⟩
          refine (Hid.out hK) _ _ (hS.trans (hbn.mono hS.size)) (fun hS2 => ?_)
          clear hK K hS
          have hS := hS2
          clear hS2
          (try simp only [Act.put]); (try simp only [List.setIfInBounds_toArray, List.set_cons_zero, List.set_cons_succ])
          clear hbn
          refine heldTake 6 _ rfl (by kernel_rfl) (by kernel_rfl) (by kernel_rfl) (fun _ _ _ h => h) rfl hS (fun wy hy => by first | (go_simp; done) | (go_simp; rfl) | rfl) ?_
          (try simp only [Act.put]); (try simp only [List.setIfInBounds_toArray, List.set_cons_zero, List.set_cons_succ])
          refine heldTake 7 _ rfl (by kernel_rfl) (by kernel_rfl) (by kernel_rfl) (fun _ _ _ h => h) rfl hS (fun wy hy => by first | (go_simp; done) | (go_simp; rfl) | rfl) ?_
          (try simp only [Act.put]); (try simp only [List.setIfInBounds_toArray, List.set_cons_zero, List.set_cons_succ])
          refine heldTake 8 _ rfl (by kernel_rfl) (by kernel_rfl) (by kernel_rfl) (fun _ _ _ h => h) rfl hS (fun wy hy => by first | (go_simp; done) | (go_simp; rfl) | rfl) ?_
          (try simp only [Act.put]); (try simp only [List.setIfInBounds_toArray, List.set_cons_zero, List.set_cons_succ])
          refine heldTake 9 _ rfl (by kernel_rfl) (by kernel_rfl) (by kernel_rfl) (fun _ _ _ h => h) rfl hS (fun wy hy => by first | (go_simp; done) | (go_simp; rfl) | rfl) ?_
          (try simp only [Act.put]); (try simp only [List.setIfInBounds_toArray, List.set_cons_zero, List.set_cons_succ])
          refine heldTake 10 _ rfl (by kernel_rfl) (by kernel_rfl) (by kernel_rfl) (fun _ _ _ h => h) rfl hS (fun wy hy => by have qh := (HD5.out.below hy).hcell hk2; go_simp; rfl) ?_
          (try simp only [Act.put]); (try simp only [List.setIfInBounds_toArray, List.set_cons_zero, List.set_cons_succ])
          refine heldTake 12 _ rfl (by kernel_rfl) (by kernel_rfl) (by kernel_rfl) (fun _ _ _ h => h) rfl hS (fun wy hy => loadA_run wy (HRD.out _ hy) rfl rfl HI2.out Tryd.underlying28) ?_
          (try simp only [Act.put]); (try simp only [List.setIfInBounds_toArray, List.set_cons_zero, List.set_cons_succ])
          refine heldStep 11 rfl (by kernel_rfl) (fun K hK => ?_)
          go_simp
          refine (hsum_any _ (gs k) (xs k) (HD5.out.c.below hS) ((HD5.out.below hS).h k hk2) (HY.out k hk2) HXL.out).mono ?_
          rw [HDE.out]
          rintro e wn ⟨rfl, hbn⟩
          refine (Hid.out hK) _ _ (hS.trans (hbn.mono hS.size)) (fun hS2 => ?_)
          clear hK K hS
          have hS := hS2
          clear hS2
          (try simp only [Act.put]); (try simp only [List.setIfInBounds_toArray, List.set_cons_zero, List.set_cons_succ])
          clear hbn
          refine heldStep 13 rfl (by kernel_rfl) (fun K hK => ?_)
          go_simp
          refine (same3q _ D HSL.out).mono ?_
          rintro e wn ⟨rfl, hbn⟩
          refine (Hid.out hK) _ _ (hS.trans (hbn.mono hS.size)) (fun hS2 => ?_)
          clear hK K hS
          have hS := hS2
          clear hS2
          (try simp only [Act.put]); (try simp only [List.setIfInBounds_toArray, List.set_cons_zero, List.set_cons_succ])
          clear hbn
          refine heldTake 14 _ rfl (by kernel_rfl) (by kernel_rfl) (by kernel_rfl) (fun _ _ _ h => h) rfl hS (fun wy hy => by first | (go_simp; done) | (go_simp; rfl) | rfl) ?_
          (try simp only [Act.put]); (try simp only [List.setIfInBounds_toArray, List.set_cons_zero, List.set_cons_succ])
          refine heldTake 15 _ rfl (by kernel_rfl) (by kernel_rfl) (by kernel_rfl) (fun _ _ _ h => h) rfl hS (fun wy hy => by first | (go_simp; done) | (go_simp; rfl) | rfl) ?_
          (try simp only [Act.put]); (try simp only [List.setIfInBounds_toArray, List.set_cons_zero, List.set_cons_succ])
          refine heldDone (by kernel_rfl) ?_
          have HDZ := hide (HD5.out.below hS)
          have HPZ := hide (HP5.out.below hS)
          clear hS
          go_wp2_with fail
          go_roundw
          case rel => exact ⟨i + 1, gs, vs, xs, by omega, by omega, hxs, by go_num, HY, HDZ, HPZ⟩
          case measure => simp [intOf]; omega
        · have g2 : (d == 2) = false := beq_eq_false_iff_ne.2 hd2
          by_cases hd3 : d = 3
          · subst hd3
            go_wp2_with fail
            refine (new_any wr).mono ?_
            rintro e w5 ⟨g, rfl, hg, hh5, hb5⟩
            have HD6 := hide (HD.out.newh hk2 hb5 hg hh5)
            have HP6 : Hid (Plf (w5.setCell ⟨Hb, k, none⟩ (.pointer (some ⟨g, 0, none⟩))) w.heap.size P (foot w.heap.size Hb Ab (setf gs k g) vs)) := foot_newh HP.out hb5 hg
            have qh5 := (HD.out.below hb5).hcell hk2
            have fh5 : w5.frozen? ⟨Hb, k, none⟩ = false := blk_frozen k (HD.out.below hb5).hb
            have qa6 := HD6.out.acell hk2
            have fa6 : (w5.setCell ⟨Hb, k, none⟩ (.pointer (some ⟨g, 0, none⟩))).frozen? ⟨Ab, k, none⟩ = false := blk_frozen k HD6.out.ab
            have HD7 := hide (HD6.out.nil hk2)
            have HP7 : Hid (Plf ((w5.setCell ⟨Hb, k, none⟩ (.pointer (some ⟨g, 0, none⟩))).setCell ⟨Ab, k, none⟩ (.slice none 0 0)) w.heap.size P (foot w.heap.size Hb Ab (setf gs k g) (setf vs k (.slice none 0 0)))) := foot_nil HP6.out
            have hxs7 : (setf xs k [] 0).length + (setf xs k [] 1).length ≤ 65536 := by rcases two hk2 with e | e <;> (subst e; simp [setf]; omega)
            clear hg hh5 hb5 HD6 HP6 qh qa
            go_wp2_with fail
            go_roundw
            case rel =>
              refine ⟨i + 1, setf gs k g, setf vs k (.slice none 0 0), setf xs k [], by omega, by omega, hxs7, by go_num, (fun j hj x hx => ?_), HD7, HP7⟩
              by_cases e : j = k
              · subst e
                rw [setf_same] at hx
                simp at hx
              · rw [setf_ne _ _ e] at hx
                exact HY.out j hj x hx
            case measure => simp [intOf]; omega
          · have g3 : (d == 3) = false := beq_eq_false_iff_ne.2 hd3
            go_wp2_with fail
            go_roundw
            case rel => exact ⟨i + 1, gs, vs, xs, by omega, by omega, hxs, by go_num, HY, HD, HP⟩
            case measure => simp [intOf]; omega
    · have g0 : ¬ (i : Int) < (len : Int) ∨ ((i : Int) < (len : Int) ∧ ¬ (i : Int) < 2000) := by omega
      have hxk : ∀ k, k < 2 → (xs k).length ≤ 140737488351232 := fun k hk => by rcases two hk with e | e <;> (subst e; omega)
      have HXK := hide hxk
      clear hxk
      rcases g0 with g1 | ⟨g1, g2⟩
      all_goals
        go_wp2_with fail
        go_loopw [10] (fun kk wx => ∃ k : Nat, k ≤ 2 ∧ kk = .int .i64 (k : Nat) ∧ Hid (Dq w wx Hb Ab gs vs xs xs)) (fun kk _ => 2 - (intOf kk).toNat)
        case atStart => exact ⟨0, by omega, rfl, HD⟩
        case round =>
          obtain ⟨k, hk, rfl, HE⟩ := hrel
          by_cases hk2 : k < 2
          · have hk2i : (k : Int) < 2 := by omega
            have HDE := hide (HXK.out k hk2)
            have HSL := hide (sha_len (xs k))
            obtain ⟨av, cv, hvk, _⟩ := own_form (HE.out.a k hk2)
            have HBV : Hid (∀ wx, Below wr.heap.size wr wx → BSl wx (.slice av (xs k).length cv) (xs k)) := fun wx hb => by rw [← hvk]; exact BSl.own ((HE.out.below hb).a k hk2) (HY.out k hk2)
            go_wp2_with fail
            refine heldStartN (S := fun w' => Below wr.heap.size wr w') 16 rfl (by kernel_rfl) ?_
            have hS : Below wr.heap.size wr wr.drew := (Below.refl _ _).drew
            refine heldTake 0 _ rfl (by kernel_rfl) (by kernel_rfl) (by kernel_rfl) (fun _ _ _ h => h) rfl hS (fun wy hy => by first | (go_simp; done) | (go_simp; rfl) | rfl) ?_
            (try simp only [Act.put]); (try simp only [List.setIfInBounds_toArray, List.set_cons_zero, List.set_cons_succ])
            refine heldTake 1 _ rfl (by kernel_rfl) (by kernel_rfl) (by kernel_rfl) (fun _ _ _ h => h) rfl hS (fun wy hy => by first | (go_simp; done) | (go_simp; rfl) | rfl) ?_
            (try simp only [Act.put]); (try simp only [List.setIfInBounds_toArray, List.set_cons_zero, List.set_cons_succ])
            refine heldTake 2 _ rfl (by kernel_rfl) (by kernel_rfl) (by kernel_rfl) (fun _ _ _ h => h) rfl hS (fun wy hy => by have qh := (HE.out.below hy).hcell hk2; go_simp; rfl) ?_
            (try simp only [Act.put]); (try simp only [List.setIfInBounds_toArray, List.set_cons_zero, List.set_cons_succ])
            refine heldTake 3 _ rfl (by kernel_rfl) (by kernel_rfl) (by kernel_rfl) (fun _ _ _ h => h) rfl hS (fun wy hy => by first | (go_simp; done) | (go_simp; rfl) | rfl) ?_
            (try simp only [Act.put]); (try simp only [List.setIfInBounds_toArray, List.set_cons_zero, List.set_cons_succ])
            refine heldTake 4 _ rfl (by kernel_rfl) (by kernel_rfl) (by kernel_rfl) (fun _ _ _ h => h) rfl hS (fun wy hy => by first | (go_simp; done) | (go_simp; rfl) | rfl) ?_
            (try simp only [Act.put]); (try simp only [List.setIfInBounds_toArray, List.set_cons_zero, List.set_cons_succ])
            refine heldTake 5 _ rfl (by kernel_rfl) (by kernel_rfl) (by kernel_rfl) (fun _ _ _ h => h) rfl hS (fun wy hy => by first | (go_simp; done) | (go_simp; rfl) | rfl) ?_
            (try simp only [Act.put]); (try simp only [List.setIfInBounds_toArray, List.set_cons_zero, List.set_cons_succ])
            refine heldTake 6 _ rfl (by kernel_rfl) (by kernel_rfl) (by kernel_rfl) (fun _ _ _ h => h) rfl hS (fun wy hy => by first | (go_simp; done) | (go_simp; rfl) | rfl) ?_
            (try simp only [Act.put]); (try simp only [List.setIfInBounds_toArray, List.set_cons_zero, List.set_cons_succ])
            refine heldTake 7 _ rfl (by kernel_rfl) (by kernel_rfl) (by kernel_rfl) (fun _ _ _ h => h) rfl hS (fun wy hy => by have qh := (HE.out.below hy).hcell hk2; go_simp; rfl) ?_
            (try simp only [Act.put]); (try simp only [List.setIfInBounds_toArray, List.set_cons_zero, List.set_cons_succ])
            refine heldTake 9 _ rfl (by kernel_rfl) (by kernel_rfl) (by kernel_rfl) (fun _ _ _ h => h) rfl hS (fun wy hy => by first | (go_simp; done) | (go_simp; rfl) | rfl) ?_
            (try simp only [Act.put]); (try simp only [List.setIfInBounds_toArray, List.set_cons_zero, List.set_cons_succ])
            refine heldTake 10 _ rfl (by kernel_rfl) (by kernel_rfl) (by kernel_rfl) (fun _ _ _ h => h) rfl hS (fun wy hy => by first | (go_simp; done) | (go_simp; rfl) | rfl) ?_
            (try simp only [Act.put]); (try simp only [List.setIfInBounds_toArray, List.set_cons_zero, List.set_cons_succ])
            refine heldTake 11 _ rfl (by kernel_rfl) (by kernel_rfl) (by kernel_rfl) (fun _ _ _ h => h) rfl hS (fun wy hy => by have qa := (HE.out.below hy).acell hk2; rw [hvk] at qa; go_simp; rfl) ?_
            (try simp only [Act.put]); (try simp only [List.setIfInBounds_toArray, List.set_cons_zero, List.set_cons_succ])
            refine heldStep 8 rfl (by kernel_rfl) (fun K hK => ?_)
            go_simp
            refine (hsum_any _ (gs k) (xs k) (HE.out.c.below hS) ((HE.out.below hS).h k hk2) (HY.out k hk2) HDE.out).mono ?_
            rintro e wn ⟨rfl, hbn⟩
            refine (Hid.out hK) _ _ (hS.trans (hbn.mono hS.size)) (fun hS2 => ?_)
            clear hK K hS
            have hS := hS2
            clear hS2
            (try simp only [Act.put]); (try simp only [List.setIfInBounds_toArray, List.set_cons_zero, List.set_cons_succ])
            clear hbn
            refine heldStep 12 rfl (by kernel_rfl) (fun K hK => ?_)
            go_simp
            refine (refSum_any _ _ (xs k) (HBV.out _ hS) HDE.out).mono ?_
            rintro e wn ⟨rfl, hbn⟩
            refine (Hid.out hK) _ _ (hS.trans (hbn.mono hS.size)) (fun hS2 => ?_)
            clear hK K hS
            have hS := hS2
            clear hS2
            (try simp only [Act.put]); (try simp only [List.setIfInBounds_toArray, List.set_cons_zero, List.set_cons_succ])
            clear hbn
            refine heldStep 13 rfl (by kernel_rfl) (fun K hK => ?_)
            go_simp
            refine (same3q _ (sha (xs k)) HSL.out).mono ?_
            rintro e wn ⟨rfl, hbn⟩
            refine (Hid.out hK) _ _ (hS.trans (hbn.mono hS.size)) (fun hS2 => ?_)
            clear hK K hS
            have hS := hS2
            clear hS2
            (try simp only [Act.put]); (try simp only [List.setIfInBounds_toArray, List.set_cons_zero, List.set_cons_succ])
            clear hbn
            refine heldTake 14 _ rfl (by kernel_rfl) (by kernel_rfl) (by kernel_rfl) (fun _ _ _ h => h) rfl hS (fun wy hy => by first | (go_simp; done) | (go_simp; rfl) | rfl) ?_
            (try simp only [Act.put]); (try simp only [List.setIfInBounds_toArray, List.set_cons_zero, List.set_cons_succ])
            refine heldTake 15 _ rfl (by kernel_rfl) (by kernel_rfl) (by kernel_rfl) (fun _ _ _ h => h) rfl hS (fun wy hy => by first | (go_simp; done) | (go_simp; rfl) | rfl) ?_
            (try simp only [Act.put]); (try simp only [List.setIfInBounds_toArray, List.set_cons_zero, List.set_cons_succ])
            refine heldDone (by kernel_rfl) ?_
            have HEZ := hide (HE.out.below hS)
            clear hS
            go_wp2_with fail
            go_roundw
            case rel => exact ⟨k + 1, by omega, by go_num, HEZ⟩
            case measure => simp [intOf]; omega
          · have hk2i : ¬ (k : Int) < 2 := by omega
            go_wp2_with fail
            refine (begun_any wr HE.out.c).mono ?_
            rintro e w9 ⟨rfl, hb9⟩
            have HB9 : Hid (Below w.heap.size w w9) := HE.out.l.trans (hb9.mono HE.out.l.size)
            clear hb9
            go_wp2_with fail
            go_ret
            exact ⟨rfl, HB9.out⟩
end
end Go.Proofs.YtedgdnoafajhoaaDoor
