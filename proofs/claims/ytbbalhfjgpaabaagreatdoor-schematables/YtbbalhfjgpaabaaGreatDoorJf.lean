import Derived.Test.YtbbalhfjgpaabaaGreatDoorJd
import Derived.Test.YtbbalhfjgpaabaaGreatDoorJe
import Derived.Test.YtbbalhfjgpaabaaGreatDoorJa
import Derived.Test.YtbbalhfjgpaabaaGreatDoorJb
import Derived.Test.YtbbalhfjgpaabaaGreatDoorJc
namespace Go.Proofs.YtbbalhfjgpaabaaGreatDoor
section
open Go.RowKit Go
set_option maxRecDepth 100000 in
set_option maxHeartbeats 400000 in
theorem growBytesZ_any {w : World} {B : Nat} {C : Array Value} (hB : w.heap[B]? = some (.cells C 47 (0, 0))) (h1 : C[0]? = some (.slice none 0 0)) (h2 : C[2]? = some (.int .i64 0)) :
    Calls Tryz.prog 76 #[.pointer (some ⟨B, 0, none⟩)] w fun e w' => e = .returned (.tuple #[]) ∧ w'.heap[B]? = some (.cells C 47 (0, 0)) ∧ Kp (fun k => k = B) w w' := by
  have c0 := blk_cell hB h1
  have c2 := blk_cell hB h2
  have f2 := blk_frozen 2 hB
  have HE : Hid ((w.setCell ⟨B, 2, none⟩ (.int .i64 0)).heap[B]? = some (.cells C 47 (0, 0))) := by
    show _ = _
    rw [blk_set 2 _ hB, set_id h2]
  clear hB h1 h2
  go_enter Tryz.func76, Tryz.ntmps76
  go_wp2
  refine wp_loop_rounds 1 ?_
  rw [rounds_succ]
  go_wp2
  go_end0
  exact ⟨rfl, HE.out, (Kp.refl _ _).setCell _ _ (fun _ => rfl)⟩
set_option maxRecDepth 100000 in
set_option maxHeartbeats 400000 in
theorem growLinksZ_any {w : World} {B : Nat} {C : Array Value} (hB : w.heap[B]? = some (.cells C 47 (0, 0))) (h1 : C[18]? = some (.slice none 0 0)) (h2 : C[20]? = some (.int .i64 0)) :
    Calls Tryz.prog 82 #[.pointer (some ⟨B, 0, none⟩)] w fun e w' => e = .returned (.tuple #[]) ∧ w'.heap[B]? = some (.cells C 47 (0, 0)) ∧ Kp (fun k => k = B) w w' := by
  have c0 := blk_cell hB h1
  have c2 := blk_cell hB h2
  have f2 := blk_frozen 20 hB
  have HE : Hid ((w.setCell ⟨B, 20, none⟩ (.int .i64 0)).heap[B]? = some (.cells C 47 (0, 0))) := by
    show _ = _
    rw [blk_set 20 _ hB, set_id h2]
  clear hB h1 h2
  go_enter Tryz.func82, Tryz.ntmps82
  go_wp2
  refine wp_loop_rounds 1 ?_
  rw [rounds_succ]
  go_wp2
  go_end0
  exact ⟨rfl, HE.out, (Kp.refl _ _).setCell _ _ (fun _ => rfl)⟩
set_option maxRecDepth 100000 in
set_option maxHeartbeats 400000 in
theorem growValuesZ_any {w : World} {B : Nat} {C : Array Value} (hB : w.heap[B]? = some (.cells C 47 (0, 0))) (h1 : C[30]? = some (.slice none 0 0)) (h2 : C[32]? = some (.int .i64 0)) :
    Calls Tryz.prog 86 #[.pointer (some ⟨B, 0, none⟩)] w fun e w' => e = .returned (.tuple #[]) ∧ w'.heap[B]? = some (.cells C 47 (0, 0)) ∧ Kp (fun k => k = B) w w' := by
  have c0 := blk_cell hB h1
  have c2 := blk_cell hB h2
  have f2 := blk_frozen 32 hB
  have HE : Hid ((w.setCell ⟨B, 32, none⟩ (.int .i64 0)).heap[B]? = some (.cells C 47 (0, 0))) := by
    show _ = _
    rw [blk_set 32 _ hB, set_id h2]
  clear hB h1 h2
  go_enter Tryz.func86, Tryz.ntmps86
  go_wp2
  refine wp_loop_rounds 1 ?_
  rw [rounds_succ]
  go_wp2
  go_end0
  exact ⟨rfl, HE.out, (Kp.refl _ _).setCell _ _ (fun _ => rfl)⟩
set_option maxRecDepth 100000 in
set_option maxHeartbeats 400000 in
theorem plainZ_any {w : World} {B : Nat} {C : Array Value} (hB : w.heap[B]? = some (.cells C 47 (0, 0))) (h0 : C[0]? = some (.slice none 0 0)) (h1 : C[3]? = some (.slice none 0 0)) :
    Calls Tryz.prog 71 #[.pointer (some ⟨B, 0, none⟩)] w fun e w' => e = .returned (.bool true) ∧ w' = w := by
  have c0 := blk_cell hB h0
  have c3 := blk_cell hB h1
  clear hB h0 h1
  go_enter Tryz.func71, Tryz.ntmps71
  go_wp2
  iterate 2
    refine wp_loop_rounds 1 ?_
    rw [rounds_succ]
    go_wp2
  go_ret
  exact ⟨rfl, rfl⟩
set_option maxRecDepth 100000 in
set_option maxHeartbeats 400000 in
theorem heldZ_any {w : World} {B : Nat} {C : Array Value} (hB : w.heap[B]? = some (.cells C 47 (0, 0))) (h0 : C[30]? = some (.slice none 0 0)) (h1 : C[33]? = some (.slice none 0 0)) (h2 : C[36]? = some (.slice none 0 0)) (h3 : C[39]? = some (.slice none 0 0)) :
    Calls Tryz.prog 74 #[.pointer (some ⟨B, 0, none⟩)] w fun e w' => e = .returned (.bool true) ∧ w' = w := by
  have c30 := blk_cell hB h0
  have c33 := blk_cell hB h1
  have c36 := blk_cell hB h2
  have c39 := blk_cell hB h3
  clear hB h0 h1 h2 h3
  go_enter Tryz.func74, Tryz.ntmps74
  go_wp2
  iterate 4
    refine wp_loop_rounds 1 ?_
    rw [rounds_succ]
    go_wp2
  go_ret
  exact ⟨rfl, rfl⟩
structure Fs where
  vb : Value
  vo : Value
  es : List Ent
  a : Nat
def Kd : Fin 4 → Knd
  | 0 => KT
  | 1 => KC
  | 2 => KF
  | 3 => KY
def Jd : Fin 4 → Nat
  | 0 => 6
  | 1 => 24
  | 2 => 27
  | 3 => 45
theorem Jd_lt (i : Fin 4) : Jd i + 2 < 54 := by
  match i with
  | 0 => decide
  | 1 => decide
  | 2 => decide
  | 3 => decide
theorem Jd_ne (i j : Fin 4) (h : i ≠ j) : ∀ a b, a < 3 → b < 3 → Jd i + a ≠ Jd j + b := by
  intro a b ha hb
  match i, j with
  | 0, 0 => exact absurd rfl h
  | 1, 1 => exact absurd rfl h
  | 2, 2 => exact absurd rfl h
  | 3, 3 => exact absurd rfl h
  | 0, 1 => simp only [Jd]; omega
  | 0, 2 => simp only [Jd]; omega
  | 0, 3 => simp only [Jd]; omega
  | 1, 0 => simp only [Jd]; omega
  | 1, 2 => simp only [Jd]; omega
  | 1, 3 => simp only [Jd]; omega
  | 2, 0 => simp only [Jd]; omega
  | 2, 1 => simp only [Jd]; omega
  | 2, 3 => simp only [Jd]; omega
  | 3, 0 => simp only [Jd]; omega
  | 3, 1 => simp only [Jd]; omega
  | 3, 2 => simp only [Jd]; omega
theorem Kd_ok (i : Fin 4) : (Kd i).Ok := by
  match i with
  | 0 => exact KT_ok
  | 1 => exact KC_ok
  | 2 => exact KF_ok
  | 3 => exact KY_ok
structure Knd.Ne (F G : Knd) : Prop where
  a : F.tt ≠ G.tt
  b : F.tt ≠ G.te
  c : F.te ≠ G.tt
  d : F.te ≠ G.te
theorem Kd_ne (i j : Fin 4) (h : i ≠ j) : (Kd i).Ne (Kd j) := by
  match i, j with
  | 0, 0 => exact absurd rfl h
  | 1, 1 => exact absurd rfl h
  | 2, 2 => exact absurd rfl h
  | 3, 3 => exact absurd rfl h
  | 0, 1 => exact ⟨by decide, by decide, by decide, by decide⟩
  | 0, 2 => exact ⟨by decide, by decide, by decide, by decide⟩
  | 0, 3 => exact ⟨by decide, by decide, by decide, by decide⟩
  | 1, 0 => exact ⟨by decide, by decide, by decide, by decide⟩
  | 1, 2 => exact ⟨by decide, by decide, by decide, by decide⟩
  | 1, 3 => exact ⟨by decide, by decide, by decide, by decide⟩
  | 2, 0 => exact ⟨by decide, by decide, by decide, by decide⟩
  | 2, 1 => exact ⟨by decide, by decide, by decide, by decide⟩
  | 2, 3 => exact ⟨by decide, by decide, by decide, by decide⟩
  | 3, 0 => exact ⟨by decide, by decide, by decide, by decide⟩
  | 3, 1 => exact ⟨by decide, by decide, by decide, by decide⟩
  | 3, 2 => exact ⟨by decide, by decide, by decide, by decide⟩
theorem Kc.dis {F G : Knd} (hF : F.Ok) (hG : G.Ok) (hn : F.Ne G) {w : World} {base base' t t' : Nat} {vb vo vb' vo' : Value} {es es' : List Ent} (h : Kc F w base vb vo es t) (g : Kc G w base' vb' vo' es' t') (hvo : ∀ q, vo.ownBlock = some q → vo'.ownBlock = some q → False) : ∀ q, Fut vb vo es q → Fut vb' vo' es' q → False := fun q h1 h2 => by
  rcases h1 with e | e | ⟨x, hx, e⟩ <;> rcases h2 with e' | e' | ⟨y, hy, e'⟩
  · exact own_apart h.hb g.hb hn.a e e'
  · exact own_apart h.hb g.ho hF.t3 e e'
  · exact own_apart h.hb (g.he y hy) hn.b e e'
  · exact own_apart h.ho g.hb (fun e => hG.t3 e.symm) e e'
  · exact hvo q e e'
  · exact own_apart h.ho (g.he y hy) (fun e => hG.e3 e.symm) e e'
  · exact own_apart (h.he x hx) g.hb hn.c e e'
  · exact own_apart (h.he x hx) g.ho hF.e3 e e'
  · exact own_apart (h.he x hx) (g.he y hy) hn.d e e'
def Nk (k : Nat) : Prop := k = 0 ∨ k = 3 ∨ k = 9 ∨ k = 12 ∨ k = 15 ∨ k = 18 ∨ k = 21 ∨ k = 30 ∨ k = 33 ∨ k = 36 ∨ k = 39 ∨ k = 42 ∨ k = 48 ∨ k = 51
theorem Nk.ne {k : Nat} (h : Nk k) (i : Fin 4) : ∀ a b, a < 3 → b < 3 → k + a ≠ Jd i + b := by
  intro a b ha hb
  unfold Nk at h
  match i with
  | 0 => simp only [Jd]; omega
  | 1 => simp only [Jd]; omega
  | 2 => simp only [Jd]; omega
  | 3 => simp only [Jd]; omega
structure Bkq (w : World) (base B : Nat) (C : Array Value) (f : Fin 4 → Fs) (t d u : Nat) : Prop where
  blk : w.heap[B]? = some (.cells C 47 (0, 0))
  n : C.size = 57
  c54 : C[54]? = some (.int .i64 ((t : Nat) : Int))
  c55 : C[55]? = some (.int .i64 ((d : Nat) : Int))
  c56 : C[56]? = some (.int .i64 ((u : Nat) : Int))
  r : ∀ i, C[Jd i]? = some (f i).vb ∧ C[Jd i + 1]? = some (f i).vo ∧ C[Jd i + 2]? = some (.int .i64 (((f i).a : Nat) : Int))
  z : ∀ k, Nk k → C[k]? = some (.slice none 0 0) ∧ C[k + 2]? = some (.int .i64 0)
  k : ∀ i, Ko (Kd i) w base (f i).vb (f i).vo (f i).es (f i).a t u
  dj : ∀ i j, i ≠ j → ∀ q, (f i).vo.ownBlock = some q → (f j).vo.ownBlock = some q → False
  hb : base ≤ B
  ht : t < 68719476736
  hu : u ≤ 16777216
def Ft4 (B : Nat) (f : Fin 4 → Fs) (q : Nat) : Prop := q = B ∨ ∃ i, Fut (f i).vb (f i).vo (f i).es q
def upd (f : Fin 4 → Fs) (i : Fin 4) (s : Fs) : Fin 4 → Fs := fun j => if j = i then s else f j
theorem upd_i (f : Fin 4 → Fs) (i : Fin 4) (s : Fs) : upd f i s i = s := by simp [upd]
theorem upd_j (f : Fin 4 → Fs) {i j : Fin 4} (s : Fs) (h : j ≠ i) : upd f i s j = f j := by simp [upd, h]
theorem Bkq.lt {w : World} {base B : Nat} {C : Array Value} {f : Fin 4 → Fs} {t d u : Nat} (h : Bkq w base B C f t d u) : ∀ q, Ft4 B f q → base ≤ q ∧ q < w.heap.size := fun q hq => by
  rcases hq with e | ⟨i, e⟩
  · subst e; exact ⟨h.hb, blk_lt h.blk⟩
  · exact (h.k i).c.lt q e
theorem Bkq.sz {w : World} {base B : Nat} {C : Array Value} {f : Fin 4 → Fs} {t d u : Nat} (h : Bkq w base B C f t d u) : base ≤ w.heap.size := by have h1 := h.hb; have h2 := blk_lt h.blk; omega
theorem Bkq.dis {w : World} {base B : Nat} {C : Array Value} {f : Fin 4 → Fs} {t d u : Nat} (h : Bkq w base B C f t d u) {i j : Fin 4} (hij : i ≠ j) : ∀ q, Fut (f i).vb (f i).vo (f i).es q → Fut (f j).vb (f j).vo (f j).es q → False := (h.k i).c.dis (Kd_ok i) (Kd_ok j) (Kd_ne i j hij) (h.k j).c (h.dj i j hij)
theorem Bkq.kp {S : Nat → Prop} {w w' : World} {base B : Nat} {C : Array Value} {f : Fin 4 → Fs} {t d u : Nat} (h : Bkq w base B C f t d u) (hk : Kp S w w') (hs : ∀ q, Ft4 B f q → ¬ S q) : Bkq w' base B C f t d u :=
  ⟨(hk.block B (blk_lt h.blk) (hs B (.inl rfl))).trans h.blk, h.n, h.c54, h.c55, h.c56, h.r, h.z, fun i => (h.k i).kp hk (fun q e => hs q (.inr ⟨i, e⟩)), h.dj, h.hb, h.ht, h.hu⟩
theorem Bkq.next {w w' : World} {base B : Nat} {C : Array Value} {f : Fin 4 → Fs} {t d u : Nat} (h : Bkq w base B C f t d u) (hb : Below w.heap.size w w') : Bkq w' base B C f t d u := h.kp (Kp.of_below (S := fun _ => False) hb) (fun _ _ e => e)
theorem Bkq.upd {w w' : World} {base B : Nat} {C C' : Array Value} {f : Fin 4 → Fs} {t d u t' u' : Nat} (h : Bkq w base B C f t d u) (i : Fin 4) (s : Fs) (L : Nat → Prop) (hblk : w'.heap[B]? = some (.cells C' 47 (0, 0))) (hch : Chg (fun k => k = Jd i ∨ k = Jd i + 1 ∨ k = Jd i + 2 ∨ k = 54 ∨ k = 56) C C')
    (hr : C'[Jd i]? = some s.vb ∧ C'[Jd i + 1]? = some s.vo ∧ C'[Jd i + 2]? = some (.int .i64 ((s.a : Nat) : Int))) (h54 : C'[54]? = some (.int .i64 ((t' : Nat) : Int))) (h56 : C'[56]? = some (.int .i64 ((u' : Nat) : Int))) (hK : Ko (Kd i) w' base s.vb s.vo s.es s.a t' u')
    (hkp : Kp (fun q => q = B ∨ Fut (f i).vb (f i).vo (f i).es q ∨ L q) w w') (hL : ∀ j, j ≠ i → ∀ q, Fut (f j).vb (f j).vo (f j).es q → ¬ L q) (hf : ∀ q, Fut s.vb s.vo s.es q → Fut (f i).vb (f i).vo (f i).es q ∨ L q ∨ w.heap.size ≤ q) (htt : t ≤ t') (huu : u ≤ u') (ht' : t' < 68719476736) (hu' : u' ≤ 16777216) : Bkq w' base B C' (Go.Proofs.YtbbalhfjgpaabaaGreatDoor.upd f i s) t' d u' := by
  have hji := Jd_lt i
  have hkeep : ∀ j, j ≠ i → Ko (Kd j) w' base (f j).vb (f j).vo (f j).es (f j).a t' u' := fun j hj => ((h.k j).kp hkp (fun q e es => by
    rcases es with e1 | e1 | e1
    · exact (h.k j).c.notB (Kd_ok j) h.blk (by rw [← e1]; exact e)
    · exact h.dis hj q e e1
    · exact hL j hj q e e1)).more htt huu
  have hdj : ∀ j, j ≠ i → ∀ q, s.vo.ownBlock = some q → (f j).vo.ownBlock = some q → False := fun j hj q h1 h2 => by
    rcases hf q (.inr (.inl h1)) with e | e | e
    · exact h.dis hj q (.inr (.inl h2)) e
    · exact hL j hj q (.inr (.inl h2)) e
    · have := ((h.k j).c.lt q (.inr (.inl h2))).2
      omega
  refine ⟨hblk, hch.n.trans h.n, h54, (hch.k 55 (by omega)).trans h.c55, h56, fun j => ?_, fun k hk => ?_, fun j => ?_, fun a b hab q h1 h2 => ?_, h.hb, ht', hu'⟩
  · by_cases e : j = i
    · subst e; rw [upd_i]; exact hr
    · rw [upd_j f s e]
      have hn := Jd_ne j i e
      have hjl := Jd_lt j
      have n0 := hn 0 0 (by omega) (by omega)
      have n1 := hn 0 1 (by omega) (by omega)
      have n2 := hn 0 2 (by omega) (by omega)
      have n3 := hn 1 0 (by omega) (by omega)
      have n4 := hn 1 1 (by omega) (by omega)
      have n5 := hn 1 2 (by omega) (by omega)
      have n6 := hn 2 0 (by omega) (by omega)
      have n7 := hn 2 1 (by omega) (by omega)
      have n8 := hn 2 2 (by omega) (by omega)
      exact ⟨(hch.k _ (by omega)).trans (h.r j).1, (hch.k _ (by omega)).trans (h.r j).2.1, (hch.k _ (by omega)).trans (h.r j).2.2⟩
  · have hn := hk.ne i
    have hkl : k + 2 < 54 := by unfold Nk at hk; omega
    have n0 := hn 0 0 (by omega) (by omega)
    have n1 := hn 0 1 (by omega) (by omega)
    have n2 := hn 0 2 (by omega) (by omega)
    have n6 := hn 2 0 (by omega) (by omega)
    have n7 := hn 2 1 (by omega) (by omega)
    have n8 := hn 2 2 (by omega) (by omega)
    exact ⟨(hch.k _ (by omega)).trans (h.z k hk).1, (hch.k _ (by omega)).trans (h.z k hk).2⟩
  · by_cases e : j = i
    · subst e; rw [upd_i]; exact hK
    · rw [upd_j f s e]; exact hkeep j e
  · by_cases ea : a = i
    · subst ea
      rw [upd_i] at h1
      rw [upd_j f s (fun e => hab e.symm)] at h2
      exact hdj b (fun e => hab e.symm) q h1 h2
    · rw [upd_j f s ea] at h1
      by_cases eb : b = i
      · subst eb
        rw [upd_i] at h2
        exact hdj a ea q h2 h1
      · rw [upd_j f s eb] at h2
        exact h.dj a b hab q h1 h2
def Gs (w0 : World) (base B : Nat) (f0 : Fin 4 → Fs) (t d u : Nat) (w : World) : Prop := ∃ C f, Bkq w base B C f t d u ∧ Kp (Ft4 B f0) w0 w ∧ ∀ q, Ft4 B f q → Ft4 B f0 q ∨ w0.heap.size ≤ q
theorem Gs.grown {w0 w w' : World} {base B : Nat} {f0 f : Fin 4 → Fs} {t d u : Nat} {C : Array Value} (i : Fin 4) (h : Bkq w base B C f t d u) (hk : Kp (Ft4 B f0) w0 w) (hf : ∀ q, Ft4 B f q → Ft4 B f0 q ∨ w0.heap.size ≤ q) (hg : GrP (Kd i) (Jd i) w base B C (f i).vb (f i).vo (f i).es t u w') : Gs w0 base B f0 t d u w' := by
  obtain ⟨vb', vo', es', a', C', hblk, hch, h0, h1, h2, hK, hkp, hft⟩ := hg
  have hji := Jd_lt i
  refine ⟨C', Go.Proofs.YtbbalhfjgpaabaaGreatDoor.upd f i ⟨vb', vo', es', a'⟩, h.upd i ⟨vb', vo', es', a'⟩ (fun _ => False) hblk (hch.trans (Chg.refl (fun _ => False) _) (fun k e => by omega) (fun k e => e.elim)) ⟨h0, h1, h2⟩ ((hch.k 54 (by omega)).trans h.c54) ((hch.k 56 (by omega)).trans h.c56) hK (hkp.mono (fun q _ e => by rcases e with e | e; exact .inl e; exact .inr (.inl e))) (fun _ _ _ _ e => e) (fun q e => by rcases hft q e with e | e; exact .inl e; exact .inr (.inr e)) (Nat.le_refl _) (Nat.le_refl _) h.ht h.hu, hk.trans hkp (fun q hq e => ?_), fun q e => ?_⟩
  · have hF : Ft4 B f q := by
      rcases e with e | e
      · exact .inl e
      · exact .inr ⟨i, e⟩
    rcases hf q hF with h3 | h3
    · exact h3
    · omega
  · rcases e with e | ⟨j, e⟩
    · exact hf q (.inl e)
    · by_cases ej : j = i
      · subst ej
        rw [upd_i] at e
        rcases hft q e with e | e
        · exact hf q (.inr ⟨j, e⟩)
        · exact .inr (Nat.le_trans hk.size e)
      · rw [upd_j f _ ej] at e
        exact hf q (.inr ⟨j, e⟩)
theorem Gs.nil {w0 w w' : World} {base B : Nat} {f0 f : Fin 4 → Fs} {t d u : Nat} {C : Array Value} (h : Bkq w base B C f t d u) (hk : Kp (Ft4 B f0) w0 w) (hf : ∀ q, Ft4 B f q → Ft4 B f0 q ∨ w0.heap.size ≤ q) (hblk : w'.heap[B]? = some (.cells C 47 (0, 0))) (hkp : Kp (fun k => k = B) w w') : Gs w0 base B f0 t d u w' := by
  refine ⟨C, f, ⟨hblk, h.n, h.c54, h.c55, h.c56, h.r, h.z, fun i => (h.k i).kp hkp (fun q e es => (h.k i).c.notB (Kd_ok i) h.blk (by rw [← es]; exact e)), h.dj, h.hb, h.ht, h.hu⟩, hk.trans hkp (fun q _ e => ?_), hf⟩
  have := hf q (.inl e)
  rcases this with h3 | h3
  · exact h3
  · omega
set_option maxRecDepth 1000000 in
set_option maxHeartbeats 400000 in
theorem holds4_any {w : World} {base B : Nat} {C : Array Value} {f : Fin 4 → Fs} {t d u : Nat} (h : Bkq w base B C f t d u) :
    Calls Tryz.prog 36 #[.pointer (some ⟨B, 0, none⟩)] w fun e w' => e = .returned (.bool true) ∧ Below w.heap.size w w' := by
  have H0 := hide h
  clear h
  go_enter Tryz.func36, Tryz.ntmps36
  go_wp2_with fail
  refine (plainZ_any H0.out.blk (H0.out.z 0 (by unfold Nk; omega)).1 (H0.out.z 3 (by unfold Nk; omega)).1).mono ?_
  rintro e wq ⟨rfl, hwq⟩
  have hwq := hwq.symm
  subst hwq
  go_wp2_with fail
  refine (keptK_any H0.out.blk (H0.out.r 0).1 (H0.out.r 0).2.1 (H0.out.z 9 (by unfold Nk; omega)).1 (H0.out.z 12 (by unfold Nk; omega)).1 (H0.out.z 15 (by unfold Nk; omega)).1 (H0.out.k 0).c H0.out.ht).mono ?_
  rintro e w2 ⟨rfl, hb2⟩
  have H2 := hide (H0.out.next hb2)
  have HB2 := hide hb2
  clear hb2
  go_wp2_with fail
  refine (toldC_any H2.out.blk (H2.out.r 1).1 (H2.out.r 1).2.1 (H2.out.r 2).1 (H2.out.r 2).2.1 (H2.out.z 18 (by unfold Nk; omega)).1 (H2.out.z 21 (by unfold Nk; omega)).1 (H2.out.k 1).c (H2.out.k 2).c H2.out.ht).mono ?_
  rintro e w3 ⟨rfl, hb3⟩
  have H3 := hide (H2.out.next hb3)
  have HB3 : Hid (Below w.heap.size w w3) := HB2.out.trans (hb3.mono HB2.out.size)
  clear hb3 H2
  go_wp2_with fail
  refine (heldZ_any H3.out.blk (H3.out.z 30 (by unfold Nk; omega)).1 (H3.out.z 33 (by unfold Nk; omega)).1 (H3.out.z 36 (by unfold Nk; omega)).1 (H3.out.z 39 (by unfold Nk; omega)).1).mono ?_
  rintro e wq ⟨rfl, hwq⟩
  have hwq := hwq.symm
  subst hwq
  go_wp2_with fail
  refine (sentY_any H3.out.blk (H3.out.r 3).1 (H3.out.r 3).2.1 (H3.out.z 42 (by unfold Nk; omega)).1 (H3.out.z 48 (by unfold Nk; omega)).1 (H3.out.z 51 (by unfold Nk; omega)).1 (H3.out.k 3).c H3.out.ht).mono ?_
  rintro e w5 ⟨rfl, hb5⟩
  have HB5 : Hid (Below w.heap.size w w5) := HB3.out.trans (hb5.mono HB3.out.size)
  clear hb5
  go_wp2_with fail
  go_ret
  exact ⟨rfl, HB5.out⟩
set_option maxRecDepth 1000000 in
set_option maxHeartbeats 1000000 in
theorem bgrow4_any {w : World} {base B : Nat} {C : Array Value} {f : Fin 4 → Fs} {t d u : Nat} (h : Bkq w base B C f t d u) :
    Calls Tryz.prog 37 #[.pointer (some ⟨B, 0, none⟩)] w fun e w' => e = .returned (.tuple #[]) ∧ Hid (Gs w base B f t t u w') := by
  have HG : Hid (Gs w base B f t d u w) := ⟨C, f, h, Kp.refl _ _, fun q e => .inl e⟩
  clear h
  go_enter Tryz.func37, Tryz.ntmps37
  go_wp2_with fail
  obtain ⟨C9, f9, hok9, hk9, hf9⟩ := HG.out
  refine (growBytesZ_any hok9.blk (hok9.z 0 (by unfold Nk; omega)).1 (hok9.z 0 (by unfold Nk; omega)).2).mono ?_
  rintro e wn ⟨rfl, hbn, hkn⟩
  have HG' := hide (Gs.nil hok9 hk9 hf9 hbn hkn)
  clear hbn hkn hok9 hk9 hf9 HG
  have HG := HG'
  clear HG'
  go_wp2_with fail
  obtain ⟨C9, f9, hok9, hk9, hf9⟩ := HG.out
  refine (growRowsZ_any hok9.blk (hok9.z 3 (by unfold Nk; omega)).1 (hok9.z 3 (by unfold Nk; omega)).2).mono ?_
  rintro e wn ⟨rfl, hbn, hkn⟩
  have HG' := hide (Gs.nil hok9 hk9 hf9 hbn hkn)
  clear hbn hkn hok9 hk9 hf9 HG
  have HG := HG'
  clear HG'
  go_wp2_with fail
  obtain ⟨C9, f9, hok9, hk9, hf9⟩ := HG.out
  refine (growTextsK_any hok9.blk hok9.n (hok9.r 0).1 (hok9.r 0).2.1 (hok9.r 0).2.2 (hok9.k 0) hok9.ht hok9.hu hok9.sz).mono ?_
  rintro e wn ⟨rfl, hgr⟩
  have HG' := hide (Gs.grown 0 hok9 hk9 hf9 hgr.out)
  clear hgr hok9 hk9 hf9 HG
  have HG := HG'
  clear HG'
  go_wp2_with fail
  obtain ⟨C9, f9, hok9, hk9, hf9⟩ := HG.out
  refine (growIntsZ_any hok9.blk (hok9.z 9 (by unfold Nk; omega)).1 (hok9.z 9 (by unfold Nk; omega)).2).mono ?_
  rintro e wn ⟨rfl, hbn, hkn⟩
  have HG' := hide (Gs.nil hok9 hk9 hf9 hbn hkn)
  clear hbn hkn hok9 hk9 hf9 HG
  have HG := HG'
  clear HG'
  go_wp2_with fail
  obtain ⟨C9, f9, hok9, hk9, hf9⟩ := HG.out
  refine (growWordsZ_any hok9.blk (hok9.z 12 (by unfold Nk; omega)).1 (hok9.z 12 (by unfold Nk; omega)).2).mono ?_
  rintro e wn ⟨rfl, hbn, hkn⟩
  have HG' := hide (Gs.nil hok9 hk9 hf9 hbn hkn)
  clear hbn hkn hok9 hk9 hf9 HG
  have HG := HG'
  clear HG'
  go_wp2_with fail
  obtain ⟨C9, f9, hok9, hk9, hf9⟩ := HG.out
  refine (growFloatsZ_any hok9.blk (hok9.z 15 (by unfold Nk; omega)).1 (hok9.z 15 (by unfold Nk; omega)).2).mono ?_
  rintro e wn ⟨rfl, hbn, hkn⟩
  have HG' := hide (Gs.nil hok9 hk9 hf9 hbn hkn)
  clear hbn hkn hok9 hk9 hf9 HG
  have HG := HG'
  clear HG'
  go_wp2_with fail
  obtain ⟨C9, f9, hok9, hk9, hf9⟩ := HG.out
  refine (growLinksZ_any hok9.blk (hok9.z 18 (by unfold Nk; omega)).1 (hok9.z 18 (by unfold Nk; omega)).2).mono ?_
  rintro e wn ⟨rfl, hbn, hkn⟩
  have HG' := hide (Gs.nil hok9 hk9 hf9 hbn hkn)
  clear hbn hkn hok9 hk9 hf9 HG
  have HG := HG'
  clear HG'
  go_wp2_with fail
  obtain ⟨C9, f9, hok9, hk9, hf9⟩ := HG.out
  refine (growNotesZ_any hok9.blk (hok9.z 21 (by unfold Nk; omega)).1 (hok9.z 21 (by unfold Nk; omega)).2).mono ?_
  rintro e wn ⟨rfl, hbn, hkn⟩
  have HG' := hide (Gs.nil hok9 hk9 hf9 hbn hkn)
  clear hbn hkn hok9 hk9 hf9 HG
  have HG := HG'
  clear HG'
  go_wp2_with fail
  obtain ⟨C9, f9, hok9, hk9, hf9⟩ := HG.out
  refine (growCasesK_any hok9.blk hok9.n (hok9.r 1).1 (hok9.r 1).2.1 (hok9.r 1).2.2 (hok9.k 1) hok9.ht hok9.hu hok9.sz).mono ?_
  rintro e wn ⟨rfl, hgr⟩
  have HG' := hide (Gs.grown 1 hok9 hk9 hf9 hgr.out)
  clear hgr hok9 hk9 hf9 HG
  have HG := HG'
  clear HG'
  go_wp2_with fail
  obtain ⟨C9, f9, hok9, hk9, hf9⟩ := HG.out
  refine (growFieldsK_any hok9.blk hok9.n (hok9.r 2).1 (hok9.r 2).2.1 (hok9.r 2).2.2 (hok9.k 2) hok9.ht hok9.hu hok9.sz).mono ?_
  rintro e wn ⟨rfl, hgr⟩
  have HG' := hide (Gs.grown 2 hok9 hk9 hf9 hgr.out)
  clear hgr hok9 hk9 hf9 HG
  have HG := HG'
  clear HG'
  go_wp2_with fail
  obtain ⟨C9, f9, hok9, hk9, hf9⟩ := HG.out
  refine (growValuesZ_any hok9.blk (hok9.z 30 (by unfold Nk; omega)).1 (hok9.z 30 (by unfold Nk; omega)).2).mono ?_
  rintro e wn ⟨rfl, hbn, hkn⟩
  have HG' := hide (Gs.nil hok9 hk9 hf9 hbn hkn)
  clear hbn hkn hok9 hk9 hf9 HG
  have HG := HG'
  clear HG'
  go_wp2_with fail
  obtain ⟨C9, f9, hok9, hk9, hf9⟩ := HG.out
  refine (growEntriesZ_any hok9.blk (hok9.z 33 (by unfold Nk; omega)).1 (hok9.z 33 (by unfold Nk; omega)).2).mono ?_
  rintro e wn ⟨rfl, hbn, hkn⟩
  have HG' := hide (Gs.nil hok9 hk9 hf9 hbn hkn)
  clear hbn hkn hok9 hk9 hf9 HG
  have HG := HG'
  clear HG'
  go_wp2_with fail
  obtain ⟨C9, f9, hok9, hk9, hf9⟩ := HG.out
  refine (growChangesZ_any hok9.blk (hok9.z 36 (by unfold Nk; omega)).1 (hok9.z 36 (by unfold Nk; omega)).2).mono ?_
  rintro e wn ⟨rfl, hbn, hkn⟩
  have HG' := hide (Gs.nil hok9 hk9 hf9 hbn hkn)
  clear hbn hkn hok9 hk9 hf9 HG
  have HG := HG'
  clear HG'
  go_wp2_with fail
  obtain ⟨C9, f9, hok9, hk9, hf9⟩ := HG.out
  refine (growBlocksZ_any hok9.blk (hok9.z 39 (by unfold Nk; omega)).1 (hok9.z 39 (by unfold Nk; omega)).2).mono ?_
  rintro e wn ⟨rfl, hbn, hkn⟩
  have HG' := hide (Gs.nil hok9 hk9 hf9 hbn hkn)
  clear hbn hkn hok9 hk9 hf9 HG
  have HG := HG'
  clear HG'
  go_wp2_with fail
  obtain ⟨C9, f9, hok9, hk9, hf9⟩ := HG.out
  refine (growCommitsZ_any hok9.blk (hok9.z 42 (by unfold Nk; omega)).1 (hok9.z 42 (by unfold Nk; omega)).2).mono ?_
  rintro e wn ⟨rfl, hbn, hkn⟩
  have HG' := hide (Gs.nil hok9 hk9 hf9 hbn hkn)
  clear hbn hkn hok9 hk9 hf9 HG
  have HG := HG'
  clear HG'
  go_wp2_with fail
  obtain ⟨C9, f9, hok9, hk9, hf9⟩ := HG.out
  refine (growTypesK_any hok9.blk hok9.n (hok9.r 3).1 (hok9.r 3).2.1 (hok9.r 3).2.2 (hok9.k 3) hok9.ht hok9.hu hok9.sz).mono ?_
  rintro e wn ⟨rfl, hgr⟩
  have HG' := hide (Gs.grown 3 hok9 hk9 hf9 hgr.out)
  clear hgr hok9 hk9 hf9 HG
  have HG := HG'
  clear HG'
  go_wp2_with fail
  obtain ⟨C9, f9, hok9, hk9, hf9⟩ := HG.out
  refine (growTypedsZ_any hok9.blk (hok9.z 48 (by unfold Nk; omega)).1 (hok9.z 48 (by unfold Nk; omega)).2).mono ?_
  rintro e wn ⟨rfl, hbn, hkn⟩
  have HG' := hide (Gs.nil hok9 hk9 hf9 hbn hkn)
  clear hbn hkn hok9 hk9 hf9 HG
  have HG := HG'
  clear HG'
  go_wp2_with fail
  obtain ⟨C9, f9, hok9, hk9, hf9⟩ := HG.out
  refine (growStepsZ_any hok9.blk (hok9.z 51 (by unfold Nk; omega)).1 (hok9.z 51 (by unfold Nk; omega)).2).mono ?_
  rintro e wn ⟨rfl, hbn, hkn⟩
  have HG' := hide (Gs.nil hok9 hk9 hf9 hbn hkn)
  clear hbn hkn hok9 hk9 hf9 HG
  have HG := HG'
  clear HG'
  obtain ⟨C9, f9, hok9, hk9, hf9⟩ := HG.out
  have c54 := blk_cell hok9.blk hok9.c54
  have c55 := blk_cell hok9.blk hok9.c55
  have f55 := blk_frozen 55 hok9.blk
  have HFI : Hid (Gs w base B f t t u (wn.setCell ⟨B, 55, none⟩ (.int .i64 ((t : Nat) : Int)))) := by
    have hkp : Kp (fun q => q = B) wn (wn.setCell ⟨B, 55, none⟩ (.int .i64 ((t : Nat) : Int))) := (Kp.refl _ _).setCell _ _ (fun _ => rfl)
    have hch := Chg.set C9 55 (.int .i64 ((t : Nat) : Int))
    refine ⟨_, f9, ⟨blk_set 55 _ hok9.blk, hch.n.trans hok9.n, (hch.k _ (by decide)).trans hok9.c54, get_set (by have := hok9.n; omega), (hch.k _ (by decide)).trans hok9.c56, fun i => ?_, fun k hk => ?_, fun i => (hok9.k i).kp hkp (fun q e es => (hok9.k i).c.notB (Kd_ok i) hok9.blk (by rw [← es]; exact e)), hok9.dj, hok9.hb, hok9.ht, hok9.hu⟩, hk9.trans hkp (fun q _ e => ?_), hf9⟩
    · have hl := Jd_lt i
      exact ⟨(hch.k _ (by omega)).trans (hok9.r i).1, (hch.k _ (by omega)).trans (hok9.r i).2.1, (hch.k _ (by omega)).trans (hok9.r i).2.2⟩
    · have hkl : k + 2 < 54 := by unfold Nk at hk; omega
      exact ⟨(hch.k _ (by omega)).trans (hok9.z k hk).1, (hch.k _ (by omega)).trans (hok9.z k hk).2⟩
    · rcases hf9 q (.inl e) with h3 | h3
      · exact h3
      · omega
  clear hok9 hk9 hf9
  go_wp2
  go_end0
  exact ⟨rfl, HFI⟩
def Bk4 (w : World) (base B : Nat) (F : Nat → Prop) (t : Nat) : Prop := ∃ C f d u, Bkq w base B C f t d u ∧ ∀ k, Ft4 B f k → F k
theorem Bk4.mono {w : World} {base B : Nat} {F G : Nat → Prop} {t : Nat} (h : Bk4 w base B F t) (hg : ∀ k, k < w.heap.size → F k → G k) : Bk4 w base B G t := by
  obtain ⟨C, f, d, u, hok, hf⟩ := h
  exact ⟨C, f, d, u, hok, fun k hk => hg k (hok.lt k hk).2 (hf k hk)⟩
set_option maxRecDepth 1000000 in
set_option maxHeartbeats 400000 in
theorem look4_any {w : World} {base B : Nat} {F : Nat → Prop} {t : Nat} (h : Bk4 w base B F t) :
    Calls Tryz.prog 13 #[.pointer (some ⟨B, 0, none⟩)] w fun e w' => e = .returned (.bool true) ∧ Hid (Bk4 w' base B (fun k => F k ∨ w.heap.size ≤ k) t ∧ Kp F w w') := by
  obtain ⟨C, f, d, u, hok, hf⟩ := h
  have HOK := hide hok
  have HFF := hide hf
  clear hok hf
  go_enter Tryz.func13, Tryz.ntmps13
  go_wp2_with fail
  refine (holds4_any HOK.out).mono ?_
  rintro e w1 ⟨rfl, hb1⟩
  have HOK1 := hide (HOK.out.next hb1)
  have HB1 := hide hb1
  have c54 : w1.cell? ⟨B, 54, none⟩ = some (.int .i64 (t : Nat)) := blk_cell HOK1.out.blk HOK1.out.c54
  have c55 : w1.cell? ⟨B, 55, none⟩ = some (.int .i64 (d : Nat)) := blk_cell HOK1.out.blk HOK1.out.c55
  clear hb1
  by_cases hdt : d = t
  · have hdt' : ((d : Int) == (t : Int)) = true := beq_iff_eq.2 (by omega)
    have HDT := hide hdt
    clear hdt
    go_wp2
    go_quiet (fail)
    go_wp2
    go_ret
    have hk1 : Kp (fun _ => False) w w1 := Kp.of_below HB1.out
    exact ⟨rfl, ⟨C, f, d, u, HOK1.out.kp ((Kp.refl (fun _ => False) _).drewN _) (fun _ _ e => e), fun k hk => .inl (HFF.out k hk)⟩, (hk1.mono (fun _ _ h => h.elim)).drewN _⟩
  · have hdt' : ((d : Int) == (t : Int)) = false := beq_eq_false_iff_ne.2 (by omega)
    clear hdt
    go_wp2
    go_quiet (fail)
    go_wp2_with fail
    refine (bgrow4_any (HOK1.out.kp ((Kp.refl (fun _ => False) _).drewN _) (fun _ _ e => e))).mono ?_
    rintro e w2 ⟨rfl, hg2⟩
    obtain ⟨C2, f2, hok2, hk2, hf2⟩ := hg2.out
    have HOK2 := hide hok2
    have HK2 := hide hk2
    have HF2 := hide hf2
    clear hg2 hok2 hk2 hf2
    go_wp2_with fail
    refine (holds4_any HOK2.out).mono ?_
    rintro e w3 ⟨rfl, hb3⟩
    have HOK3 := hide (HOK2.out.next hb3)
    have HK3 : Hid (Kp (fun _ => False) w2 w3) := Kp.of_below hb3
    clear hb3
    go_wp2
    go_ret
    have hk1 : Kp (fun _ => False) w w1 := Kp.of_below HB1.out
    refine ⟨rfl, ⟨C2, f2, t, u, HOK3.out, fun k hk => ?_⟩, ?_⟩
    · rcases HF2.out k hk with h | h
      · exact .inl (HFF.out k h)
      · exact .inr (Nat.le_trans hk1.size h)
    · exact ((hk1.mono (fun _ _ h => h.elim)).drewN _).trans ((HK2.out.trans HK3.out (fun _ _ h => h.elim)).mono (fun k _ hk => HFF.out k hk)) (fun _ _ h => h)
end
section
open Go.RowKit Go
def Pt4 (w : World) (base B : Nat) (f : Fin 4 → Fs) (t d : Nat) (L : Nat → Prop) (n : Nat) (w' : World) : Prop := ∃ C' f' u', Bkq w' base B C' f' (t + n) d u' ∧ Kp (fun q => Ft4 B f q ∨ L q) w w' ∧ ∀ q, Ft4 B f' q → Ft4 B f q ∨ L q ∨ w.heap.size ≤ q
theorem Bkq.put {w w' : World} {base B : Nat} {C : Array Value} {f : Fin 4 → Fs} {t d u : Nat} (h : Bkq w base B C f t d u) (i : Fin 4) {l : Value} (hp : BkP (Kd i) (Jd i) w base B C (f i).vb (f i).vo (f i).es (f i).a t u l w') (hd : ∀ q, l.ownBlock = some q → ¬ Ft4 B f q) (ht : t + 1 < 68719476736) : Pt4 w base B f t d (fun q => l.ownBlock = some q) 1 w' := by
  obtain ⟨vb', vo', es', u', C', hblk, hch, h0, h1, h54, h56, hK, huu, hu', hkp, hft⟩ := hp
  have hji := Jd_lt i
  refine ⟨C', Go.Proofs.YtbbalhfjgpaabaaGreatDoor.upd f i ⟨vb', vo', es', (f i).a⟩, u', h.upd i ⟨vb', vo', es', (f i).a⟩ (fun q => l.ownBlock = some q) hblk (hch.trans (Chg.refl (fun _ => False) _) (fun k e => by omega) (fun k e => e.elim)) ⟨h0, h1, (hch.k _ (by omega)).trans (h.r i).2.2⟩ h54 h56 hK (hkp.mono (fun q _ e => ?_)) (fun j _ q e e2 => hd q e2 (.inr ⟨j, e⟩)) (fun q e => hft q e) (by omega) huu ht hu', hkp.mono (fun q _ e => ?_), fun q e => ?_⟩
  · rcases e with e | e | e | e
    · exact .inl e
    · exact .inr (.inl (.inl e))
    · exact .inr (.inl (.inr (.inl e)))
    · exact .inr (.inr e)
  · rcases e with e | e | e | e
    · exact .inl (.inl e)
    · exact .inl (.inr ⟨i, .inl e⟩)
    · exact .inl (.inr ⟨i, .inr (.inl e)⟩)
    · exact .inr e
  · rcases e with e | ⟨j, e⟩
    · exact .inl (.inl e)
    · by_cases ej : j = i
      · subst ej
        rw [upd_i] at e
        rcases hft q e with e | e
        · exact .inl (.inr ⟨j, e⟩)
        · exact .inr e
      · rw [upd_j f _ ej] at e
        exact .inl (.inr ⟨j, e⟩)
set_option maxRecDepth 1000000 in
set_option maxHeartbeats 1000000 in
theorem textsM_any {w : World} {base B : Nat} {C : Array Value} {vb vo : Value} {es : List Ent} {a t u : Nat} (hB : w.heap[B]? = some (.cells C 47 (0, 0))) (h57 : C.size = 57) (hJ0 : C[6]? = some vb) (hJ1 : C[7]? = some vo) (h54 : C[54]? = some (.int .i64 ((t : Nat) : Int))) (h56 : C[56]? = some (.int .i64 ((u : Nat) : Int))) (hK : Ko KT w base vb vo es a t u) (l : Value) (n : Nat) (xs : List Value) (hl : w.ownsRow base 9 1 l n xs) (hn : n < 68719476736)
    (hd : ∀ e ∈ es, ∀ k, e.val.ownBlock = some k → l.ownBlock ≠ some k) (ht : t + 1 < 68719476736) (hu : u ≤ 16777216) (hbase : base ≤ w.heap.size) :
    Calls Tryz.prog 33 #[.pointer (some ⟨B, 0, none⟩), l] w fun e w' => e = .returned (.tuple #[]) ∧ Hid (BkP KT 6 w base B C vb vo es a t u l w') := by
  have HEND : Hid (∀ w2, BkP KT 6 w base B C vb vo es a t u l w2 → Hid (BkP KT 6 w base B C vb vo es a t u l w2)) := fun _ h => h
  have c54 : w.cell? ⟨B, 54, none⟩ = some (.int .i64 (t : Nat)) := blk_cell hB h54
  have f54 := blk_frozen 54 hB
  have htt : (t : Int) + 1 < 68719476736 := by omega
  obtain ⟨al, capl, hlf⟩ := own_slice hl
  have HLB : Hid (l.ownBlock ≠ some B) := own_not hl hB (by decide)
  have e1 : ((t : Int) + 1) = ((t + 1 : Nat) : Int) := by omega
  have HB1 : Hid ((w.setCell ⟨B, 54, none⟩ (.int .i64 ((t : Int) + 1))).heap[B]? = some (.cells (C.setIfInBounds 54 (.int .i64 ((t + 1 : Nat) : Int))) 47 (0, 0))) := by show _ = _; rw [e1]; exact blk_set 54 _ hB
  have c54' : (w.setCell ⟨B, 54, none⟩ (.int .i64 ((t : Int) + 1))).cell? ⟨B, 54, none⟩ = some (.int .i64 ((t : Int) + 1)) := blk_cell HB1.out (by rw [get_set (by omega), e1])
  have HBB := hide hB
  have H57 := hide h57
  have HJ0 := hide hJ0
  have HJ1 := hide hJ1
  have HC56 := hide h56
  have HK := hide hK
  have HN := hide hn
  have HT := hide ht
  have HU := hide hu
  have HBASE := hide hbase
  have HK1 : Hid (Kp (fun k => k = B ∨ l.ownBlock = some k) w (w.setCell ⟨B, 54, none⟩ (.int .i64 ((t : Int) + 1)))) := (Kp.refl _ w).setCell _ _ (fun _ => .inl rfl)
  have HO1 : Hid ((w.setCell ⟨B, 54, none⟩ (.int .i64 ((t : Int) + 1))).ownsRow base 9 1 l n xs) := ((Kp.refl (fun k => k = B) w).setCell ⟨B, 54, none⟩ (.int .i64 ((t : Int) + 1)) (fun _ => rfl)).owns hl (fun k hk e => HLB.out (by rw [hk, e]))
  have HL := hide hl
  have HD := hide hd
  subst hlf
  have hnn : (n : Int) < 68719476736 := by omega
  clear hB h57 hJ0 hJ1 h54 h56 hK hl hn hd ht hu hbase e1
  obtain ⟨iL, hiL, hzL0, hzL1, hzL2⟩ := infoS_ex
  go_enter Tryz.func33, Tryz.ntmps33
  go_wp2_with fail
  clear c54 f54 c54'
  generalize w.setCell ⟨B, 54, none⟩ (.int .i64 ((t : Int) + 1)) = w1 at *
  refine (textsMark_any ((t : Int) + 1) w1 (by omega) (by omega)).mono ?_
  rintro e w2 ⟨rfl, hb2⟩
  have e2 : ((t : Int) + 1).toNat = t + 1 := by omega
  rw [e2]
  have HBR0 : Hid (w2.heap[B]? = some (.cells (C.setIfInBounds 54 (.int .i64 ((t + 1 : Nat) : Int))) 47 (0, 0))) := (hb2.block B (blk_lt HB1.out)).trans HB1.out
  have HROW0 : Hid (w2.ownsRow base 9 1 (.slice al n capl) n xs) := (Kp.of_below (S := fun _ => False) hb2).owns HO1.out (fun _ _ e => e)
  have HKP0 : Hid (Kp (fun k => k = B ∨ (Value.slice al n capl).ownBlock = some k) w w2) := HK1.out.trans (Kp.of_below (S := fun _ => False) hb2) (fun _ _ e => e.elim)
  clear hb2 HB1 HO1 HK1 e2
  go_wp2_with fail
  go_loopw [6] (fun i wr => ∃ k : Nat, k ≤ n ∧ i = .int .i64 k ∧ Hid (wr.heap[B]? = some (.cells (C.setIfInBounds 54 (.int .i64 ((t + 1 : Nat) : Int))) 47 (0, 0))) ∧ Hid (wr.ownsRow base 9 1 (.slice al n capl) n (KT.mkl (t + 1) k ++ xs.drop (k * 1))) ∧ Hid (Kp (fun k => k = B ∨ (Value.slice al n capl).ownBlock = some k) w wr)) (fun i _ => n - (intOf i).toNat)
  case atStart => exact ⟨0, Nat.zero_le _, rfl, HBR0, by simpa [Knd.mkl] using HROW0, HKP0⟩
  case round =>
    obtain ⟨k, hk, rfl, HBR, HROW, HKP⟩ := hrel
    clear HBR0 HROW0 HKP0
    by_cases hlt : k < n
    · have hlt' : (k : Int) < (n : Int) := by omega
      have hxl : xs.length = n := by have := HL.out.1; omega
      obtain ⟨g, hg⟩ : ∃ g, al = some ⟨g, 0, none⟩ := by
        rcases HL.out.2 with ⟨_, h0⟩ | ⟨g, _, _, hv, _⟩
        · omega
        · injection hv with hv; exact ⟨g, hv⟩
      subst hg
      have hml : (KT.mkl (t + 1) k).length = k := by rw [Knd.mkl_len (fun _ => rfl)]; exact Nat.mul_one k
      obtain ⟨hc, hfz⟩ := own_cell HROW.out (j := k) (u := xs[k]'(by omega)) (by
        rw [List.getElem?_append_right (by omega), hml, Nat.sub_self, Nat.mul_one]
        simp)
      have HST : Hid ((KT.mkl (t + 1) k ++ xs.drop (k * 1)).set k (.string (tmk (t + 1))) = KT.mkl (t + 1) (k + 1) ++ xs.drop ((k + 1) * 1)) := by
        show _ = _
        have h1 := spl_step (F := KT) (m := t + 1) (k := k) (xs := xs) (fun _ => rfl)
        rw [← splice_one _ _ _ (by rw [List.length_append, hml, List.length_drop]; omega)]
        exact h1
      have HRO2 : Hid ((wr.setCell ⟨g, k, none⟩ (.string (tmk (t + 1)))).ownsRow base 9 1 (.slice (some ⟨g, 0, none⟩) n capl) n (KT.mkl (t + 1) (k + 1) ++ xs.drop ((k + 1) * 1))) := by
        have h := own_set (j := k) (.string (tmk (t + 1))) HROW.out
        rw [HST.out] at h
        exact h
      have HBR2 : Hid ((wr.setCell ⟨g, k, none⟩ (.string (tmk (t + 1)))).heap[B]? = some (.cells (C.setIfInBounds 54 (.int .i64 ((t + 1 : Nat) : Int))) 47 (0, 0))) := (((Kp.refl (fun q => q = g) wr).setCell ⟨g, k, none⟩ (.string (tmk (t + 1))) (fun _ => rfl)).block B (blk_lt HBR.out) (fun e => HLB.out (by rw [e]; rfl))).trans HBR.out
      have HKP2 : Hid (Kp (fun k => k = B ∨ (Value.slice (some ⟨g, 0, none⟩) n capl).ownBlock = some k) w (wr.setCell ⟨g, k, none⟩ (.string (tmk (t + 1))))) := HKP.out.setCell _ _ (fun _ => .inr rfl)
      generalize xs[k]'(by omega) = old at hc
      clear hxl hml HST
      go_wp2
      go_roundw
      case rel => exact ⟨k + 1, by omega, by go_num, HBR2, HRO2, HKP2⟩
      case measure => simp [intOf]; omega
    · have hlt' : ¬ (k : Int) < (n : Int) := by omega
      have hkn : k = n := by omega
      have HW : Hid (wr.ownsRow base 9 1 (.slice al n capl) n (KT.mkl (t + 1) n)) := by
        have h := HROW.out
        have hxl : xs.length = n * 1 := HL.out.1
        rw [hkn, List.drop_of_length_le (by omega), List.append_nil] at h
        exact h
      have HCC := hide ((HK.out.c).marked KT_ok HBB.out HL.out HD.out HKP.out)
      clear hkn HROW
      have hu := HU.out
      by_cases hfull : (16777216 : Int) < (u : Int) + (8000 + 300 * (n : Int))
      · have HTF := hide (tightQ_full HBR.out (by rw [get_set_ne (by decide)]; exact HC56.out) (8000 + 300 * (n : Int)) hu (by omega) (by have := HN.out; omega) (by omega))
        go_wp2_with fail
        refine HTF.out.mono ?_
        rintro e w' ⟨rfl, rfl⟩
        go_wp2
        refine bodyPost_ret (results_none rfl _ _ _) rfl ?_
        exact ⟨rfl, HEND.out _ (BkP.full KT_ok HBB.out HJ0.out HJ1.out HC56.out (by decide) H57.out HK.out HL.out HD.out HU.out HBR.out HKP.out)⟩
      · obtain ⟨U, hU⟩ : ∃ U : Nat, U = u + (8000 + 300 * n) := ⟨_, rfl⟩
        have HTR := hide (tightQ_room HBR.out (by rw [get_set_ne (by decide)]; exact HC56.out) (8000 + 300 * (n : Int)) hu (by omega) (by have := HN.out; omega) (by omega) U (by omega))
        have HUU : Hid (u + KT.cost ≤ U ∧ U ≤ 16777216) := ⟨by show u + 8000 ≤ U; omega, by omega⟩
        clear hU
        go_wp2_with fail
        refine HTR.out.mono ?_
        rintro e w2 ⟨rfl, hblk2, hkp2⟩
        have HB2 := hide hblk2
        have HC2 : Hid (Kc KT w2 base vb vo es t) := HCC.out.kp hkp2 (fun q hq e => HCC.out.notB KT_ok HBR.out (by rw [← e]; exact hq))
        have HW2 : Hid (w2.ownsRow base 9 1 (.slice al n capl) n (KT.mkl (t + 1) n)) := hkp2.owns HW.out (fun q hq e => own_not HW.out HBR.out (by decide) (by rw [← e]; exact hq))
        have HK2 : Hid (Kp (fun k => k = B ∨ (Value.slice al n capl).ownBlock = some k) w w2) := HKP.out.trans hkp2 (fun q _ e => .inl e)
        have HBS : Hid (base ≤ w2.heap.size) := Nat.le_trans HBASE.out HK2.out.size
        have hlen : es.length < 1099511627776 := by obtain ⟨c, r, h1, h2, h3⟩ := HK.out.count; simp only [KT] at h2 h3; omega
        have c0 : w2.cell? ⟨B, 6, none⟩ = some vb := blk_cell hblk2 (by rw [get_set_ne (by decide), get_set_ne (by decide)]; exact HJ0.out)
        clear hblk2 hkp2 HCC HW HTR HKP HBR hfull
        go_wp2_with (at_builtin; refine append_lst rfl _ _ 31 23 iL Tryz.underlying31 hiL hzL0 hzL1 hzL2 rfl base vb es.length _ rfl HC2.out.hb _ _ rfl rfl rfl hlen HBS.out ?_)
        intro v3 w3 ho3 hg3 hat3
        obtain ⟨a3, c3, hv3⟩ := own_slice ho3
        obtain ⟨hblk3, hblk4, hhalf, hkp4⟩ := HC2.out.push_a KT_ok HB2.out 6 ⟨Value.slice al n capl, n, t + 1⟩ HW2.out v3 ho3 hg3
        have c0' : w3.cell? ⟨B, 6, none⟩ = some vb := blk_cell hblk3 (by rw [get_set_ne (by decide), get_set_ne (by decide)]; exact HJ0.out)
        have c1' : (w3.setCell ⟨B, 6, none⟩ v3).cell? ⟨B, 7, none⟩ = some vo := blk_cell hblk4 (by rw [get_set_ne (by decide), get_set_ne (by decide), get_set_ne (by decide)]; exact HJ1.out)
        have f0' := blk_frozen 6 hblk3
        have HHF := hide hhalf
        have HKP4 := hide hkp4
        have HB4 := hide hblk4
        have HAT3 : Hid (∀ z, v3.ownBlock = some z → vb.ownBlock = some z ∨ w.heap.size ≤ z) := fun z hz => by
          rcases hat3 with h | h
          · exact .inl (by rw [← h]; exact hz)
          · rw [h] at hz; injection hz with hz; exact .inr (by have := HK2.out.size; omega)
        have HSZ4 : Hid (base ≤ (w3.setCell ⟨B, 6, none⟩ v3).heap.size ∧ w.heap.size ≤ (w3.setCell ⟨B, 6, none⟩ v3).heap.size) := ⟨Nat.le_trans HBS.out hkp4.size, Nat.le_trans HK2.out.size hkp4.size⟩
        have HLEN := hide hlen
        subst hv3
        clear ho3 hg3 hat3 hblk3 hblk4 hhalf hkp4 c0 hlen
        go_wp2_with (at_builtin; go_must (refine append_int rfl _ _ rfl base vo es.length _ rfl HHF.out.ho _ w3.heap.size (by simp) rfl HLEN.out HSZ4.out.1 ?_))
        intro v5 w5 ho5 hg5 hat5
        obtain ⟨a5, c5, hv5⟩ := own_slice ho5
        have e1 : ((t : Int) + 1) = ((t + 1 : Nat) : Int) := by omega
        rw [e1] at ho5 hg5
        obtain ⟨hblk5, hblk6, hbk6, hkp6⟩ := HHF.out.push_b KT_ok (t := t + 1) HB4.out 7 v5 ho5 hg5 HC2.out.hs (fun x hx z h1 h2 => absurd h2 (HD.out x hx z h1)) (fun x hx => ⟨by have := (HC2.out.hm x hx).1; omega, (HC2.out.hm x hx).2⟩) ⟨Nat.le_refl _, by have := HN.out; show n < _; omega⟩
        have c1'' : w5.cell? ⟨B, 7, none⟩ = some vo := blk_cell hblk5 (by rw [get_set_ne (by decide), get_set_ne (by decide), get_set_ne (by decide)]; exact HJ1.out)
        have f1'' := blk_frozen 7 hblk5
        have HFI : Hid (BkP KT 6 w base B C vb vo es a t u (.slice al n capl) (w5.setCell ⟨B, 7, none⟩ v5)) := BkP.kept (by decide) H57.out HK.out HD.out HN.out HUU.out.2 HUU.out.1 HK2.out HKP4.out hkp6 hblk6 hbk6 HAT3.out (fun z hz => by
          rcases hat5 with h | h
          · exact .inl (by rw [← h]; exact hz)
          · rw [h] at hz; injection hz with hz; exact .inr (by have := HSZ4.out.2; simp at this; omega))
        subst hv5
        clear ho5 hg5 hat5 hblk5 hblk6 hbk6 hkp6 e1
        go_wp2
        go_end0
        exact ⟨rfl, HEND.out _ HFI.out⟩
end
section
open Go.RowKit Go

end
section
open Go.RowKit Go

end
section
open Go.RowKit Go

end
section
open Go.RowKit Go
set_option maxRecDepth 1000000 in
set_option maxHeartbeats 1000000 in
theorem casesM_any {w : World} {base B : Nat} {C : Array Value} {vb vo : Value} {es : List Ent} {a t u : Nat} (hB : w.heap[B]? = some (.cells C 47 (0, 0))) (h57 : C.size = 57) (hJ0 : C[24]? = some vb) (hJ1 : C[25]? = some vo) (h54 : C[54]? = some (.int .i64 ((t : Nat) : Int))) (h56 : C[56]? = some (.int .i64 ((u : Nat) : Int))) (hK : Ko KC w base vb vo es a t u) (l : Value) (n : Nat) (xs : List Value) (hl : w.ownsRow base 114 2 l n xs) (hn : n < 68719476736)
    (hd : ∀ e ∈ es, ∀ k, e.val.ownBlock = some k → l.ownBlock ≠ some k) (ht : t + 1 < 68719476736) (hu : u ≤ 16777216) (hbase : base ≤ w.heap.size) :
    Calls Tryz.prog 69 #[.pointer (some ⟨B, 0, none⟩), l] w fun e w' => e = .returned (.tuple #[]) ∧ Hid (BkP KC 24 w base B C vb vo es a t u l w') := by
  have HEND : Hid (∀ w2, BkP KC 24 w base B C vb vo es a t u l w2 → Hid (BkP KC 24 w base B C vb vo es a t u l w2)) := fun _ h => h
  have c54 : w.cell? ⟨B, 54, none⟩ = some (.int .i64 (t : Nat)) := blk_cell hB h54
  have f54 := blk_frozen 54 hB
  have htt : (t : Int) + 1 < 68719476736 := by omega
  obtain ⟨al, capl, hlf⟩ := own_slice hl
  have HLB : Hid (l.ownBlock ≠ some B) := own_not hl hB (by decide)
  have e1 : ((t : Int) + 1) = ((t + 1 : Nat) : Int) := by omega
  have HB1 : Hid ((w.setCell ⟨B, 54, none⟩ (.int .i64 ((t : Int) + 1))).heap[B]? = some (.cells (C.setIfInBounds 54 (.int .i64 ((t + 1 : Nat) : Int))) 47 (0, 0))) := by show _ = _; rw [e1]; exact blk_set 54 _ hB
  have c54' : (w.setCell ⟨B, 54, none⟩ (.int .i64 ((t : Int) + 1))).cell? ⟨B, 54, none⟩ = some (.int .i64 ((t : Int) + 1)) := blk_cell HB1.out (by rw [get_set (by omega), e1])
  have HBB := hide hB
  have H57 := hide h57
  have HJ0 := hide hJ0
  have HJ1 := hide hJ1
  have HC56 := hide h56
  have HK := hide hK
  have HN := hide hn
  have HT := hide ht
  have HU := hide hu
  have HBASE := hide hbase
  have HK1 : Hid (Kp (fun k => k = B ∨ l.ownBlock = some k) w (w.setCell ⟨B, 54, none⟩ (.int .i64 ((t : Int) + 1)))) := (Kp.refl _ w).setCell _ _ (fun _ => .inl rfl)
  have HO1 : Hid ((w.setCell ⟨B, 54, none⟩ (.int .i64 ((t : Int) + 1))).ownsRow base 114 2 l n xs) := ((Kp.refl (fun k => k = B) w).setCell ⟨B, 54, none⟩ (.int .i64 ((t : Int) + 1)) (fun _ => rfl)).owns hl (fun k hk e => HLB.out (by rw [hk, e]))
  have HL := hide hl
  have HD := hide hd
  subst hlf
  have hnn : (n : Int) < 68719476736 := by omega
  clear hB h57 hJ0 hJ1 h54 h56 hK hl hn hd ht hu hbase e1
  obtain ⟨iL, hiL, hzL0, hzL1, hzL2⟩ := infoCsS_ex
  have HAL : Hid ((cma (t + 1)).all (·.oneCell') = true) := by
    show _ = _
    rw [Array.all_eq_true']
    intro x hx
    exact cma_one (t + 1) x (by simpa using hx)
  go_enter Tryz.func69, Tryz.ntmps69
  go_wp2_with fail
  clear c54 f54 c54'
  generalize w.setCell ⟨B, 54, none⟩ (.int .i64 ((t : Int) + 1)) = w1 at *
  refine (casesMark_any ((t : Int) + 1) w1 (by omega) (by omega)).mono ?_
  rintro e w2 ⟨rfl, hb2⟩
  have e2 : ((t : Int) + 1).toNat = t + 1 := by omega
  rw [e2]
  have hb3 : Below w1.heap.size w1 (w2.alloc (.cells (cma (t + 1)) 114)) := hb2.trans ((below_alloc4 w2 _).mono hb2.size)
  have HBR0 : Hid ((w2.alloc (.cells (cma (t + 1)) 114)).heap[B]? = some (.cells (C.setIfInBounds 54 (.int .i64 ((t + 1 : Nat) : Int))) 47 (0, 0))) := (hb3.block B (blk_lt HB1.out)).trans HB1.out
  have HROW0 : Hid ((w2.alloc (.cells (cma (t + 1)) 114)).ownsRow base 114 2 (.slice al n capl) n xs) := (Kp.of_below (S := fun _ => False) hb3).owns HO1.out (fun _ _ e => e)
  have HKP0 : Hid (Kp (fun k => k = B ∨ (Value.slice al n capl).ownBlock = some k) w (w2.alloc (.cells (cma (t + 1)) 114))) := HK1.out.trans (Kp.of_below (S := fun _ => False) hb3) (fun _ _ e => e.elim)
  have HX0 : Hid ((w2.alloc (.cells (cma (t + 1)) 114)).heap[w2.heap.size]? = some (.cells (cma (t + 1)) 114 (0, 0))) := heap_alloc_new w2 _
  have HGZ : Hid ((w2.alloc (.cells #[.string ⟨#[]⟩, .string ⟨#[]⟩] 114)).heap[w2.heap.size]? = some (.cells #[.string ⟨#[]⟩, .string ⟨#[]⟩] 114 (0, 0))) := heap_alloc_new w2 _
  have HGX : Hid (w.heap.size ≤ w2.heap.size) := Nat.le_trans HK1.out.size hb2.size
  clear hb2 hb3 HB1 HO1 HK1 e2
  go_wp2_with (refine wpList_storeRow rfl rfl w2.heap.size #[.string ⟨#[]⟩, .string ⟨#[]⟩] (cma (t + 1)) 114 rfl rfl HGZ.out infoCz rfl HAL.out ?_; rw [World.setRow_alloc_new]; generalize w2.alloc (.cells (cma (t + 1)) 114) = w3 at *)
  clear HGZ
  generalize w2.heap.size = gx at *
  go_loopw [6] (fun i wr => ∃ k : Nat, k ≤ n ∧ i = .int .i64 k ∧ Hid (wr.heap[B]? = some (.cells (C.setIfInBounds 54 (.int .i64 ((t + 1 : Nat) : Int))) 47 (0, 0))) ∧ Hid (wr.ownsRow base 114 2 (.slice al n capl) n (KC.mkl (t + 1) k ++ xs.drop (k * 2))) ∧ Hid (Kp (fun k => k = B ∨ (Value.slice al n capl).ownBlock = some k) w wr) ∧ Hid (wr.heap[gx]? = some (.cells (cma (t + 1)) 114 (0, 0)))) (fun i _ => n - (intOf i).toNat)
  case atStart => exact ⟨0, Nat.zero_le _, rfl, HBR0, by simpa [Knd.mkl] using HROW0, HKP0, HX0⟩
  case round =>
    obtain ⟨k, hk, rfl, HBR, HROW, HKP, HX⟩ := hrel
    clear HBR0 HROW0 HKP0 HX0
    by_cases hlt : k < n
    · have hlt' : (k : Int) < (n : Int) := by omega
      obtain ⟨g, hg⟩ : ∃ g, al = some ⟨g, 0, none⟩ := by
        rcases HL.out.2 with ⟨_, h0⟩ | ⟨g, _, _, hv, _⟩
        · omega
        · injection hv with hv; exact ⟨g, hv⟩
      subst hg
      obtain ⟨cur, hcur, hcz⟩ : ∃ cur, wr.heap[g]? = some (.cells cur 114 (0, 0)) ∧ n * 2 ≤ cur.size := by
        rcases HROW.out.2 with ⟨e, _⟩ | ⟨g', cap', cur, e, _, h1, h2, _, h3, _⟩
        · cases e
        · injection e with e1 e2 e3
          injection e1 with e1
          injection e1 with e1 _ _
          subst e1
          exact ⟨cur, h1, by rw [h3]; exact Nat.mul_le_mul_right 2 h2⟩
      have HGL : Hid (g < w.heap.size) := (HL.out.lt g rfl).2
      have HXC : Hid (∀ j u, (cma (t + 1))[j]? = some u → wr.cell? ⟨gx, 0 + j, none⟩ = some u) := fun j u hu => by rw [Nat.zero_add]; exact blk_cell HX.out hu
      have HCUR : Hid (wr.heap[g]? = some (.cells cur.toList.toArray 114 (0, 0))) := hcur
      have HLT : Hid (k * 2 + 2 ≤ cur.toList.length) := by show _ ≤ _; simp; omega
      have HST : Hid (∀ w6 : World, w6.heap[g]? = some (.cells (splice cur.toList (k * 2) (cma (t + 1)).toList).toArray 114 (0, 0)) → Kp (fun q => q = g) wr w6 → w6.heap[B]? = some (.cells (C.setIfInBounds 54 (.int .i64 ((t + 1 : Nat) : Int))) 47 (0, 0)) ∧ w6.ownsRow base 114 2 (.slice (some ⟨g, 0, none⟩) n capl) n (KC.mkl (t + 1) (k + 1) ++ xs.drop ((k + 1) * 2)) ∧ Kp (fun k => k = B ∨ (Value.slice (some ⟨g, 0, none⟩) n capl).ownBlock = some k) w w6 ∧ w6.heap[gx]? = some (.cells (cma (t + 1)) 114 (0, 0))) := fun w6 h6 hk6 => by
        refine ⟨(hk6.block B (blk_lt HBR.out) (fun e => HLB.out (by rw [e]; rfl))).trans HBR.out, ?_, HKP.out.trans hk6 (fun q _ e => .inr (by rw [e]; rfl)), (hk6.block gx (blk_lt HX.out) (fun e => by have h1 := HGL.out; have h2 := HGX.out; omega)).trans HX.out⟩
        have h := own_spl (k := k) HROW.out hcur hlt (zs := (cma (t + 1)).toList) rfl h6
        have h1 := spl_step (F := KC) (m := t + 1) (k := k) (xs := xs) (fun _ => rfl)
        have h2 : splice (KC.mkl (t + 1) k ++ xs.drop (k * 2)) (k * 2) (cma (t + 1)).toList = KC.mkl (t + 1) (k + 1) ++ xs.drop ((k + 1) * 2) := h1
        rw [h2] at h
        exact h
      clear hcur hcz HBR HROW HKP HX
      go_wp2_with (first
        | (refine wpList_aggAt rfl rfl infoCz aggCz gx 0 (cma (t + 1)) rfl rfl HXC.out ?_)
        | (refine wpList_storePart rfl rfl g (k * 2) cur.toList (cma (t + 1)).toList 114 rfl rfl HCUR.out infoCz HLT.out (cma_one (t + 1)) ?_))
      intro w6 h6 hk6
      obtain ⟨q1, q2, q3, q4⟩ := HST.out w6 h6.out hk6.out
      have HBR2 := hide q1
      have HRO2 := hide q2
      have HKP2 := hide q3
      have HX2 := hide q4
      clear h6 hk6 HST q1 q2 q3 q4
      go_wp2
      go_roundw
      case rel => exact ⟨k + 1, by omega, by go_num, HBR2, HRO2, HKP2, HX2⟩
      case measure => simp [intOf]; omega
    · have hlt' : ¬ (k : Int) < (n : Int) := by omega
      have hkn : k = n := by omega
      have HW : Hid (wr.ownsRow base 114 2 (.slice al n capl) n (KC.mkl (t + 1) n)) := by
        have h := HROW.out
        have hxl : xs.length = n * 2 := HL.out.1
        rw [hkn, List.drop_of_length_le (by omega), List.append_nil] at h
        exact h
      have HCC := hide ((HK.out.c).marked KC_ok HBB.out HL.out HD.out HKP.out)
      clear hkn HROW
      have hu := HU.out
      by_cases hfull : (16777216 : Int) < (u : Int) + (8000 + 300 * (n : Int))
      · have HTF := hide (tightQ_full HBR.out (by rw [get_set_ne (by decide)]; exact HC56.out) (8000 + 300 * (n : Int)) hu (by omega) (by have := HN.out; omega) (by omega))
        go_wp2_with fail
        refine HTF.out.mono ?_
        rintro e w' ⟨rfl, rfl⟩
        go_wp2
        refine bodyPost_ret (results_none rfl _ _ _) rfl ?_
        exact ⟨rfl, HEND.out _ (BkP.full KC_ok HBB.out HJ0.out HJ1.out HC56.out (by decide) H57.out HK.out HL.out HD.out HU.out HBR.out HKP.out)⟩
      · obtain ⟨U, hU⟩ : ∃ U : Nat, U = u + (8000 + 300 * n) := ⟨_, rfl⟩
        have HTR := hide (tightQ_room HBR.out (by rw [get_set_ne (by decide)]; exact HC56.out) (8000 + 300 * (n : Int)) hu (by omega) (by have := HN.out; omega) (by omega) U (by omega))
        have HUU : Hid (u + KC.cost ≤ U ∧ U ≤ 16777216) := ⟨by show u + 8000 ≤ U; omega, by omega⟩
        clear hU
        go_wp2_with fail
        refine HTR.out.mono ?_
        rintro e w2 ⟨rfl, hblk2, hkp2⟩
        have HB2 := hide hblk2
        have HC2 : Hid (Kc KC w2 base vb vo es t) := HCC.out.kp hkp2 (fun q hq e => HCC.out.notB KC_ok HBR.out (by rw [← e]; exact hq))
        have HW2 : Hid (w2.ownsRow base 114 2 (.slice al n capl) n (KC.mkl (t + 1) n)) := hkp2.owns HW.out (fun q hq e => own_not HW.out HBR.out (by decide) (by rw [← e]; exact hq))
        have HK2 : Hid (Kp (fun k => k = B ∨ (Value.slice al n capl).ownBlock = some k) w w2) := HKP.out.trans hkp2 (fun q _ e => .inl e)
        have HBS : Hid (base ≤ w2.heap.size) := Nat.le_trans HBASE.out HK2.out.size
        have hlen : es.length < 1099511627776 := by obtain ⟨c, r, h1, h2, h3⟩ := HK.out.count; simp only [KC] at h2 h3; omega
        have c0 : w2.cell? ⟨B, 24, none⟩ = some vb := blk_cell hblk2 (by rw [get_set_ne (by decide), get_set_ne (by decide)]; exact HJ0.out)
        clear hblk2 hkp2 HCC HW HTR HKP HBR hfull
        go_wp2_with (at_builtin; refine append_lst rfl _ _ 37 67 iL Tryz.underlying37 hiL hzL0 hzL1 hzL2 rfl base vb es.length _ rfl HC2.out.hb _ _ rfl rfl rfl hlen HBS.out ?_)
        intro v3 w3 ho3 hg3 hat3
        obtain ⟨a3, c3, hv3⟩ := own_slice ho3
        obtain ⟨hblk3, hblk4, hhalf, hkp4⟩ := HC2.out.push_a KC_ok HB2.out 24 ⟨Value.slice al n capl, n, t + 1⟩ HW2.out v3 ho3 hg3
        have c0' : w3.cell? ⟨B, 24, none⟩ = some vb := blk_cell hblk3 (by rw [get_set_ne (by decide), get_set_ne (by decide)]; exact HJ0.out)
        have c1' : (w3.setCell ⟨B, 24, none⟩ v3).cell? ⟨B, 25, none⟩ = some vo := blk_cell hblk4 (by rw [get_set_ne (by decide), get_set_ne (by decide), get_set_ne (by decide)]; exact HJ1.out)
        have f0' := blk_frozen 24 hblk3
        have HHF := hide hhalf
        have HKP4 := hide hkp4
        have HB4 := hide hblk4
        have HAT3 : Hid (∀ z, v3.ownBlock = some z → vb.ownBlock = some z ∨ w.heap.size ≤ z) := fun z hz => by
          rcases hat3 with h | h
          · exact .inl (by rw [← h]; exact hz)
          · rw [h] at hz; injection hz with hz; exact .inr (by have := HK2.out.size; omega)
        have HSZ4 : Hid (base ≤ (w3.setCell ⟨B, 24, none⟩ v3).heap.size ∧ w.heap.size ≤ (w3.setCell ⟨B, 24, none⟩ v3).heap.size) := ⟨Nat.le_trans HBS.out hkp4.size, Nat.le_trans HK2.out.size hkp4.size⟩
        have HLEN := hide hlen
        subst hv3
        clear ho3 hg3 hat3 hblk3 hblk4 hhalf hkp4 c0 hlen
        go_wp2_with (at_builtin; go_must (refine append_int rfl _ _ rfl base vo es.length _ rfl HHF.out.ho _ w3.heap.size (by simp) rfl HLEN.out HSZ4.out.1 ?_))
        intro v5 w5 ho5 hg5 hat5
        obtain ⟨a5, c5, hv5⟩ := own_slice ho5
        have e1 : ((t : Int) + 1) = ((t + 1 : Nat) : Int) := by omega
        rw [e1] at ho5 hg5
        obtain ⟨hblk5, hblk6, hbk6, hkp6⟩ := HHF.out.push_b KC_ok (t := t + 1) HB4.out 25 v5 ho5 hg5 HC2.out.hs (fun x hx z h1 h2 => absurd h2 (HD.out x hx z h1)) (fun x hx => ⟨by have := (HC2.out.hm x hx).1; omega, (HC2.out.hm x hx).2⟩) ⟨Nat.le_refl _, by have := HN.out; show n < _; omega⟩
        have c1'' : w5.cell? ⟨B, 25, none⟩ = some vo := blk_cell hblk5 (by rw [get_set_ne (by decide), get_set_ne (by decide), get_set_ne (by decide)]; exact HJ1.out)
        have f1'' := blk_frozen 25 hblk5
        have HFI : Hid (BkP KC 24 w base B C vb vo es a t u (.slice al n capl) (w5.setCell ⟨B, 25, none⟩ v5)) := BkP.kept (by decide) H57.out HK.out HD.out HN.out HUU.out.2 HUU.out.1 HK2.out HKP4.out hkp6 hblk6 hbk6 HAT3.out (fun z hz => by
          rcases hat5 with h | h
          · exact .inl (by rw [← h]; exact hz)
          · rw [h] at hz; injection hz with hz; exact .inr (by have := HSZ4.out.2; simp at this; omega))
        subst hv5
        clear ho5 hg5 hat5 hblk5 hblk6 hbk6 hkp6 e1
        go_wp2
        go_end0
        exact ⟨rfl, HEND.out _ HFI.out⟩
set_option maxRecDepth 1000000 in
set_option maxHeartbeats 1000000 in
theorem fieldsM_any {w : World} {base B : Nat} {C : Array Value} {vb vo : Value} {es : List Ent} {a t u : Nat} (hB : w.heap[B]? = some (.cells C 47 (0, 0))) (h57 : C.size = 57) (hJ0 : C[27]? = some vb) (hJ1 : C[28]? = some vo) (h54 : C[54]? = some (.int .i64 ((t : Nat) : Int))) (h56 : C[56]? = some (.int .i64 ((u : Nat) : Int))) (hK : Ko KF w base vb vo es a t u) (l : Value) (n : Nat) (xs : List Value) (hl : w.ownsRow base 104 5 l n xs) (hn : n < 68719476736)
    (hd : ∀ e ∈ es, ∀ k, e.val.ownBlock = some k → l.ownBlock ≠ some k) (ht : t + 1 < 68719476736) (hu : u ≤ 16777216) (hbase : base ≤ w.heap.size) :
    Calls Tryz.prog 68 #[.pointer (some ⟨B, 0, none⟩), l] w fun e w' => e = .returned (.tuple #[]) ∧ Hid (BkP KF 27 w base B C vb vo es a t u l w') := by
  have HEND : Hid (∀ w2, BkP KF 27 w base B C vb vo es a t u l w2 → Hid (BkP KF 27 w base B C vb vo es a t u l w2)) := fun _ h => h
  have c54 : w.cell? ⟨B, 54, none⟩ = some (.int .i64 (t : Nat)) := blk_cell hB h54
  have f54 := blk_frozen 54 hB
  have htt : (t : Int) + 1 < 68719476736 := by omega
  obtain ⟨al, capl, hlf⟩ := own_slice hl
  have HLB : Hid (l.ownBlock ≠ some B) := own_not hl hB (by decide)
  have e1 : ((t : Int) + 1) = ((t + 1 : Nat) : Int) := by omega
  have HB1 : Hid ((w.setCell ⟨B, 54, none⟩ (.int .i64 ((t : Int) + 1))).heap[B]? = some (.cells (C.setIfInBounds 54 (.int .i64 ((t + 1 : Nat) : Int))) 47 (0, 0))) := by show _ = _; rw [e1]; exact blk_set 54 _ hB
  have c54' : (w.setCell ⟨B, 54, none⟩ (.int .i64 ((t : Int) + 1))).cell? ⟨B, 54, none⟩ = some (.int .i64 ((t : Int) + 1)) := blk_cell HB1.out (by rw [get_set (by omega), e1])
  have HBB := hide hB
  have H57 := hide h57
  have HJ0 := hide hJ0
  have HJ1 := hide hJ1
  have HC56 := hide h56
  have HK := hide hK
  have HN := hide hn
  have HT := hide ht
  have HU := hide hu
  have HBASE := hide hbase
  have HK1 : Hid (Kp (fun k => k = B ∨ l.ownBlock = some k) w (w.setCell ⟨B, 54, none⟩ (.int .i64 ((t : Int) + 1)))) := (Kp.refl _ w).setCell _ _ (fun _ => .inl rfl)
  have HO1 : Hid ((w.setCell ⟨B, 54, none⟩ (.int .i64 ((t : Int) + 1))).ownsRow base 104 5 l n xs) := ((Kp.refl (fun k => k = B) w).setCell ⟨B, 54, none⟩ (.int .i64 ((t : Int) + 1)) (fun _ => rfl)).owns hl (fun k hk e => HLB.out (by rw [hk, e]))
  have HL := hide hl
  have HD := hide hd
  subst hlf
  have hnn : (n : Int) < 68719476736 := by omega
  clear hB h57 hJ0 hJ1 h54 h56 hK hl hn hd ht hu hbase e1
  obtain ⟨iL, hiL, hzL0, hzL1, hzL2⟩ := infoFsS_ex
  have HAL : Hid ((fma (t + 1)).all (·.oneCell') = true) := by
    show _ = _
    rw [Array.all_eq_true']
    intro x hx
    exact fma_one (t + 1) x (by simpa using hx)
  go_enter Tryz.func68, Tryz.ntmps68
  go_wp2_with fail
  clear c54 f54 c54'
  generalize w.setCell ⟨B, 54, none⟩ (.int .i64 ((t : Int) + 1)) = w1 at *
  refine (fieldsMark_any ((t : Int) + 1) w1 (by omega) (by omega)).mono ?_
  rintro e w2 ⟨rfl, hb2⟩
  have e2 : ((t : Int) + 1).toNat = t + 1 := by omega
  rw [e2]
  have hb3 : Below w1.heap.size w1 (w2.alloc (.cells (fma (t + 1)) 104)) := hb2.trans ((below_alloc4 w2 _).mono hb2.size)
  have HBR0 : Hid ((w2.alloc (.cells (fma (t + 1)) 104)).heap[B]? = some (.cells (C.setIfInBounds 54 (.int .i64 ((t + 1 : Nat) : Int))) 47 (0, 0))) := (hb3.block B (blk_lt HB1.out)).trans HB1.out
  have HROW0 : Hid ((w2.alloc (.cells (fma (t + 1)) 104)).ownsRow base 104 5 (.slice al n capl) n xs) := (Kp.of_below (S := fun _ => False) hb3).owns HO1.out (fun _ _ e => e)
  have HKP0 : Hid (Kp (fun k => k = B ∨ (Value.slice al n capl).ownBlock = some k) w (w2.alloc (.cells (fma (t + 1)) 104))) := HK1.out.trans (Kp.of_below (S := fun _ => False) hb3) (fun _ _ e => e.elim)
  have HX0 : Hid ((w2.alloc (.cells (fma (t + 1)) 104)).heap[w2.heap.size]? = some (.cells (fma (t + 1)) 104 (0, 0))) := heap_alloc_new w2 _
  have HGZ : Hid ((w2.alloc (.cells #[.string ⟨#[]⟩, .string ⟨#[]⟩, .string ⟨#[]⟩, .bool false, .bool false] 104)).heap[w2.heap.size]? = some (.cells #[.string ⟨#[]⟩, .string ⟨#[]⟩, .string ⟨#[]⟩, .bool false, .bool false] 104 (0, 0))) := heap_alloc_new w2 _
  have HGX : Hid (w.heap.size ≤ w2.heap.size) := Nat.le_trans HK1.out.size hb2.size
  clear hb2 hb3 HB1 HO1 HK1 e2
  go_wp2_with (refine wpList_storeRow rfl rfl w2.heap.size #[.string ⟨#[]⟩, .string ⟨#[]⟩, .string ⟨#[]⟩, .bool false, .bool false] (fma (t + 1)) 104 rfl rfl HGZ.out infoFd rfl HAL.out ?_; rw [World.setRow_alloc_new]; generalize w2.alloc (.cells (fma (t + 1)) 104) = w3 at *)
  clear HGZ
  generalize w2.heap.size = gx at *
  go_loopw [6] (fun i wr => ∃ k : Nat, k ≤ n ∧ i = .int .i64 k ∧ Hid (wr.heap[B]? = some (.cells (C.setIfInBounds 54 (.int .i64 ((t + 1 : Nat) : Int))) 47 (0, 0))) ∧ Hid (wr.ownsRow base 104 5 (.slice al n capl) n (KF.mkl (t + 1) k ++ xs.drop (k * 5))) ∧ Hid (Kp (fun k => k = B ∨ (Value.slice al n capl).ownBlock = some k) w wr) ∧ Hid (wr.heap[gx]? = some (.cells (fma (t + 1)) 104 (0, 0)))) (fun i _ => n - (intOf i).toNat)
  case atStart => exact ⟨0, Nat.zero_le _, rfl, HBR0, by simpa [Knd.mkl] using HROW0, HKP0, HX0⟩
  case round =>
    obtain ⟨k, hk, rfl, HBR, HROW, HKP, HX⟩ := hrel
    clear HBR0 HROW0 HKP0 HX0
    by_cases hlt : k < n
    · have hlt' : (k : Int) < (n : Int) := by omega
      obtain ⟨g, hg⟩ : ∃ g, al = some ⟨g, 0, none⟩ := by
        rcases HL.out.2 with ⟨_, h0⟩ | ⟨g, _, _, hv, _⟩
        · omega
        · injection hv with hv; exact ⟨g, hv⟩
      subst hg
      obtain ⟨cur, hcur, hcz⟩ : ∃ cur, wr.heap[g]? = some (.cells cur 104 (0, 0)) ∧ n * 5 ≤ cur.size := by
        rcases HROW.out.2 with ⟨e, _⟩ | ⟨g', cap', cur, e, _, h1, h2, _, h3, _⟩
        · cases e
        · injection e with e1 e2 e3
          injection e1 with e1
          injection e1 with e1 _ _
          subst e1
          exact ⟨cur, h1, by rw [h3]; exact Nat.mul_le_mul_right 5 h2⟩
      have HGL : Hid (g < w.heap.size) := (HL.out.lt g rfl).2
      have HXC : Hid (∀ j u, (fma (t + 1))[j]? = some u → wr.cell? ⟨gx, 0 + j, none⟩ = some u) := fun j u hu => by rw [Nat.zero_add]; exact blk_cell HX.out hu
      have HCUR : Hid (wr.heap[g]? = some (.cells cur.toList.toArray 104 (0, 0))) := hcur
      have HLT : Hid (k * 5 + 5 ≤ cur.toList.length) := by show _ ≤ _; simp; omega
      have HST : Hid (∀ w6 : World, w6.heap[g]? = some (.cells (splice cur.toList (k * 5) (fma (t + 1)).toList).toArray 104 (0, 0)) → Kp (fun q => q = g) wr w6 → w6.heap[B]? = some (.cells (C.setIfInBounds 54 (.int .i64 ((t + 1 : Nat) : Int))) 47 (0, 0)) ∧ w6.ownsRow base 104 5 (.slice (some ⟨g, 0, none⟩) n capl) n (KF.mkl (t + 1) (k + 1) ++ xs.drop ((k + 1) * 5)) ∧ Kp (fun k => k = B ∨ (Value.slice (some ⟨g, 0, none⟩) n capl).ownBlock = some k) w w6 ∧ w6.heap[gx]? = some (.cells (fma (t + 1)) 104 (0, 0))) := fun w6 h6 hk6 => by
        refine ⟨(hk6.block B (blk_lt HBR.out) (fun e => HLB.out (by rw [e]; rfl))).trans HBR.out, ?_, HKP.out.trans hk6 (fun q _ e => .inr (by rw [e]; rfl)), (hk6.block gx (blk_lt HX.out) (fun e => by have h1 := HGL.out; have h2 := HGX.out; omega)).trans HX.out⟩
        have h := own_spl (k := k) HROW.out hcur hlt (zs := (fma (t + 1)).toList) rfl h6
        have h1 := spl_step (F := KF) (m := t + 1) (k := k) (xs := xs) (fun _ => rfl)
        have h2 : splice (KF.mkl (t + 1) k ++ xs.drop (k * 5)) (k * 5) (fma (t + 1)).toList = KF.mkl (t + 1) (k + 1) ++ xs.drop ((k + 1) * 5) := h1
        rw [h2] at h
        exact h
      clear hcur hcz HBR HROW HKP HX
      go_wp2_with (first
        | (refine wpList_aggAt rfl rfl infoFd aggFd gx 0 (fma (t + 1)) rfl rfl HXC.out ?_)
        | (refine wpList_storePart rfl rfl g (k * 5) cur.toList (fma (t + 1)).toList 104 rfl rfl HCUR.out infoFd HLT.out (fma_one (t + 1)) ?_))
      intro w6 h6 hk6
      obtain ⟨q1, q2, q3, q4⟩ := HST.out w6 h6.out hk6.out
      have HBR2 := hide q1
      have HRO2 := hide q2
      have HKP2 := hide q3
      have HX2 := hide q4
      clear h6 hk6 HST q1 q2 q3 q4
      go_wp2
      go_roundw
      case rel => exact ⟨k + 1, by omega, by go_num, HBR2, HRO2, HKP2, HX2⟩
      case measure => simp [intOf]; omega
    · have hlt' : ¬ (k : Int) < (n : Int) := by omega
      have hkn : k = n := by omega
      have HW : Hid (wr.ownsRow base 104 5 (.slice al n capl) n (KF.mkl (t + 1) n)) := by
        have h := HROW.out
        have hxl : xs.length = n * 5 := HL.out.1
        rw [hkn, List.drop_of_length_le (by omega), List.append_nil] at h
        exact h
      have HCC := hide ((HK.out.c).marked KF_ok HBB.out HL.out HD.out HKP.out)
      clear hkn HROW
      have hu := HU.out
      by_cases hfull : (16777216 : Int) < (u : Int) + (8000 + 300 * (n : Int))
      · have HTF := hide (tightQ_full HBR.out (by rw [get_set_ne (by decide)]; exact HC56.out) (8000 + 300 * (n : Int)) hu (by omega) (by have := HN.out; omega) (by omega))
        go_wp2_with fail
        refine HTF.out.mono ?_
        rintro e w' ⟨rfl, rfl⟩
        go_wp2
        refine bodyPost_ret (results_none rfl _ _ _) rfl ?_
        exact ⟨rfl, HEND.out _ (BkP.full KF_ok HBB.out HJ0.out HJ1.out HC56.out (by decide) H57.out HK.out HL.out HD.out HU.out HBR.out HKP.out)⟩
      · obtain ⟨U, hU⟩ : ∃ U : Nat, U = u + (8000 + 300 * n) := ⟨_, rfl⟩
        have HTR := hide (tightQ_room HBR.out (by rw [get_set_ne (by decide)]; exact HC56.out) (8000 + 300 * (n : Int)) hu (by omega) (by have := HN.out; omega) (by omega) U (by omega))
        have HUU : Hid (u + KF.cost ≤ U ∧ U ≤ 16777216) := ⟨by show u + 8000 ≤ U; omega, by omega⟩
        clear hU
        go_wp2_with fail
        refine HTR.out.mono ?_
        rintro e w2 ⟨rfl, hblk2, hkp2⟩
        have HB2 := hide hblk2
        have HC2 : Hid (Kc KF w2 base vb vo es t) := HCC.out.kp hkp2 (fun q hq e => HCC.out.notB KF_ok HBR.out (by rw [← e]; exact hq))
        have HW2 : Hid (w2.ownsRow base 104 5 (.slice al n capl) n (KF.mkl (t + 1) n)) := hkp2.owns HW.out (fun q hq e => own_not HW.out HBR.out (by decide) (by rw [← e]; exact hq))
        have HK2 : Hid (Kp (fun k => k = B ∨ (Value.slice al n capl).ownBlock = some k) w w2) := HKP.out.trans hkp2 (fun q _ e => .inl e)
        have HBS : Hid (base ≤ w2.heap.size) := Nat.le_trans HBASE.out HK2.out.size
        have hlen : es.length < 1099511627776 := by obtain ⟨c, r, h1, h2, h3⟩ := HK.out.count; simp only [KF] at h2 h3; omega
        have c0 : w2.cell? ⟨B, 27, none⟩ = some vb := blk_cell hblk2 (by rw [get_set_ne (by decide), get_set_ne (by decide)]; exact HJ0.out)
        clear hblk2 hkp2 HCC HW HTR HKP HBR hfull
        go_wp2_with (at_builtin; refine append_lst rfl _ _ 38 66 iL Tryz.underlying38 hiL hzL0 hzL1 hzL2 rfl base vb es.length _ rfl HC2.out.hb _ _ rfl rfl rfl hlen HBS.out ?_)
        intro v3 w3 ho3 hg3 hat3
        obtain ⟨a3, c3, hv3⟩ := own_slice ho3
        obtain ⟨hblk3, hblk4, hhalf, hkp4⟩ := HC2.out.push_a KF_ok HB2.out 27 ⟨Value.slice al n capl, n, t + 1⟩ HW2.out v3 ho3 hg3
        have c0' : w3.cell? ⟨B, 27, none⟩ = some vb := blk_cell hblk3 (by rw [get_set_ne (by decide), get_set_ne (by decide)]; exact HJ0.out)
        have c1' : (w3.setCell ⟨B, 27, none⟩ v3).cell? ⟨B, 28, none⟩ = some vo := blk_cell hblk4 (by rw [get_set_ne (by decide), get_set_ne (by decide), get_set_ne (by decide)]; exact HJ1.out)
        have f0' := blk_frozen 27 hblk3
        have HHF := hide hhalf
        have HKP4 := hide hkp4
        have HB4 := hide hblk4
        have HAT3 : Hid (∀ z, v3.ownBlock = some z → vb.ownBlock = some z ∨ w.heap.size ≤ z) := fun z hz => by
          rcases hat3 with h | h
          · exact .inl (by rw [← h]; exact hz)
          · rw [h] at hz; injection hz with hz; exact .inr (by have := HK2.out.size; omega)
        have HSZ4 : Hid (base ≤ (w3.setCell ⟨B, 27, none⟩ v3).heap.size ∧ w.heap.size ≤ (w3.setCell ⟨B, 27, none⟩ v3).heap.size) := ⟨Nat.le_trans HBS.out hkp4.size, Nat.le_trans HK2.out.size hkp4.size⟩
        have HLEN := hide hlen
        subst hv3
        clear ho3 hg3 hat3 hblk3 hblk4 hhalf hkp4 c0 hlen
        go_wp2_with (at_builtin; go_must (refine append_int rfl _ _ rfl base vo es.length _ rfl HHF.out.ho _ w3.heap.size (by simp) rfl HLEN.out HSZ4.out.1 ?_))
        intro v5 w5 ho5 hg5 hat5
        obtain ⟨a5, c5, hv5⟩ := own_slice ho5
        have e1 : ((t : Int) + 1) = ((t + 1 : Nat) : Int) := by omega
        rw [e1] at ho5 hg5
        obtain ⟨hblk5, hblk6, hbk6, hkp6⟩ := HHF.out.push_b KF_ok (t := t + 1) HB4.out 28 v5 ho5 hg5 HC2.out.hs (fun x hx z h1 h2 => absurd h2 (HD.out x hx z h1)) (fun x hx => ⟨by have := (HC2.out.hm x hx).1; omega, (HC2.out.hm x hx).2⟩) ⟨Nat.le_refl _, by have := HN.out; show n < _; omega⟩
        have c1'' : w5.cell? ⟨B, 28, none⟩ = some vo := blk_cell hblk5 (by rw [get_set_ne (by decide), get_set_ne (by decide), get_set_ne (by decide)]; exact HJ1.out)
        have f1'' := blk_frozen 28 hblk5
        have HFI : Hid (BkP KF 27 w base B C vb vo es a t u (.slice al n capl) (w5.setCell ⟨B, 28, none⟩ v5)) := BkP.kept (by decide) H57.out HK.out HD.out HN.out HUU.out.2 HUU.out.1 HK2.out HKP4.out hkp6 hblk6 hbk6 HAT3.out (fun z hz => by
          rcases hat5 with h | h
          · exact .inl (by rw [← h]; exact hz)
          · rw [h] at hz; injection hz with hz; exact .inr (by have := HSZ4.out.2; simp at this; omega))
        subst hv5
        clear ho5 hg5 hat5 hblk5 hblk6 hbk6 hkp6 e1
        go_wp2
        go_end0
        exact ⟨rfl, HEND.out _ HFI.out⟩
end
end Go.Proofs.YtbbalhfjgpaabaaGreatDoor
