import Derived.Test.YtedgdnoafajhoaaDoorBkc
import Derived.Test.YtedgdnoafajhoaaDoorLb
import Derived.StillTailTactics
import Derived.Test.YtedgdnoafajhoaaDoorLnt
import Derived.Test.YtedgdnoafajhoaaDoorNw
import Derived.Test.YtedgdnoafajhoaaDoorWa
import Derived.Test.YtedgdnoafajhoaaDoorOq
import Derived.Test.YtedgdnoafajhoaaDoorDz
namespace Go.Proofs.YtedgdnoafajhoaaDoor
section
open Go.RowKit Go

/-- One place: its struct's block, its two lists, its one row. -/
structure Pls (w : World) (B P : Nat) (ov iv vx : Value) (no : Nat) (os : List Value) (xs : List Nat) : Prop where
  p : w.heap[P]? = some (.cells #[ov, iv] 26 (0, 0))
  o : w.ownsRow B 27 1 ov no os
  i : w.ownsRow B 27 1 iv 1 [vx]
  x : w.ownsRow B 5 1 vx xs.length (bv xs)
  oi : ∀ k, ov.ownBlock = some k → iv.ownBlock ≠ some k
  pb : B ≤ P
/-- The blocks of a place. -/
def pbk (P : Nat) (ov iv vx : Value) (q : Nat) : Prop := q = P ∨ ov.ownBlock = some q ∨ iv.ownBlock = some q ∨ vx.ownBlock = some q
theorem own_blk (a : Option Addr) (n m c d : Nat) : (Value.slice a n c).ownBlock = (Value.slice a m d).ownBlock := by cases a <;> rfl
theorem own_zero {w : World} {B : Nat} {e : TypeId} {a : Option Addr} {n c : Nat} {xs : List Value} (h : w.ownsRow B e 1 (.slice a n c) n xs) : w.ownsRow B e 1 (.slice a 0 c) 0 [] := by
  refine ⟨rfl, ?_⟩
  rcases h.2 with ⟨hv, _⟩ | ⟨g, cap, cur, hv, hb, hg, h1, h2, h3, h4⟩
  · injection hv with e1 e2 e3
    subst e1
    subst e3
    exact .inl ⟨rfl, rfl⟩
  · injection hv with e1 e2 e3
    subst e1
    subst e3
    exact .inr ⟨g, c, cur, rfl, hb, hg, Nat.zero_le _, h2, h3, by simp⟩
theorem own_one_form {w : World} {B : Nat} {e : TypeId} {v x : Value} (h : w.ownsRow B e 1 v 1 [x]) : ∃ g c, v = .slice (some ⟨g, 0, none⟩) 1 c ∧ w.cell? ⟨g, 0, none⟩ = some x ∧ w.frozen? ⟨g, 0, none⟩ = false := by
  obtain ⟨a, c, hv, _, _, hc⟩ := own_form h
  obtain ⟨g, ha, _⟩ := hc 0 x rfl
  subst ha
  subst hv
  exact ⟨g, c, rfl, (own_cell h (j := 0) rfl).1, (own_cell h (j := 0) rfl).2⟩

/-- append of bytes, and where they lie. -/
theorem append_bsl_at {ops : Array Oper} {rest : List Oper} {o : Oper} {a : Act} {Q : Exit → Act → World → Prop} {w : World} (hgd : o.guard = none) (s x : Operand)
    (ho : o.op = .call { callee := .builtin .append, args := #[s, x], argTypes := #[27, 27] }) (B : Nat) (v : Value) (n : Nat) (ds : List Nat) (hs : a.eval s = v) (hown : w.ownsRow B 5 1 v n (bv ds))
    (u : Value) (xs : List Nat) (hx : a.eval x = u) (hsl : BSl w u xs) (hlen : n + xs.length ≤ 140737488355328) (hbase : B ≤ w.heap.size)
    (h : ∀ v' w', w'.ownsRow B 5 1 v' (n + xs.length) (bv (ds ++ xs)) → w.grownBy w' v.ownBlock → (v'.ownBlock = v.ownBlock ∨ v'.ownBlock = some w.heap.size) → wpList Tryd.prog ops Q rest (a.put o.dst v') w') : wpList Tryd.prog ops Q (o :: rest) a w := by
  obtain ⟨i5, hi, hz0, hz1, hz2⟩ := info5_ex
  obtain ⟨⟨ad, cap, rfl, hn, hc⟩, hmax, hb⟩ := id hsl
  cases ad with
  | none =>
    rcases hc with rfl | ⟨_, _, e, _⟩
    · have := hn.2 rfl
      subst this
      refine wpList_append_own_none hgd s x 27 ho B 5 i5 1 Tryd.underlying27 hi v n (bv ds) hs hown hx (h v w ?_ ⟨rfl, rfl, rfl, Nat.le_refl _, fun _ _ _ => rfl⟩ (.inl rfl))
      simpa using hown
    · cases e
  | some ad =>
    refine wpList_append_own_at w hgd s x 27 ho B 5 i5 (.int .u8 0) 1 1 Tryd.underlying27 hi hz0 hz1 hz2 rfl (by decide) v n (bv ds) hs hown ad xs.length cap (bv xs) hx (by simp [bv]) hsl.src.2 (bv_one xs) (by unfold maxLen; omega) (by omega) hbase fun v' w' h1 h2 _ h4 => ?_
    exact h v' w' (by rw [bv_app]; exact h1) h2 h4

set_option maxRecDepth 1000000 in
set_option maxHeartbeats 2000000 in
theorem rows_used (w : World) (B P c : Nat) (v ov iv vx : Value) (no : Nat) (os : List Value) (xs ys : List Nat) (h : Pls w B P ov iv vx no os xs) (hc : w.cell? ⟨c, 0, none⟩ = some v) (hv : BSl w v ys) (hB : B ≤ w.heap.size) (hl : ys.length ≤ 140737488351232)
    (hcp : c ≠ P) (hvp : ∀ w', Kp (fun q => q = P) w w' → BSl w' v ys) :
    Calls Tryd.prog 40 #[.pointer (some ⟨P, 0, none⟩), .slice (some ⟨c, 0, none⟩) 1 1] w fun e w' => ∃ ov' iv' vx', e = .returned ov' ∧ Pls w' B P ov' iv' vx' 1 [vx'] ys ∧ Kp (pbk P ov iv vx) w w' ∧ ∀ q, pbk P ov' iv' vx' q → pbk P ov iv vx q ∨ w.heap.size ≤ q := by
  have HP := hide h
  have HC := hide hc
  have HV := hide hv
  have HB := hide hB
  have HL := hide hl
  have HCP := hide hcp
  have HVP := hide hvp
  obtain ⟨ao, co, rfl, _, _, _⟩ := own_form h.o
  obtain ⟨gi, ci, rfl, ci0, fi0⟩ := own_one_form h.i
  obtain ⟨ax, cx, rfl, _, _, _⟩ := own_form h.x
  have q0 : w.cell? ⟨P, 0, none⟩ = some (.slice ao no co) := blk_cell h.p rfl
  have q1 : w.cell? ⟨P, 1, none⟩ = some (.slice (some ⟨gi, 0, none⟩) 1 ci) := blk_cell h.p rfl
  have f0 := blk_frozen 0 h.p
  clear h hv hB hl hcp hvp fi0
  go_enter Tryd.func40, Tryd.ntmps40
  go_wp2_with fail
  refine wp_loop_rounds 2 ?_
  rw [rounds_succ]
  go_wp2_with fail
  have HP1 : Hid (Pls (w.setCell ⟨P, 0, none⟩ (.slice ao 0 co)) B P (.slice ao 0 co) (.slice (some ⟨gi, 0, none⟩) 1 ci) (.slice ax xs.length cx) 0 [] xs) := by
    have h := HP.out
    have nP : ∀ {u : Value} {n : Nat} {l : List Value} {e : TypeId}, w.ownsRow B e 1 u n l → e ≠ 26 → ∀ k, u.ownBlock = some k → ¬ k = P := fun ho hne k hk e' => own_not ho h.p hne (by rw [hk, e'])
    have hk : Kp (fun q => q = P) w (w.setCell ⟨P, 0, none⟩ (.slice ao 0 co)) := (Kp.refl _ _).setCell _ _ (fun _ => rfl)
    exact ⟨blk_set 0 _ h.p, hk.owns (own_zero h.o) (fun k hk' => nP h.o (by decide) k (by cases ao with | none => cases hk' | some a => exact hk')), hk.owns h.i (nP h.i (by decide)), hk.owns h.x (nP h.x (by decide)), fun k hk' => h.oi k (by cases ao with | none => cases hk' | some a => exact hk'), h.pb⟩
  have HK1 : Hid (Kp (fun q => q = P) w (w.setCell ⟨P, 0, none⟩ (.slice ao 0 co))) := (Kp.refl _ _).setCell _ _ (fun _ => rfl)
  have HC1 : Hid ((w.setCell ⟨P, 0, none⟩ (.slice ao 0 co)).cell? ⟨c, 0, none⟩ = some v) := HK1.out.cell HC.out HCP.out
  have HV1 : Hid (BSl (w.setCell ⟨P, 0, none⟩ (.slice ao 0 co)) v ys) := HVP.out _ HK1.out
  clear q0 q1 f0 ci0 hc
  generalize w.setCell ⟨P, 0, none⟩ (.slice ao 0 co) = w1 at *
  have q1 : w1.cell? ⟨P, 1, none⟩ = some (.slice (some ⟨gi, 0, none⟩) 1 ci) := blk_cell HP1.out.p rfl
  have ci0 : w1.cell? ⟨gi, 0, none⟩ = some (.slice ax xs.length cx) := (own_cell HP1.out.i (j := 0) rfl).1
  have hc1 : w1.cell? ⟨c, 0, none⟩ = some v := HC1.out
  refine wp_region_still_tail 12 (by kernel_rfl) (by kernel_rfl) ?_
  simp only [List.take_succ_cons, List.take_zero, List.drop_succ_cons, List.drop_zero]
  repeat (
    refine wpStill_step (fun K hK => ?_)
    go_simp
    (refine hK _ ?_; clear hK K))
  refine wpStill_nil ?_
  have HP2 : Hid (Pls w1.drew B P (.slice ao 0 co) (.slice (some ⟨gi, 0, none⟩) 1 ci) (.slice ax xs.length cx) 0 [] xs) := by
    have h := HP1.out
    have hb : Below w1.heap.size w1 w1.drew := (Below.refl _ _).drew
    exact ⟨h.p, own_below h.o hb (rfl : 0 = 0), own_below h.i hb (rfl : 0 = 0), own_below h.x hb (rfl : 0 = 0), h.oi, h.pb⟩
  have HV2 : Hid (BSl w1.drew v ys) := HV1.out.move (fun _ _ h => h)
  have HS1 : Hid (B ≤ w1.drew.heap.size) := by have := HK1.out.size; have := HB.out; show B ≤ w1.heap.size; omega
  have HX2 := hide (own_zero HP2.out.x)
  go_wp2_with (at_builtin; refine append_bsl_at rfl _ _ rfl B _ 0 [] rfl HX2.out _ ys rfl HV2.out ?b1 ?b2 ?_)
  case b1 => have := HL.out; omega
  case b2 => exact HS1.out
  intro v2 w2 ho2 hg2 hn2
  have HN2 := hide hn2
  clear hn2
  have HK2 : Hid (Kp (fun q => (Value.slice ax 0 cx).ownBlock = some q) w1.drew w2) := (Kp.refl _ _).grown hg2 (fun k _ h => h)
  have HXP : Hid (∀ {u : Value} {n : Nat} {l : List Value}, w1.drew.ownsRow B 27 1 u n l → ∀ k, u.ownBlock = some k → ¬ (Value.slice ax 0 cx).ownBlock = some k) := fun ho k hk e => own_apart ho HX2.out (by decide) hk e
  have HO3 := hide (HK2.out.owns HP2.out.o (HXP.out HP2.out.o))
  have HI3 := hide (HK2.out.owns HP2.out.i (HXP.out HP2.out.i))
  have HPP3 := hide ((HK2.out.block P (blk_lt HP2.out.p) (fun e => own_not HX2.out HP2.out.p (by decide) e)).trans HP2.out.p)
  have HX3 := hide ho2
  have HOI := hide HP2.out.oi
  have HPB := hide HP2.out.pb
  have HS2 : Hid (B ≤ w2.heap.size) := Nat.le_trans HS1.out HK2.out.size
  obtain ⟨a2, c2, hv2, _, _, _⟩ := own_form ho2
  subst hv2
  have q1 : w2.cell? ⟨P, 1, none⟩ = some (.slice (some ⟨gi, 0, none⟩) 1 ci) := blk_cell HPP3.out rfl
  have ci0 : w2.cell? ⟨gi, 0, none⟩ = some (.slice ax xs.length cx) := (own_cell HI3.out (j := 0) rfl).1
  have fi0 : w2.frozen? ⟨gi, 0, none⟩ = false := (own_cell HI3.out (j := 0) rfl).2
  have HG2 : Hid (gi < w2.heap.size) := (HI3.out.lt gi rfl).2
  have HNP : Hid (gi ≠ P) := fun e => own_not HI3.out HPP3.out (by decide) (by rw [e]; rfl)
  have HK3 : Hid (Kp (fun q => q = gi) w2 (w2.setCell ⟨gi, 0, none⟩ (.slice a2 ys.length c2))) := (Kp.refl _ _).setCell _ _ (fun _ => rfl)
  have HI4 : Hid ((w2.setCell ⟨gi, 0, none⟩ (.slice a2 ys.length c2)).ownsRow B 27 1 (.slice (some ⟨gi, 0, none⟩) 1 ci) 1 [.slice a2 ys.length c2]) := own_set (j := 0) _ HI3.out
  have HO4 := hide (HK3.out.owns HO3.out (fun k hk e => HOI.out k hk (by rw [e]; rfl)))
  have HX4 := hide (HK3.out.owns HX3.out (fun k hk e => own_apart HX3.out HI3.out (by decide) hk (by rw [e]; rfl)))
  have HPP4 := hide ((HK3.out.block P (blk_lt HPP3.out) (fun e => HNP.out e.symm)).trans HPP3.out)
  have HS3 : Hid (B ≤ (w2.setCell ⟨gi, 0, none⟩ (.slice a2 ys.length c2)).heap.size) := Nat.le_trans HS2.out HK3.out.size
  clear ho2 hg2 HX2 HXP HP1 HP2 HC1 HV1 HV2
  have hne1 : ¬ gi = P := HNP.out
  have hne2 : ¬ P = gi := fun e => HNP.out e.symm
  have q0 : w2.cell? ⟨P, 0, none⟩ = some (.slice ao 0 co) := blk_cell HPP3.out rfl
  go_wp2_with (at_builtin; refine append_row rfl _ _ rfl B _ 0 [] rfl HO4.out (.slice a2 ys.length c2) w2.heap.size (by simp) rfl rfl (by omega) HS3.out ?_)
  intro ov' w4 ho4 hg4 hnew
  generalize hw3 : w2.setCell ⟨gi, 0, none⟩ (.slice a2 ys.length c2) = w3 at *
  clear hw3
  have HK4 : Hid (Kp (fun q => (Value.slice ao 0 co).ownBlock = some q) w3 w4) := ((Kp.refl _ _).alloc _).trans ((Kp.refl (fun q => (Value.slice ao 0 co).ownBlock = some q) _).grown hg4 (fun k _ h => h)) (fun _ _ h => h)
  have HI5 := hide (HK4.out.owns HI4.out (fun k hk e => HOI.out k e hk))
  have HX5 := hide (HK4.out.owns HX4.out (fun k hk e => own_apart HX4.out HO4.out (by decide) hk e))
  have HPP5 := hide ((HK4.out.block P (blk_lt HPP4.out) (fun e => own_not HO4.out HPP4.out (by decide) e)).trans HPP4.out)
  have HO5 := hide ho4
  have HNW := hide hnew
  have HGL : Hid (gi < w2.heap.size) := HG2.out
  obtain ⟨go, c4, hv4, _, _⟩ := own_one_form ho4
  subst hv4
  clear ho4 hg4 hnew
  have q5 : w4.cell? ⟨P, 0, none⟩ = some (.slice ao 0 co) := blk_cell HPP5.out rfl
  have f5 := blk_frozen 0 HPP5.out
  have HK5 : Hid (Kp (fun q => q = P) w4 (w4.setCell ⟨P, 0, none⟩ (.slice (some ⟨go, 0, none⟩) 1 c4))) := (Kp.refl _ _).setCell _ _ (fun _ => rfl)
  go_wp2_with fail
  rw [rounds_succ]
  go_wp2_with fail
  go_ret
  refine ⟨.slice (some ⟨go, 0, none⟩) 1 c4, .slice (some ⟨gi, 0, none⟩) 1 ci, .slice a2 ys.length c2, rfl, ⟨blk_set 0 _ HPP5.out, HK5.out.owns HO5.out (fun k hk e => own_not HO5.out HPP5.out (by decide) (by rw [hk, e])), HK5.out.owns HI5.out (fun k hk e => own_not HI5.out HPP5.out (by decide) (by rw [hk, e])), HK5.out.owns HX5.out (fun k hk e => own_not HX5.out HPP5.out (by decide) (by rw [hk, e])), ?_, HPB.out⟩, ?_, ?_⟩
  · intro k hk e
    have h1 : go = k := by simpa [Value.ownBlock] using hk
    have h2 : gi = k := by simpa [Value.ownBlock] using e
    rcases HNW.out with h | h
    · exact HOI.out k (by rw [← h]; exact hk) e
    · have h3 : go = w2.heap.size + 1 := by simpa [Value.ownBlock] using h
      have := HGL.out
      omega
  · have e1 := own_blk ax 0 xs.length cx cx
    have e2 := own_blk ao 0 no co co
    have k12 : Kp (pbk P (.slice ao no co) (.slice (some ⟨gi, 0, none⟩) 1 ci) (.slice ax xs.length cx)) w w2 := (HK1.out.drew.mono (fun q _ h => .inl h)).trans HK2.out (fun q _ h => .inr (.inr (.inr (by rw [← e1]; exact h))))
    have k13 := k12.trans HK3.out (fun q _ h => .inr (.inr (.inl (by rw [h]; rfl))))
    have k14 := k13.trans HK4.out (fun q _ h => .inr (.inl (by rw [← e2]; exact h)))
    exact k14.trans HK5.out (fun q _ h => .inl h)
  · have e1 := own_blk ax 0 xs.length cx cx
    have e2 := own_blk ao 0 no co co
    have s1 : w.heap.size ≤ w1.heap.size := HK1.out.size
    have s2 : w1.drew.heap.size ≤ w2.heap.size := HK2.out.size
    have s3 : w1.drew.heap.size = w1.heap.size := rfl
    intro q hq
    rcases hq with e | e | e | e
    · exact .inl (.inl e)
    · rcases HNW.out with h | h
      · exact .inl (.inr (.inl (by rw [← e2, ← h]; exact e)))
      · rw [h] at e
        injection e with e
        exact .inr (by omega)
    · exact .inl (.inr (.inr (.inl e)))
    · rcases HN2.out with h | h
      · exact .inl (.inr (.inr (.inr (by rw [← e1, ← h]; exact e))))
      · rw [h] at e
        injection e with e
        exact .inr (by omega)

set_option maxRecDepth 1000000 in
set_option maxHeartbeats 2000000 in
theorem rows_fresh (w : World) (B P c : Nat) (v : Value) (ys : List Nat) (hp : w.heap[P]? = some (.cells #[.slice none 0 0, .slice none 0 0] 26 (0, 0))) (hPB : B ≤ P) (hc : w.cell? ⟨c, 0, none⟩ = some v) (hv : BSl w v ys) (hB : B ≤ w.heap.size) (hl : ys.length ≤ 140737488351232)
    (hcp : c ≠ P) (hvp : ∀ w', Kp (fun q => q = P) w w' → BSl w' v ys) :
    Calls Tryd.prog 40 #[.pointer (some ⟨P, 0, none⟩), .slice (some ⟨c, 0, none⟩) 1 1] w fun e w' => ∃ ov' iv' vx', e = .returned ov' ∧ Pls w' B P ov' iv' vx' 1 [vx'] ys ∧ Kp (fun q => q = P) w w' ∧ ∀ q, pbk P ov' iv' vx' q → q = P ∨ w.heap.size ≤ q := by
  have HPf := hide hp
  have HC := hide hc
  have HV := hide hv
  have HB := hide hB
  have HL := hide hl
  have HCP := hide hcp
  have HVP := hide hvp
  have HPBx := hide hPB
  have q0 : w.cell? ⟨P, 0, none⟩ = some (.slice none 0 0) := blk_cell hp rfl
  have q1 : w.cell? ⟨P, 1, none⟩ = some (.slice none 0 0) := blk_cell hp rfl
  have f0 := blk_frozen 0 hp
  have f1 := blk_frozen 1 hp
  clear hp hv hB hl hcp hvp hPB
  have HKa : Hid (Kp (fun q => q = P) w (w.setCell ⟨P, 0, none⟩ (.slice none 0 0))) := (Kp.refl _ _).setCell _ _ (fun _ => rfl)
  have HPa : Hid ((w.setCell ⟨P, 0, none⟩ (.slice none 0 0)).heap[P]? = some (.cells #[.slice none 0 0, .slice none 0 0] 26 (0, 0))) := blk_set 0 _ HPf.out
  have HSa : Hid (B ≤ (w.setCell ⟨P, 0, none⟩ (.slice none 0 0)).heap.size) := Nat.le_trans HB.out HKa.out.size
  go_enter Tryd.func40, Tryd.ntmps40
  go_wp2_with fail
  refine wp_loop_rounds 2 ?_
  rw [rounds_succ]
  go_wp2_with (at_builtin; refine append_row rfl _ _ rfl B _ 0 [] rfl (World.ownsRow_nil _ _ _ _) (.slice none 0 0) w.heap.size (by simp) rfl rfl (by omega) HSa.out ?_)
  intro iv' wb hob hgb hnb
  generalize hwa : w.setCell ⟨P, 0, none⟩ (.slice none 0 0) = wa at *
  have hsz : wa.heap.size = w.heap.size := by rw [← hwa]; simp
  have HZS := hide hsz
  clear hwa hsz
  have HKb : Hid (Kp (fun _ => False) wa wb) := ((Kp.refl _ _).alloc _).trans ((Kp.refl (fun _ => False) _).grown hgb (fun k _ h => by cases h)) (fun _ _ h => h)
  have HPb := hide ((HKb.out.block P (blk_lt HPa.out) (fun h => h)).trans HPa.out)
  have HIb := hide hob
  have HNB := hide hnb
  obtain ⟨gi, ci, hvb, _, _⟩ := own_one_form hob
  subst hvb
  clear hob hgb hnb q0 q1 f0 f1
  have HG0 : Hid (w.heap.size ≤ gi) := by
    rcases HNB.out with h | h
    · cases h
    · have h3 : gi = w.heap.size + 1 := by simpa [Value.ownBlock] using h
      show _ ≤ _
      omega
  have q1 : wb.cell? ⟨P, 1, none⟩ = some (.slice none 0 0) := blk_cell HPb.out rfl
  have f1 := blk_frozen 1 HPb.out
  have HKc : Hid (Kp (fun q => q = P) wb (wb.setCell ⟨P, 1, none⟩ (.slice (some ⟨gi, 0, none⟩) 1 ci))) := (Kp.refl _ _).setCell _ _ (fun _ => rfl)
  have HP1 : Hid (Pls (wb.setCell ⟨P, 1, none⟩ (.slice (some ⟨gi, 0, none⟩) 1 ci)) B P (.slice none 0 0) (.slice (some ⟨gi, 0, none⟩) 1 ci) (.slice none 0 0) 0 [] []) :=
    ⟨blk_set 1 _ HPb.out, World.ownsRow_nil _ _ _ _, HKc.out.owns HIb.out (fun k hk e => own_not HIb.out HPb.out (by decide) (by rw [hk, e])), World.ownsRow_nil _ _ _ _, (fun k hk => by cases hk), HPBx.out⟩
  have HK1 : Hid (Kp (fun q => q = P) w (wb.setCell ⟨P, 1, none⟩ (.slice (some ⟨gi, 0, none⟩) 1 ci))) := (HKa.out.trans (HKb.out.mono (fun _ _ h => h.elim)) (fun _ _ h => h)).trans HKc.out (fun _ _ h => h)
  have HC1 : Hid ((wb.setCell ⟨P, 1, none⟩ (.slice (some ⟨gi, 0, none⟩) 1 ci)).cell? ⟨c, 0, none⟩ = some v) := HK1.out.cell HC.out HCP.out
  have HV1 : Hid (BSl (wb.setCell ⟨P, 1, none⟩ (.slice (some ⟨gi, 0, none⟩) 1 ci)) v ys) := HVP.out _ HK1.out
  go_wp2_with fail
  clear q1 f1
  generalize wb.setCell ⟨P, 1, none⟩ (.slice (some ⟨gi, 0, none⟩) 1 ci) = w1 at *
  have q1 : w1.cell? ⟨P, 1, none⟩ = some (.slice (some ⟨gi, 0, none⟩) 1 ci) := blk_cell HP1.out.p rfl
  have ci0 : w1.cell? ⟨gi, 0, none⟩ = some (.slice none 0 0) := (own_cell HP1.out.i (j := 0) rfl).1
  have hc1 : w1.cell? ⟨c, 0, none⟩ = some v := HC1.out
  refine wp_region_still_tail 12 (by kernel_rfl) (by kernel_rfl) ?_
  simp only [List.take_succ_cons, List.take_zero, List.drop_succ_cons, List.drop_zero]
  repeat (
    refine wpStill_step (fun K hK => ?_)
    go_simp
    (refine hK _ ?_; clear hK K))
  refine wpStill_nil ?_
  have HP2 : Hid (Pls w1.drew B P (.slice none 0 0) (.slice (some ⟨gi, 0, none⟩) 1 ci) (.slice none 0 0) 0 [] []) := by
    have h := HP1.out
    have hb : Below w1.heap.size w1 w1.drew := (Below.refl _ _).drew
    exact ⟨h.p, own_below h.o hb (rfl : 0 = 0), own_below h.i hb (rfl : 0 = 0), own_below h.x hb (rfl : 0 = 0), h.oi, h.pb⟩
  have HV2 : Hid (BSl w1.drew v ys) := HV1.out.move (fun _ _ h => h)
  have HS1 : Hid (B ≤ w1.drew.heap.size) := by have := HK1.out.size; have := HB.out; show B ≤ w1.heap.size; omega
  have HX2 := hide (own_zero HP2.out.x)
  go_wp2_with (at_builtin; refine append_bsl_at rfl _ _ rfl B _ 0 [] rfl HX2.out _ ys rfl HV2.out ?b1 ?b2 ?_)
  case b1 => have := HL.out; omega
  case b2 => exact HS1.out
  intro v2 w2 ho2 hg2 hn2
  have HN2 := hide hn2
  clear hn2
  have HK2 : Hid (Kp (fun q => (Value.slice none 0 0).ownBlock = some q) w1.drew w2) := (Kp.refl _ _).grown hg2 (fun k _ h => h)
  have HXP : Hid (∀ {u : Value} {n : Nat} {l : List Value}, w1.drew.ownsRow B 27 1 u n l → ∀ k, u.ownBlock = some k → ¬ (Value.slice none 0 0).ownBlock = some k) := fun ho k hk e => own_apart ho HX2.out (by decide) hk e
  have HO3 := hide (HK2.out.owns HP2.out.o (HXP.out HP2.out.o))
  have HI3 := hide (HK2.out.owns HP2.out.i (HXP.out HP2.out.i))
  have HPP3 := hide ((HK2.out.block P (blk_lt HP2.out.p) (fun e => own_not HX2.out HP2.out.p (by decide) e)).trans HP2.out.p)
  have HX3 := hide ho2
  have HOI := hide HP2.out.oi
  have HPB := hide HP2.out.pb
  have HS2 : Hid (B ≤ w2.heap.size) := Nat.le_trans HS1.out HK2.out.size
  obtain ⟨a2, c2, hv2, _, _, _⟩ := own_form ho2
  subst hv2
  have q1 : w2.cell? ⟨P, 1, none⟩ = some (.slice (some ⟨gi, 0, none⟩) 1 ci) := blk_cell HPP3.out rfl
  have ci0 : w2.cell? ⟨gi, 0, none⟩ = some (.slice none 0 0) := (own_cell HI3.out (j := 0) rfl).1
  have fi0 : w2.frozen? ⟨gi, 0, none⟩ = false := (own_cell HI3.out (j := 0) rfl).2
  have HG2 : Hid (gi < w2.heap.size) := (HI3.out.lt gi rfl).2
  have HNP : Hid (gi ≠ P) := fun e => own_not HI3.out HPP3.out (by decide) (by rw [e]; rfl)
  have HK3 : Hid (Kp (fun q => q = gi) w2 (w2.setCell ⟨gi, 0, none⟩ (.slice a2 ys.length c2))) := (Kp.refl _ _).setCell _ _ (fun _ => rfl)
  have HI4 : Hid ((w2.setCell ⟨gi, 0, none⟩ (.slice a2 ys.length c2)).ownsRow B 27 1 (.slice (some ⟨gi, 0, none⟩) 1 ci) 1 [.slice a2 ys.length c2]) := own_set (j := 0) _ HI3.out
  have HO4 := hide (HK3.out.owns HO3.out (fun k hk e => HOI.out k hk (by rw [e]; rfl)))
  have HX4 := hide (HK3.out.owns HX3.out (fun k hk e => own_apart HX3.out HI3.out (by decide) hk (by rw [e]; rfl)))
  have HPP4 := hide ((HK3.out.block P (blk_lt HPP3.out) (fun e => HNP.out e.symm)).trans HPP3.out)
  have HS3 : Hid (B ≤ (w2.setCell ⟨gi, 0, none⟩ (.slice a2 ys.length c2)).heap.size) := Nat.le_trans HS2.out HK3.out.size
  clear ho2 hg2 HX2 HXP HP1 HP2 HC1 HV1 HV2
  have hne1 : ¬ gi = P := HNP.out
  have hne2 : ¬ P = gi := fun e => HNP.out e.symm
  have q0 : w2.cell? ⟨P, 0, none⟩ = some (.slice none 0 0) := blk_cell HPP3.out rfl
  go_wp2_with (at_builtin; refine append_row rfl _ _ rfl B _ 0 [] rfl HO4.out (.slice a2 ys.length c2) w2.heap.size (by simp) rfl rfl (by omega) HS3.out ?_)
  intro ov' w4 ho4 hg4 hnew
  generalize hw3 : w2.setCell ⟨gi, 0, none⟩ (.slice a2 ys.length c2) = w3 at *
  clear hw3
  have HK4 : Hid (Kp (fun q => (Value.slice none 0 0).ownBlock = some q) w3 w4) := ((Kp.refl _ _).alloc _).trans ((Kp.refl (fun q => (Value.slice none 0 0).ownBlock = some q) _).grown hg4 (fun k _ h => h)) (fun _ _ h => h)
  have HI5 := hide (HK4.out.owns HI4.out (fun k hk e => HOI.out k e hk))
  have HX5 := hide (HK4.out.owns HX4.out (fun k hk e => own_apart HX4.out HO4.out (by decide) hk e))
  have HPP5 := hide ((HK4.out.block P (blk_lt HPP4.out) (fun e => own_not HO4.out HPP4.out (by decide) e)).trans HPP4.out)
  have HO5 := hide ho4
  have HNW := hide hnew
  have HGL : Hid (gi < w2.heap.size) := HG2.out
  obtain ⟨go, c4, hv4, _, _⟩ := own_one_form ho4
  subst hv4
  clear ho4 hg4 hnew
  have q5 : w4.cell? ⟨P, 0, none⟩ = some (.slice none 0 0) := blk_cell HPP5.out rfl
  have f5 := blk_frozen 0 HPP5.out
  have HK5 : Hid (Kp (fun q => q = P) w4 (w4.setCell ⟨P, 0, none⟩ (.slice (some ⟨go, 0, none⟩) 1 c4))) := (Kp.refl _ _).setCell _ _ (fun _ => rfl)
  go_wp2_with fail
  rw [rounds_succ]
  go_wp2_with fail
  go_ret
  refine ⟨.slice (some ⟨go, 0, none⟩) 1 c4, .slice (some ⟨gi, 0, none⟩) 1 ci, .slice a2 ys.length c2, rfl, ⟨blk_set 0 _ HPP5.out, HK5.out.owns HO5.out (fun k hk e => own_not HO5.out HPP5.out (by decide) (by rw [hk, e])), HK5.out.owns HI5.out (fun k hk e => own_not HI5.out HPP5.out (by decide) (by rw [hk, e])), HK5.out.owns HX5.out (fun k hk e => own_not HX5.out HPP5.out (by decide) (by rw [hk, e])), ?_, HPB.out⟩, ?_, ?_⟩
  · intro k hk e
    have h1 : go = k := by simpa [Value.ownBlock] using hk
    have h2 : gi = k := by simpa [Value.ownBlock] using e
    rcases HNW.out with h | h
    · exact HOI.out k (by rw [← h]; exact hk) e
    · have h3 : go = w2.heap.size + 1 := by simpa [Value.ownBlock] using h
      have := HGL.out
      omega
  · have k12 : Kp (fun q => q = P) w w2 := HK1.out.drew.trans HK2.out (fun q _ h => by cases h)
    have k13 := k12.trans HK3.out (fun q hq h => by have := HG0.out; omega)
    have k14 := k13.trans HK4.out (fun q _ h => by cases h)
    exact k14.trans HK5.out (fun q _ h => h)
  · have s1 : w.heap.size ≤ w1.heap.size := HK1.out.size
    have s2 : w1.drew.heap.size ≤ w2.heap.size := HK2.out.size
    have s3 : w1.drew.heap.size = w1.heap.size := rfl
    have s4 := HG0.out
    intro q hq
    rcases hq with e | e | e | e
    · exact .inl e
    · rcases HNW.out with h | h
      · rw [h] at e
        cases e
      · rw [h] at e
        injection e with e
        exact .inr (by omega)
    · have h3 : gi = q := by simpa [Value.ownBlock] using e
      exact .inr (by omega)
    · rcases HN2.out with h | h
      · rw [h] at e
        cases e
      · rw [h] at e
        injection e with e
        exact .inr (by omega)
end
section
open Go.RowKit Go

/-- A place, its blocks from B on and below M: fresh, or with the last row in it. -/
def Pla (w : World) (B M P : Nat) : Prop := B ≤ P ∧ P < M ∧ ((w.heap[P]? = some (.cells #[.slice none 0 0, .slice none 0 0] 26 (0, 0))) ∨ ∃ ov iv vx xs, Pls w B P ov iv vx 1 [vx] xs ∧ ∀ q, pbk P ov iv vx q → q < M)
/-- A place's answer: the row. -/
structure Plr (w : World) (B P : Nat) (v : Value) (xs : List Nat) : Prop where
  h : ∃ ov iv, Pls w B P ov iv v 1 [v] xs
theorem Plr.own {w : World} {B P : Nat} {v : Value} {xs : List Nat} (h : Plr w B P v xs) : w.ownsRow B 5 1 v xs.length (bv xs) := by
  obtain ⟨ov, iv, h⟩ := h.h
  exact h.x
theorem pbk_lt {w : World} {B P no : Nat} {ov iv vx : Value} {os : List Value} {xs : List Nat} (h : Pls w B P ov iv vx no os xs) : ∀ q, pbk P ov iv vx q → q < w.heap.size := fun q hq => by
  rcases hq with e | e | e | e
  · rw [e]; exact blk_lt h.p
  · exact (h.o.lt q e).2
  · exact (h.i.lt q e).2
  · exact (h.x.lt q e).2
theorem Plr.pla {w : World} {B P : Nat} {v : Value} {xs : List Nat} (h : Plr w B P v xs) : Pla w B w.heap.size P := by
  obtain ⟨ov, iv, h⟩ := h.h
  exact ⟨h.pb, blk_lt h.p, .inr ⟨ov, iv, v, xs, h, pbk_lt h⟩⟩
theorem Pls.below {w w' : World} {B P no : Nat} {ov iv vx : Value} {os : List Value} {xs : List Nat} (h : Pls w B P ov iv vx no os xs) (hb : Below w.heap.size w w') : Pls w' B P ov iv vx no os xs :=
  ⟨(hb.block P (blk_lt h.p)).trans h.p, own_below h.o hb (rfl : 0 = 0), own_below h.i hb (rfl : 0 = 0), own_below h.x hb (rfl : 0 = 0), h.oi, h.pb⟩
theorem Plr.below {w w' : World} {B P : Nat} {v : Value} {xs : List Nat} (h : Plr w B P v xs) (hb : Below w.heap.size w w') : Plr w' B P v xs := by
  obtain ⟨ov, iv, h⟩ := h.h
  exact ⟨ov, iv, h.below hb⟩
theorem Pla.below {w w' : World} {B M P : Nat} (h : Pla w B M P) (hb : Below w.heap.size w w') : Pla w' B M P := by
  obtain ⟨h0, h1, h | ⟨ov, iv, vx, xs, h, h2⟩⟩ := h
  · exact ⟨h0, h1, .inl ((hb.block P (blk_lt h)).trans h)⟩
  · exact ⟨h0, h1, .inr ⟨ov, iv, vx, xs, h.below hb, h2⟩⟩
theorem Pla.mono {w : World} {B M M' P : Nat} (h : Pla w B M P) (hM : M ≤ M') : Pla w B M' P := by
  obtain ⟨h0, h1, h | ⟨ov, iv, vx, xs, h, h2⟩⟩ := h
  · exact ⟨h0, by omega, .inl h⟩
  · exact ⟨h0, by omega, .inr ⟨ov, iv, vx, xs, h, fun q hq => by have := h2 q hq; omega⟩⟩
theorem Pla.lt {w : World} {B M P : Nat} (h : Pla w B M P) : P < w.heap.size := by
  obtain ⟨h0, _, h | ⟨ov, iv, vx, xs, h, _⟩⟩ := h
  · exact blk_lt h
  · exact blk_lt h.p
/-- Blocks that are not the place's change. -/
theorem Pla.kp {w w' : World} {B M P : Nat} {S : Nat → Prop} (h : Pla w B M P) (hk : Kp S w w') (hs : ∀ q, B ≤ q → q < M → ¬ S q) : Pla w' B M P := by
  obtain ⟨h0, h1, h | ⟨ov, iv, vx, xs, h, h2⟩⟩ := h
  · exact ⟨h0, h1, .inl ((hk.block P (blk_lt h) (hs P h0 h1)).trans h)⟩
  · exact ⟨h0, h1, .inr ⟨ov, iv, vx, xs, ⟨(hk.block P (blk_lt h.p) (hs P h0 h1)).trans h.p, hk.owns h.o (fun k e => hs k (h.o.lt k e).1 (h2 k (.inr (.inl e)))), hk.owns h.i (fun k e => hs k (h.i.lt k e).1 (h2 k (.inr (.inr (.inl e))))), hk.owns h.x (fun k e => hs k (h.x.lt k e).1 (h2 k (.inr (.inr (.inr e))))), h.oi, h.pb⟩, h2⟩⟩
/-- The row is written over in its place. -/
theorem Plr.over {w w' : World} {B P : Nat} {v : Value} {xs ys : List Nat} (h : Plr w B P v xs) (hk : Kp (fun q => v.ownBlock = some q) w w') (ho : w'.ownsRow B 5 1 v ys.length (bv ys)) : Plr w' B P v ys := by
  obtain ⟨ov, iv, h⟩ := h.h
  exact ⟨ov, iv, ⟨(hk.block P (blk_lt h.p) (fun e => own_not h.x h.p (by decide) e)).trans h.p, hk.owns h.o (fun k hk' e => own_apart h.o h.x (by decide) hk' e), hk.owns h.i (fun k hk' e => own_apart h.i h.x (by decide) hk' e), ho, h.oi, h.pb⟩⟩

theorem pbk_lo {w : World} {B P no : Nat} {ov iv vx : Value} {os : List Value} {xs : List Nat} (h : Pls w B P ov iv vx no os xs) : ∀ q, pbk P ov iv vx q → B ≤ q := fun q hq => by
  rcases hq with e | e | e | e
  · rw [e]; exact h.pb
  · exact (h.o.lt q e).1
  · exact (h.i.lt q e).1
  · exact (h.x.lt q e).1
theorem cell_alloc1 (w : World) (v : Value) (t : TypeId) : (w.alloc (.cells #[v] t)).cell? ⟨w.heap.size, 0, none⟩ = some v := blk_cell (by show (w.heap.push _)[w.heap.size]? = _; rw [Array.getElem?_push_size]) rfl
/-- Place.Rows of one row, whatever the place holds. -/
theorem rows_pla (w : World) (B M P c : Nat) (v : Value) (ys : List Nat) (h : Pla w B M P) (hc : w.cell? ⟨c, 0, none⟩ = some v) (hB : B ≤ w.heap.size) (hl : ys.length ≤ 140737488351232) (hcp : c ≠ P) (hv : ∀ w', Below B w w' → BSl w' v ys) :
    Calls Tryd.prog 40 #[.pointer (some ⟨P, 0, none⟩), .slice (some ⟨c, 0, none⟩) 1 1] w fun e w' => ∃ ov' vx', e = .returned ov' ∧ w'.ownsRow B 27 1 ov' 1 [vx'] ∧ Plr w' B P vx' ys ∧ Below B w w' ∧ Kp (fun q => B ≤ q ∧ q < M) w w' ∧ ∀ q, vx'.ownBlock = some q → q < M ∨ w.heap.size ≤ q := by
  obtain ⟨h0, h1, h | ⟨ov, iv, vx, xs, h, h2⟩⟩ := h
  · refine (rows_fresh w B P c v ys h h0 hc (hv w (Below.refl _ _)) hB hl hcp (fun w' hk => hv w' (hk.below hB (fun k e => by omega)))).mono ?_
    rintro e w' ⟨ov', iv', vx', he, hp, hk, hq⟩
    exact ⟨ov', vx', he, hp.o, ⟨ov', iv', hp⟩, hk.below hB (fun k e => by omega), hk.mono (fun q _ e => by omega), fun q e => by have := hq q (.inr (.inr (.inr e))); omega⟩
  · refine (rows_used w B P c v ov iv vx 1 [vx] xs ys h hc (hv w (Below.refl _ _)) hB hl hcp (fun w' hk => hv w' (hk.below hB (fun k e => by have := h.pb; omega)))).mono ?_
    rintro e w' ⟨ov', iv', vx', he, hp, hk, hq⟩
    exact ⟨ov', vx', he, hp.o, ⟨ov', iv', hp⟩, hk.below hB (pbk_lo h), hk.mono (fun q _ e => ⟨pbk_lo h q e, h2 q e⟩), fun q e => (hq q (.inr (.inr (.inr e)))).imp (h2 q) id⟩

set_option maxRecDepth 1000000 in
set_option maxHeartbeats 1000000 in
/-- Place.Bytes. -/
theorem pbytes_any (w : World) (B M P : Nat) (v : Value) (ys : List Nat) (h : Pla w B M P) (hB : B ≤ w.heap.size) (hl : ys.length ≤ 140737488351232) (hv : ∀ w', Below B w w' → BSl w' v ys) :
    Calls Tryd.prog 16 #[.pointer (some ⟨P, 0, none⟩), v] w fun e w' => ∃ vx', e = .returned vx' ∧ Plr w' B P vx' ys ∧ Below B w w' ∧ Kp (fun q => B ≤ q ∧ q < M) w w' ∧ ∀ q, vx'.ownBlock = some q → q < M ∨ w.heap.size ≤ q := by
  have HP := hide h
  have HB := hide hB
  have HL := hide hl
  have HV := hide hv
  clear h hB hl hv
  obtain ⟨⟨av, cv, rfl, _, _⟩, _, _⟩ := HV.out w (Below.refl _ _)
  go_enter Tryd.func16, Tryd.ntmps16
  go_wp2_with fail
  generalize hw1 : w.alloc _ = w1
  have HBa : Hid (Below w.heap.size w w1) := by rw [← hw1]; exact (Below.refl _ _).alloc (Nat.le_refl _) _
  have HC : Hid (w1.cell? ⟨w.heap.size, 0, none⟩ = some (.slice av ys.length cv)) := by rw [← hw1]; exact cell_alloc1 _ _ _
  have HPx := hide (HP.out.below HBa.out)
  have HBx : Hid (B ≤ w1.heap.size) := Nat.le_trans HB.out HBa.out.size
  refine (rows_pla w1 B M P w.heap.size _ ys HPx.out HC.out HBx.out HL.out (fun e => by have := HP.out.lt; omega) (fun w' hb => HV.out w' ((HBa.out.mono HB.out).trans hb))).mono ?_
  rintro e w2 ⟨ov, vx, rfl, ho, hp, hb, hkm, hvq⟩
  have HPR := hide hp
  have HB2 : Hid (Below B w w2) := (HBa.out.mono HB.out).trans hb
  obtain ⟨go, co, rfl, c0, _⟩ := own_one_form ho
  have HKM : Hid (Kp (fun q => B ≤ q ∧ q < M) w w2) := (Kp.of_below HBa.out).trans hkm (fun _ _ h => h)
  have HVQ : Hid (∀ q, vx.ownBlock = some q → q < M ∨ w.heap.size ≤ q) := fun q e => by have := hvq q e; have := HBa.out.size; omega
  clear ho hp hb hkm hvq
  go_wp2_with fail
  go_ret
  exact ⟨vx, rfl, HPR.out, HB2.out, HKM.out, HVQ.out⟩

theorem into_setR (xs ys : List Nat) (k : Nat) (hx : k < xs.length) (hy : k < ys.length) : (bv (ys.take k ++ xs.drop k)).set k (.int .u8 ((ys.getD k 0 : Nat) : Int)) = bv (ys.take (k + 1) ++ xs.drop (k + 1)) := by
  have e1 : ys.take k ++ xs.drop k = ys.take k ++ (xs[k] :: xs.drop (k + 1)) := by rw [List.drop_eq_getElem_cons hx]
  have e2 : ys.take (k + 1) ++ xs.drop (k + 1) = ys.take k ++ (ys[k] :: xs.drop (k + 1)) := by rw [List.take_succ_eq_append_getElem hy]; simp only [List.append_assoc, List.cons_append, List.nil_append]
  have hl2 : (bv (ys.take k)).length = k := by rw [bv_len, List.length_take]; omega
  have hb : ∀ (z : Nat) (l : List Nat), bv (z :: l) = Value.int .u8 ((z : Nat) : Int) :: bv l := fun _ _ => rfl
  rw [e1, e2, bv_app, bv_app, List.set_append_right (h := by omega), hl2, Nat.sub_self, hb, hb, List.set_cons_zero]
  simp [List.getD, hy]

set_option maxRecDepth 1000000 in
set_option maxHeartbeats 400000 in
theorem intoR_any {w : World} {B : Nat} {v : Value} {xs ys : List Nat} (h : w.ownsRow B 5 1 v xs.length (bv xs)) (hxl : xs.length ≤ 140737488351232) (vb : Value) (hb : BSl w vb ys) (hlen : ys.length = xs.length) (hne : ∀ k, v.ownBlock = some k → vb.ownBlock ≠ some k) :
    Calls Tryd.prog 18 #[v, vb] w fun e w' => e = .returned (.tuple #[]) ∧ w'.ownsRow B 5 1 v ys.length (bv ys) ∧ Kp (fun k => v.ownBlock = some k) w w' := by
  have HH := hide h
  have HB := hide hb
  have HLE := hide hlen
  have HNE := hide hne
  have hmx : xs.length ≤ 9223372036854775807 := by omega
  obtain ⟨a, cap, rfl, _, _, ha⟩ := own_form h
  have HA := hide ha
  obtain ⟨⟨ab, capb, rfl, hq1, hc⟩, hq2, hq3⟩ := hb
  have HC := hide hc
  clear h hlen hne hq1 hq2 hq3 hc ha hxl
  go_enter Tryd.func18, Tryd.ntmps18
  go_wp2
  go_loopw [4] (fun i wr => ∃ k : Nat, k ≤ xs.length ∧ i = .int .i64 k ∧ wr.ownsRow B 5 1 (.slice a xs.length cap) xs.length (bv (ys.take k ++ xs.drop k)) ∧ Kp (fun q => (Value.slice a xs.length cap).ownBlock = some q) w wr) (fun i _ => xs.length - (intOf i).toNat)
  case atStart => exact ⟨0, Nat.zero_le _, rfl, by simpa using HH.out, Kp.refl _ _⟩
  case round =>
    obtain ⟨k, hk, rfl, hown, hkp⟩ := hrel
    have HO := hide hown
    have HK := hide hkp
    clear hown hkp
    by_cases hlt : k < xs.length
    · have hlt' : (k : Int) < (xs.length : Int) := by omega
      have hlty : k < ys.length := by have := HLE.out; omega
      have hlty' : (k : Int) < (ys.length : Int) := by omega
      obtain ⟨g, rfl, _⟩ := HA.out k _ (bv_get hlt)
      rcases HC.out with h | ⟨b1, o1, rfl, hcc⟩
      · rw [h] at hlty; simp at hlty
      have hbg : ¬ (Value.slice (some ⟨g, 0, none⟩) xs.length cap).ownBlock = some b1 := fun e => HNE.out b1 e rfl
      have cc := HK.out.cell (hcc k hlty) hbg
      have hget : (bv (ys.take k ++ xs.drop k))[k]? = some (.int .u8 ((xs.getD k 0 : Nat) : Int)) := by
        have hl : k < (ys.take k ++ xs.drop k).length := by simp; omega
        rw [bv_get hl]
        congr 3
        have hl2 : (ys.take k).length = k := by rw [List.length_take]; omega
        simp only [List.getD]
        rw [List.getElem?_append_right (by omega), hl2, Nat.sub_self]
        simp
      obtain ⟨cg, fg⟩ := own_cell HO.out hget
      have hset := into_setR xs ys k hlt hlty
      have HSE := hide hset
      clear hset hget hcc
      generalize xs.getD k 0 = old at *
      generalize ys.getD k 0 = new at *
      have hbg' : ¬ g = b1 := fun e => hbg (by rw [e]; rfl)
      clear hbg
      go_wp2
      go_roundw
      case rel => exact ⟨k + 1, by omega, by go_num, by rw [← HSE.out]; exact own_set _ HO.out, HK.out.setCell _ _ (fun _ => rfl)⟩
      case measure => simp [intOf]; omega
    · have hlt' : ¬ (k : Int) < (xs.length : Int) := by omega
      go_wp2
      go_end0
      refine ⟨rfl, ?_, HK.out⟩
      have h := HO.out
      rw [List.take_of_length_le (by have := HLE.out; omega), List.drop_of_length_le (by omega), List.append_nil] at h
      rw [HLE.out]
      exact h

set_option maxRecDepth 1000000 in
set_option maxHeartbeats 400000 in
theorem overR_any {w : World} {B : Nat} {v : Value} {xs : List Nat} (h : w.ownsRow B 5 1 v xs.length (bv xs)) (hxl : xs.length ≤ 140737488351232) :
    Calls Tryd.prog 21 #[v] w fun e w' => e = .returned (.tuple #[]) ∧ w'.ownsRow B 5 1 v xs.length (bv (List.replicate xs.length 238)) ∧ Kp (fun k => v.ownBlock = some k) w w' := by
  have HH := hide h
  have hmx : xs.length ≤ 9223372036854775807 := by omega
  obtain ⟨a, cap, rfl, _, _, ha⟩ := own_form h
  have HA := hide ha
  clear h ha hxl
  have HLE : Hid ((List.replicate xs.length 238).length = xs.length) := by show _ = _; simp
  have HGD : Hid (∀ k, k < xs.length → (List.replicate xs.length 238).getD k 0 = 238) := fun k hk => by simp [List.getD, hk]
  generalize List.replicate xs.length 238 = ys at *
  go_enter Tryd.func21, Tryd.ntmps21
  go_wp2
  go_loopw [2] (fun i wr => ∃ k : Nat, k ≤ xs.length ∧ i = .int .i64 k ∧ wr.ownsRow B 5 1 (.slice a xs.length cap) xs.length (bv (ys.take k ++ xs.drop k)) ∧ Kp (fun q => (Value.slice a xs.length cap).ownBlock = some q) w wr) (fun i _ => xs.length - (intOf i).toNat)
  case atStart => exact ⟨0, Nat.zero_le _, rfl, by simpa using HH.out, Kp.refl _ _⟩
  case round =>
    obtain ⟨k, hk, rfl, hown, hkp⟩ := hrel
    have HO := hide hown
    have HK := hide hkp
    clear hown hkp
    by_cases hlt : k < xs.length
    · have hlt' : (k : Int) < (xs.length : Int) := by omega
      have hlty : k < ys.length := by have := HLE.out; omega
      obtain ⟨g, rfl, _⟩ := HA.out k _ (bv_get hlt)
      have hget : (bv (ys.take k ++ xs.drop k))[k]? = some (.int .u8 ((xs.getD k 0 : Nat) : Int)) := by
        have hl : k < (ys.take k ++ xs.drop k).length := by simp; omega
        rw [bv_get hl]
        congr 3
        have hl2 : (ys.take k).length = k := by rw [List.length_take]; omega
        simp only [List.getD]
        rw [List.getElem?_append_right (by omega), hl2, Nat.sub_self]
        simp
      obtain ⟨cg, fg⟩ := own_cell HO.out hget
      have hset := into_setR xs ys k hlt hlty
      rw [HGD.out k hlt] at hset
      have HSE := hide hset
      clear hset hget
      generalize xs.getD k 0 = old at *
      go_wp2
      go_roundw
      case rel => exact ⟨k + 1, by omega, by go_num, by rw [← HSE.out]; exact own_set _ HO.out, HK.out.setCell _ _ (fun _ => rfl)⟩
      case measure => simp [intOf]; omega
    · have hlt' : ¬ (k : Int) < (xs.length : Int) := by omega
      go_wp2
      go_end0
      refine ⟨rfl, ?_, HK.out⟩
      have h := HO.out
      rw [List.take_of_length_le (by have := HLE.out; omega), List.drop_of_length_le (by omega), List.append_nil] at h
      exact h
end
section
open Go.RowKit Go

/-- A place whose blocks are all within F: fresh, or with the last row in it. -/
def Plf (w : World) (B P : Nat) (F : Nat → Prop) : Prop := F P ∧ B ≤ P ∧ ((w.heap[P]? = some (.cells #[.slice none 0 0, .slice none 0 0] 26 (0, 0))) ∨ ∃ ov iv vx xs, Pls w B P ov iv vx 1 [vx] xs ∧ ∀ q, pbk P ov iv vx q → F q)
/-- Its answer: the row. -/
def Plq (w : World) (B P : Nat) (F : Nat → Prop) (v : Value) (xs : List Nat) : Prop := ∃ ov iv, Pls w B P ov iv v 1 [v] xs ∧ ∀ q, pbk P ov iv v q → F q
theorem Pls.kp {w w' : World} {B P no : Nat} {ov iv vx : Value} {os : List Value} {xs : List Nat} {S : Nat → Prop} (h : Pls w B P ov iv vx no os xs) (hk : Kp S w w') (hs : ∀ q, pbk P ov iv vx q → ¬ S q) : Pls w' B P ov iv vx no os xs :=
  ⟨(hk.block P (blk_lt h.p) (hs P (.inl rfl))).trans h.p, hk.owns h.o (fun k e => hs k (.inr (.inl e))), hk.owns h.i (fun k e => hs k (.inr (.inr (.inl e)))), hk.owns h.x (fun k e => hs k (.inr (.inr (.inr e)))), h.oi, h.pb⟩
theorem Plf.lt {w : World} {B P : Nat} {F : Nat → Prop} (h : Plf w B P F) : P < w.heap.size := by
  obtain ⟨_, _, h | ⟨ov, iv, vx, xs, h, _⟩⟩ := h
  · exact blk_lt h
  · exact blk_lt h.p
/-- What else is known of its blocks. -/
theorem Plf.foot {w : World} {B P : Nat} {F F' : Nat → Prop} (h : Plf w B P F) (hF : ∀ q, F q → q < w.heap.size → F' q) : Plf w B P F' := by
  have hl := h.lt
  obtain ⟨h0, h1, h | ⟨ov, iv, vx, xs, h, h2⟩⟩ := h
  · exact ⟨hF P h0 hl, h1, .inl h⟩
  · exact ⟨hF P h0 hl, h1, .inr ⟨ov, iv, vx, xs, h, fun q hq => hF q (h2 q hq) (pbk_lt h q hq)⟩⟩
theorem Plf.kp {w w' : World} {B P : Nat} {F S : Nat → Prop} (h : Plf w B P F) (hk : Kp S w w') (hs : ∀ q, F q → ¬ S q) : Plf w' B P F := by
  obtain ⟨h0, h1, h | ⟨ov, iv, vx, xs, h, h2⟩⟩ := h
  · exact ⟨h0, h1, .inl ((hk.block P (blk_lt h) (hs P h0)).trans h)⟩
  · exact ⟨h0, h1, .inr ⟨ov, iv, vx, xs, h.kp hk (fun q hq => hs q (h2 q hq)), h2⟩⟩
theorem Plf.below {w w' : World} {B P : Nat} {F : Nat → Prop} (h : Plf w B P F) (hb : Below w.heap.size w w') : Plf w' B P F := h.kp (Kp.of_below (S := fun _ => False) hb) (fun _ _ h => h)
theorem Plq.own {w : World} {B P : Nat} {F : Nat → Prop} {v : Value} {xs : List Nat} (h : Plq w B P F v xs) : w.ownsRow B 5 1 v xs.length (bv xs) := by
  obtain ⟨ov, iv, h, _⟩ := h
  exact h.x
theorem Plq.blk {w : World} {B P : Nat} {F : Nat → Prop} {v : Value} {xs : List Nat} (h : Plq w B P F v xs) : ∀ q, v.ownBlock = some q → F q := by
  obtain ⟨ov, iv, _, h2⟩ := h
  exact fun q e => h2 q (.inr (.inr (.inr e)))
theorem Plq.plf {w : World} {B P : Nat} {F : Nat → Prop} {v : Value} {xs : List Nat} (h : Plq w B P F v xs) : Plf w B P F := by
  obtain ⟨ov, iv, h, h2⟩ := h
  exact ⟨h2 P (.inl rfl), h.pb, .inr ⟨ov, iv, v, xs, h, h2⟩⟩
theorem Plq.foot {w : World} {B P : Nat} {F F' : Nat → Prop} {v : Value} {xs : List Nat} (h : Plq w B P F v xs) (hF : ∀ q, F q → q < w.heap.size → F' q) : Plq w B P F' v xs := by
  obtain ⟨ov, iv, h, h2⟩ := h
  exact ⟨ov, iv, h, fun q hq => hF q (h2 q hq) (pbk_lt h q hq)⟩
theorem Plq.kp {w w' : World} {B P : Nat} {F S : Nat → Prop} {v : Value} {xs : List Nat} (h : Plq w B P F v xs) (hk : Kp S w w') (hs : ∀ q, F q → ¬ S q) : Plq w' B P F v xs := by
  obtain ⟨ov, iv, h, h2⟩ := h
  exact ⟨ov, iv, h.kp hk (fun q hq => hs q (h2 q hq)), h2⟩
theorem Plq.below {w w' : World} {B P : Nat} {F : Nat → Prop} {v : Value} {xs : List Nat} (h : Plq w B P F v xs) (hb : Below w.heap.size w w') : Plq w' B P F v xs := h.kp (Kp.of_below (S := fun _ => False) hb) (fun _ _ h => h)
/-- The row is written over in its place. -/
theorem Plq.over {w w' : World} {B P : Nat} {F : Nat → Prop} {v : Value} {xs ys : List Nat} (h : Plq w B P F v xs) (hk : Kp (fun q => v.ownBlock = some q) w w') (ho : w'.ownsRow B 5 1 v ys.length (bv ys)) : Plq w' B P F v ys := by
  obtain ⟨ov, iv, h, h2⟩ := h
  exact ⟨ov, iv, ⟨(hk.block P (blk_lt h.p) (fun e => own_not h.x h.p (by decide) e)).trans h.p, hk.owns h.o (fun k hk' e => own_apart h.o h.x (by decide) hk' e), hk.owns h.i (fun k hk' e => own_apart h.i h.x (by decide) hk' e), ho, h.oi, h.pb⟩, h2⟩
theorem rows_plf (w : World) (B P c : Nat) (F : Nat → Prop) (v : Value) (ys : List Nat) (h : Plf w B P F) (hc : w.cell? ⟨c, 0, none⟩ = some v) (hB : B ≤ w.heap.size) (hl : ys.length ≤ 140737488351232) (hcp : c ≠ P) (hv : ∀ w', Below B w w' → BSl w' v ys) :
    Calls Tryd.prog 40 #[.pointer (some ⟨P, 0, none⟩), .slice (some ⟨c, 0, none⟩) 1 1] w fun e w' => ∃ ov' vx', e = .returned ov' ∧ w'.ownsRow B 27 1 ov' 1 [vx'] ∧ Plq w' B P (fun q => F q ∨ w.heap.size ≤ q) vx' ys ∧ Kp F w w' := by
  obtain ⟨h0, h1, h | ⟨ov, iv, vx, xs, h, h2⟩⟩ := h
  · refine (rows_fresh w B P c v ys h h1 hc (hv w (Below.refl _ _)) hB hl hcp (fun w' hk => hv w' (hk.below hB (fun k e => by omega)))).mono ?_
    rintro e w' ⟨ov', iv', vx', he, hp, hk, hq⟩
    exact ⟨ov', vx', he, hp.o, ⟨ov', iv', hp, fun q e => (hq q e).imp (fun e => by rw [e]; exact h0) id⟩, hk.mono (fun q _ e => by rw [e]; exact h0)⟩
  · refine (rows_used w B P c v ov iv vx 1 [vx] xs ys h hc (hv w (Below.refl _ _)) hB hl hcp (fun w' hk => hv w' (hk.below hB (fun k e => by have := h.pb; omega)))).mono ?_
    rintro e w' ⟨ov', iv', vx', he, hp, hk, hq⟩
    exact ⟨ov', vx', he, hp.o, ⟨ov', iv', hp, fun q e => (hq q e).imp (h2 q) id⟩, hk.mono (fun q _ e => h2 q e)⟩

set_option maxRecDepth 1000000 in
set_option maxHeartbeats 1000000 in
/-- Place.Bytes. -/
theorem pbytes_f (w : World) (B P : Nat) (F : Nat → Prop) (v : Value) (ys : List Nat) (h : Plf w B P F) (hB : B ≤ w.heap.size) (hl : ys.length ≤ 140737488351232) (hv : ∀ w', Below B w w' → BSl w' v ys) :
    Calls Tryd.prog 16 #[.pointer (some ⟨P, 0, none⟩), v] w fun e w' => ∃ vx', e = .returned vx' ∧ Plq w' B P (fun q => F q ∨ w.heap.size ≤ q) vx' ys ∧ Kp F w w' := by
  have HP := hide h
  have HB := hide hB
  have HL := hide hl
  have HV := hide hv
  clear h hB hl hv
  obtain ⟨⟨av, cv, rfl, _, _⟩, _, _⟩ := HV.out w (Below.refl _ _)
  go_enter Tryd.func16, Tryd.ntmps16
  go_wp2_with fail
  generalize hw1 : w.alloc _ = w1
  have HBa : Hid (Below w.heap.size w w1) := by rw [← hw1]; exact (Below.refl _ _).alloc (Nat.le_refl _) _
  have HC : Hid (w1.cell? ⟨w.heap.size, 0, none⟩ = some (.slice av ys.length cv)) := by rw [← hw1]; exact cell_alloc1 _ _ _
  have HPx := hide (HP.out.below HBa.out)
  have HBx : Hid (B ≤ w1.heap.size) := Nat.le_trans HB.out HBa.out.size
  refine (rows_plf w1 B P w.heap.size F _ ys HPx.out HC.out HBx.out HL.out (fun e => by have := HP.out.lt; omega) (fun w' hb => HV.out w' ((HBa.out.mono HB.out).trans hb))).mono ?_
  rintro e w2 ⟨ov, vx, rfl, ho, hp, hkm⟩
  have HPR : Hid (Plq w2 B P (fun q => F q ∨ w.heap.size ≤ q) vx ys) := hp.foot (fun q hq _ => hq.imp id (fun h => Nat.le_trans HBa.out.size h))
  obtain ⟨go, co, rfl, c0, _⟩ := own_one_form ho
  have HKM : Hid (Kp F w w2) := (Kp.of_below HBa.out).trans hkm (fun _ _ h => h)
  clear ho hp hkm
  go_wp2_with fail
  go_ret
  exact ⟨vx, rfl, HPR.out, HKM.out⟩
end
section
open Go.RowKit

set_option maxRecDepth 1000000 in
set_option maxHeartbeats 400000 in
/-- What was lent is written over. -/
theorem over_any {w : World} {base g cap : Nat} {xs : List Nat} (h : Lnt w base g cap xs) :
    Calls Tryd.prog 21 #[.slice (some ⟨g, 0, none⟩) xs.length cap] w fun e w' => e = .returned (.tuple #[]) ∧ Lnt w' base g cap (List.replicate xs.length 238) ∧ Kp (fun k => k = g) w w' := by
  have HH := hide h
  have hmx : xs.length ≤ 9223372036854775807 := by have := h.len; omega
  clear h
  have HLE : Hid ((List.replicate xs.length 238).length = xs.length) := by show _ = _; simp
  have HGD : Hid (∀ k, k < xs.length → (List.replicate xs.length 238).getD k 0 = 238) := fun k hk => by simp [List.getD, hk]
  have HYB : Hid (∀ y ∈ List.replicate xs.length 238, y < 256) := fun y hy => by have := List.eq_of_mem_replicate hy; omega
  generalize List.replicate xs.length 238 = ys at *
  go_enter Tryd.func21, Tryd.ntmps21
  go_wp2
  go_loopw [2] (fun i wr => ∃ k : Nat, k ≤ xs.length ∧ i = .int .i64 k ∧ wr.ownsRow base 5 1 (.slice (some ⟨g, 0, none⟩) (xs.length + 70) cap) (xs.length + 70) (bv (ys.take k ++ xs.drop k ++ marks)) ∧ Kp (fun q => q = g) w wr) (fun i _ => xs.length - (intOf i).toNat)
  case atStart => exact ⟨0, Nat.zero_le _, rfl, by simpa using HH.out.own, Kp.refl _ _⟩
  case round =>
    obtain ⟨k, hk, rfl, hown, hkp⟩ := hrel
    have HO := hide hown
    have HK := hide hkp
    clear hown hkp
    by_cases hlt : k < xs.length
    · have hlt' : (k : Int) < (xs.length : Int) := by omega
      have hlty : k < ys.length := by have := HLE.out; omega
      have hget : (bv (ys.take k ++ xs.drop k ++ marks))[k]? = some (.int .u8 ((xs.getD k 0 : Nat) : Int)) := by
        have hl : k < (ys.take k ++ xs.drop k ++ marks).length := by simp [marks]; omega
        rw [bv_get hl]
        congr 3
        have hl2 : (ys.take k).length = k := by rw [List.length_take]; omega
        rw [List.append_assoc]
        simp only [List.getD]
        rw [List.getElem?_append_right (by omega), hl2, Nat.sub_self, List.getElem?_append_left (by rw [List.length_drop]; omega)]
        simp
      obtain ⟨cg, fg⟩ := own_cell HO.out hget
      have hset := into_set xs ys k hlt hlty
      rw [HGD.out k hlt] at hset
      have HSE := hide hset
      clear hset hget
      generalize xs.getD k 0 = old at *
      go_wp2
      go_roundw
      case rel => exact ⟨k + 1, by omega, by go_num, by rw [← HSE.out]; exact own_set _ HO.out, HK.out.setCell _ _ (fun _ => rfl)⟩
      case measure => simp [intOf]; omega
    · have hlt' : ¬ (k : Int) < (xs.length : Int) := by omega
      go_wp2
      go_end0
      refine ⟨rfl, ⟨?_, HYB.out, by rw [HLE.out]; exact HH.out.len⟩, HK.out⟩
      have h := HO.out
      rw [List.take_of_length_le (by have := HLE.out; omega), List.drop_of_length_le (by omega), List.append_nil] at h
      rw [HLE.out]
      exact h
end
section
open Go.RowKit Go

/-- What DigestLaid has in hand: its argument's block, the table. -/
structure Lq (w wx : World) (T A : Nat) (vs : Array Value) : Prop where
  t : wx.heap[T]? = some (.cells vs 47 (0, 0))
  c : Cb wx
  l : Below w.heap.size w wx
  ta : T < A
  wa : w.heap.size ≤ A
  p0 : 0 < A
theorem Lq.kp {w wx wy : World} {T A : Nat} {vs : Array Value} {S : Nat → Prop} (h : Lq w wx T A vs) (hk : Kp S wx wy) (hs : ∀ q, S q → A ≤ q) : Lq w wy T A vs := by
  have ta := h.ta
  have wa := h.wa
  have p0 := h.p0
  exact ⟨(hk.block T (blk_lt h.t) (fun e => by have := hs _ e; omega)).trans h.t, h.c.kp hk (fun e => by have := hs _ e; omega), h.l.trans (hk.below h.l.size (fun q e => by have := hs _ e; omega)), ta, wa, p0⟩
theorem Lq.below {w wx wy : World} {T A : Nat} {vs : Array Value} (h : Lq w wx T A vs) (hb : Below wx.heap.size wx wy) : Lq w wy T A vs := h.kp (Kp.of_below (S := fun _ => False) hb) (fun _ e => e.elim)
/-- Book, Late and the place, side by side; what is in X is none of Book's and Late's. -/
structure Lx (wx : World) (A P Bk Lt t c : Nat) (FP X : Nat → Prop) : Prop where
  h : Hs wx A X Bk Lt t c
  p : Plf wx A P FP
  fx : ∀ q, FP q → X q
  fa : ∀ q, FP q → A ≤ q
  fl : ∀ q, FP q → q < wx.heap.size
  nx : ∀ q, wx.heap.size ≤ q → X q
  az : A ≤ wx.heap.size
section
variable {wx wy : World} {A P Bk Lt t c : Nat} {FP X : Nat → Prop}
theorem Lx.kp (h : Lx wx A P Bk Lt t c FP X) {S : Nat → Prop} (hk : Kp S wx wy) (hs : ∀ q, S q → X q) (hf : ∀ q, FP q → ¬ S q) : Lx wy A P Bk Lt t c FP X :=
  ⟨h.h.kp hk (fun q _ _ hx e => hx (hs q e)), h.p.kp hk hf, h.fx, h.fa, fun q hq => Nat.lt_of_lt_of_le (h.fl q hq) hk.size, fun q hq => h.nx q (Nat.le_trans hk.size hq), Nat.le_trans h.az hk.size⟩
theorem Lx.below (h : Lx wx A P Bk Lt t c FP X) (hb : Below wx.heap.size wx wy) : Lx wy A P Bk Lt t c FP X := h.kp (Kp.of_below (S := fun _ => False) hb) (fun _ e => e.elim) (fun _ _ e => e)
/-- What is left when one was handed on. -/
def Xl (wx wy : World) (X : Nat → Prop) (got : Value) (q : Nat) : Prop := (X q ∧ got.ownBlock ≠ some q ∧ q < wx.heap.size) ∨ wy.heap.size ≤ q
theorem Lx.add (h : Lx wx A P Bk Lt t c FP X) {c' : Nat} {got : Value} (hh : Hs wy A (fun k => X k ∧ got.ownBlock ≠ some k ∧ k < wx.heap.size) Bk Lt t c') (hk : Kp (fun k => A ≤ k ∧ ¬ X k) wx wy) (hg : ∀ q, FP q → got.ownBlock ≠ some q) : Lx wy A P Bk Lt t c' FP (Xl wx wy X got) :=
  ⟨hh.mono (fun q _ hl hx => by rcases hx with hx | hx; exact hx; omega), h.p.kp hk (fun q hq e => e.2 (h.fx q hq)), fun q hq => .inl ⟨h.fx q hq, hg q hq, h.fl q hq⟩, h.fa, fun q hq => Nat.lt_of_lt_of_le (h.fl q hq) hk.size, fun q hq => .inr hq, Nat.le_trans h.az hk.size⟩
/-- The place has taken bytes in. -/
theorem Lx.bytes (h : Lx wx A P Bk Lt t c FP X) {v : Value} {ys : List Nat} (hp : Plq wy A P (fun q => FP q ∨ wx.heap.size ≤ q) v ys) (hk : Kp FP wx wy) : Lx wy A P Bk Lt t c (fun q => (FP q ∨ wx.heap.size ≤ q) ∧ q < wy.heap.size) X ∧ Plq wy A P (fun q => (FP q ∨ wx.heap.size ≤ q) ∧ q < wy.heap.size) v ys := by
  have hq := hp.foot (F' := fun q => (FP q ∨ wx.heap.size ≤ q) ∧ q < wy.heap.size) (fun q h1 h2 => ⟨h1, h2⟩)
  have az := h.az
  exact ⟨⟨h.h.kp hk (fun q _ _ hx e => hx (h.fx q e)), hq.plf, fun q hq => hq.1.elim (h.fx q) (h.nx q), fun q hq => hq.1.elim (h.fa q) (fun e => by omega), fun q hq => hq.2, fun q hq => h.nx q (Nat.le_trans hk.size hq), Nat.le_trans h.az hk.size⟩, hq⟩
end
theorem dlay_len (h : Nat) (d : List Nat) : (dlay h d).1.length ≤ 66 := by
  unfold dlay
  split
  · simp
  · split
    · simp
    · simp
      omega
theorem dlay_byte {h : Nat} {d : List Nat} (hd : ∀ x ∈ d, x < 256) : ∀ x ∈ (dlay h d).1, x < 256 := by
  intro x hx
  unfold dlay at hx
  split at hx
  · simp at hx
  · split at hx
    · simp at hx
    · rename_i h1 h2
      simp only [List.mem_cons] at hx
      rcases hx with e | e | e
      · omega
      · omega
      · exact hd x e
theorem dread_len (xs : List Nat) : (dread xs).2.1.length ≤ 64 := by
  unfold dread
  split
  · simp
  · split
    · simp
    · split
      · simp
      · split
        · simp
        · split
          · simp
          · rename_i h1 h2 h3 h4 h5
            simp only [List.length_take]
            omega
theorem dread_bytes {xs : List Nat} (h : ∀ x ∈ xs, x < 256) : ∀ x ∈ (dread xs).2.1, x < 256 := by
  intro x hx
  unfold dread at hx
  repeat' split at hx
  all_goals first | (simp at hx; done) | exact h x (List.mem_of_mem_drop (List.mem_of_mem_take hx))
end
section
open Go.RowKit Go

theorem RowsIn.rowZ {w : World} {a : Option Addr} {len cap : Nat} (h : RowsIn w (.slice a len cap) len) (hl : 0 < len) : ∃ b off, a = some ⟨b, off, none⟩ ∧ ∀ i, i < len → ∃ u xs, w.cell? ⟨b, off + i, none⟩ = some u ∧ BSl w u xs ∧ xs.length ≤ 140737488351232 := by
  obtain ⟨⟨a', cap', hv, _, hr⟩, _⟩ := h
  injection hv with h1 h2 h3
  subst h1
  rcases hr with hr | hr
  · omega
  · exact hr
theorem lx_start (w1 : World) :
    Lx (((w1.alloc (.cells (bookCells (.slice none 0 0) (.slice none 0 0) 0 0 0 0) 68)).alloc (.cells #[.slice none 0 0, .slice none 0 0] 71)).alloc (.cells #[.slice none 0 0, .slice none 0 0] 26)) w1.heap.size (w1.heap.size + 1 + 1) w1.heap.size (w1.heap.size + 1) 0 0 (fun q => q = w1.heap.size + 1 + 1) (fun q => w1.heap.size + 2 ≤ q) := by
  have hn := hs_new w1
  have hsz : ((w1.alloc (.cells (bookCells (.slice none 0 0) (.slice none 0 0) 0 0 0 0) 68)).alloc (.cells #[.slice none 0 0, .slice none 0 0] 71)).heap.size = w1.heap.size + 1 + 1 := by simp
  generalize (w1.alloc (.cells (bookCells (.slice none 0 0) (.slice none 0 0) 0 0 0 0) 68)).alloc (.cells #[.slice none 0 0, .slice none 0 0] 71) = wb at *
  have hb := below_alloc wb (.cells #[.slice none 0 0, .slice none 0 0] 26)
  have hp := heap_alloc_new wb (.cells #[.slice none 0 0, .slice none 0 0] 26)
  have hs2 : (wb.alloc (.cells #[.slice none 0 0, .slice none 0 0] 26)).heap.size = w1.heap.size + 1 + 1 + 1 := by simp [hsz]
  generalize wb.alloc (.cells #[.slice none 0 0, .slice none 0 0] 26) = wc at *
  rw [hsz] at hp
  exact ⟨hn.kp (Kp.of_below (S := fun _ => False) hb) (fun _ _ _ _ h => h), ⟨rfl, by omega, .inl hp⟩, fun q hq => by omega, fun q hq => by omega, fun q hq => by omega, fun q hq => by omega, by omega⟩

theorem Lx.over {wx wy : World} {A P Bk Lt t c : Nat} {FP X S : Nat → Prop} (h : Lx wx A P Bk Lt t c FP X) (hk : Kp S wx wy) (hs : ∀ q, S q → X q) (hp : Plf wy A P FP) : Lx wy A P Bk Lt t c FP X :=
  ⟨h.h.kp hk (fun q _ _ hx e => hx (hs q e)), hp, h.fx, h.fa, fun q hq => Nat.lt_of_lt_of_le (h.fl q hq) hk.size, fun q hq => h.nx q (Nat.le_trans hk.size hq), Nat.le_trans h.az hk.size⟩
/-- A row that is not yet handed on: its bytes, where its block lies. -/
structure Rz (wx : World) (A : Nat) (FP X : Nat → Prop) (v : Value) (W : List Nat) (lo hi : Nat) : Prop where
  o : wx.ownsRow A 5 1 v W.length (bv W)
  x : ∀ q, v.ownBlock = some q → X q ∧ ¬ FP q ∧ lo ≤ q ∧ q < hi
section
variable {wx wy : World} {A P Bk Lt t c : Nat} {FP X : Nat → Prop} {v : Value} {W : List Nat} {lo hi : Nat}
theorem Rz.kp (h : Rz wx A FP X v W lo hi) {S : Nat → Prop} (hk : Kp S wx wy) (hs : ∀ q, X q → ¬ FP q → lo ≤ q → q < hi → ¬ S q) : Rz wy A FP X v W lo hi :=
  ⟨hk.owns h.o (fun q hq => by have := h.x q hq; exact hs q this.1 this.2.1 this.2.2.1 this.2.2.2), h.x⟩
theorem Rz.below (h : Rz wx A FP X v W lo hi) (hb : Below wx.heap.size wx wy) : Rz wy A FP X v W lo hi := h.kp (Kp.of_below (S := fun _ => False) hb) (fun _ _ _ _ _ e => e)
theorem Rz.new (h : Lx wx A P Bk Lt t c FP X) (ho : wy.ownsRow wx.heap.size 5 1 v W.length (bv W)) : Rz wy A FP X v W wx.heap.size wy.heap.size :=
  ⟨own_mono ho h.az, fun q hq => by have h1 := (ho.lt q hq); exact ⟨h.nx q h1.1, fun hf => by have := h.fl q hf; omega, h1.1, h1.2⟩⟩
theorem Rz.add (h : Rz wx A FP X v W lo hi) {got : Value} {glo ghi : Nat} {GW : List Nat} (hg : Rz wx A FP X got GW glo ghi) (hk : Kp (fun k => A ≤ k ∧ ¬ X k) wx wy) (hd : hi ≤ glo ∨ ghi ≤ lo) (hhi : hi ≤ wx.heap.size) : Rz wy A FP (Xl wx wy X got) v W lo hi :=
  ⟨hk.owns h.o (fun q hq e => e.2 (h.x q hq).1), fun q hq => by
    have h1 := h.x q hq
    exact ⟨.inl ⟨h1.1, fun e => by have := hg.x q e; omega, by omega⟩, h1.2.1, h1.2.2.1, h1.2.2.2⟩⟩
theorem Rz.bsl (h : Rz wx A FP X v W lo hi) (hb : ∀ x ∈ W, x < 256) : BSl wx v W := BSl.own h.o hb
end

set_option maxRecDepth 1000000 in
set_option maxHeartbeats 4000000 in
theorem dlaid_walk (w : World) (vh : Value) (aD aB : Option Addr) (nD cD nB cB : Nat) (hs : List Nat) (hcb : Cb w) (hh : U64In w vh hs) (hD : RowsIn w (.slice aD nD cD) nD) (hB : RowsIn w (.slice aB nB cB) nB) :
    Calls Tryd.prog 5 #[.agg #[vh, .slice aD nD cD, .slice aB nB cB]] w fun e w' => e = .returned (.bool true) ∧ Below w.heap.size w w' := by
  have HCB := hide hcb
  have HH := hide hh
  have HD := hide hD
  have HB := hide hB
  have hmD := hD.max
  have hmB := hB.max
  obtain ⟨aH, cH, hvh, hz⟩ := hh.form
  clear hz
  have hmH := hh.max
  subst hvh
  clear hcb hh hD hB
  generalize hs.length = nH at *
  go_enter Tryd.func5, Tryd.ntmps5
  go_wp2_with fail
  have HT0 : Hid ((w.alloc (.cells #[Value.slice aH nH cH, Value.slice aD nD cD, Value.slice aB nB cB] 47)).heap[w.heap.size]? = some (.cells #[Value.slice aH nH cH, Value.slice aD nD cD, Value.slice aB nB cB] 47 (0, 0))) := heap_alloc_new w _
  have HB0 := hide (below_alloc w (.cells #[Value.slice aH nH cH, Value.slice aD nD cD, Value.slice aB nB cB] 47))
  generalize w.alloc (.cells #[Value.slice aH nH cH, Value.slice aD nD cD, Value.slice aB nB cB] 47) = w0 at *
  have HC0 := hide (HCB.out.below HB0.out)
  refine (begun_any w0 HC0.out).mono ?_
  rintro e w1 ⟨rfl, hb1⟩
  have HQ1 : Hid (Lq w w1 w.heap.size w1.heap.size #[Value.slice aH nH cH, Value.slice aD nD cD, Value.slice aB nB cB]) := by
    have l0 := blk_lt HT0.out
    have l1 := hb1.size
    exact ⟨(hb1.block _ l0).trans HT0.out, HC0.out.below hb1, HB0.out.trans (hb1.mono HB0.out.size), by omega, by omega, by omega⟩
  clear hb1 HC0 HT0 HB0
  generalize hT : w.heap.size = T at *
  have HTE := hide hT
  clear hT
  go_wp2_with (refine wpList_buildBook rfl rfl ?_)
  have HX0 := hide (lx_start w1)
  have HQ0 : Hid (Lq w (((w1.alloc (.cells (bookCells (.slice none 0 0) (.slice none 0 0) 0 0 0 0) 68)).alloc (.cells #[.slice none 0 0, .slice none 0 0] 71)).alloc (.cells #[.slice none 0 0, .slice none 0 0] 26)) T w1.heap.size #[Value.slice aH nH cH, Value.slice aD nD cD, Value.slice aB nB cB]) := ((HQ1.out.below (below_alloc _ _)).below (below_alloc _ _)).below (below_alloc _ _)
  clear HQ1
  generalize ((w1.alloc (.cells (bookCells (.slice none 0 0) (.slice none 0 0) 0 0 0 0) 68)).alloc (.cells #[.slice none 0 0, .slice none 0 0] 71)).alloc (.cells #[.slice none 0 0, .slice none 0 0] 26) = w4 at *
  generalize w1.heap.size = A at *
  generalize hvs : (#[Value.slice aH nH cH, Value.slice aD nD cD, Value.slice aB nB cB] : Array Value) = vs at HQ0
  have HVS := hide hvs
  clear hvs
  generalize A + 1 = Lt at *
  generalize Lt + 1 = P at *
  go_loopw [6] (fun ii wx => ∃ (i t c : Nat) (FP X : Nat → Prop), i ≤ nD ∧ i ≤ 2000 ∧ t + c ≤ 4 * i ∧ ii = .int .i64 (i : Nat) ∧ Hid (Lq w wx T A vs) ∧ Hid (Lx wx A P A Lt t c FP X)) (fun ii _ => 2000 - (intOf ii).toNat)
  case atStart => exact ⟨0, 0, 0, _, _, by omega, by omega, by omega, rfl, HQ0, HX0⟩
  case round =>
    obtain ⟨i, t, c, FP, X, hi, hi2, htc, rfl, HQ, HX⟩ := hrel
    clear HX0 HQ0
    have q0 : wr.cell? ⟨T, 0, none⟩ = some (.slice aH nH cH) := by have e := HQ.out.t; rw [← HVS.out] at e; exact blk_cell e rfl
    have q1 : wr.cell? ⟨T, 1, none⟩ = some (.slice aD nD cD) := by have e := HQ.out.t; rw [← HVS.out] at e; exact blk_cell e rfl
    have HTC := hide htc
    clear htc
    by_cases hil : i < nD ∧ i < 2000
    · obtain ⟨hil, hi2000⟩ := hil
      have r1 : (i : Int) < (nD : Int) := by omega
      have r2 : (i : Int) < 2000 := by omega
      obtain ⟨b, off, rfl, hrow⟩ := HD.out.rowZ (by omega)
      obtain ⟨u, ys, hcu, hbu, hyl⟩ := hrow i hil
      have HCU := hide hcu
      have HU0 := hide hbu
      have HYL := hide hyl
      obtain ⟨⟨au, cau, hu, hnu, hcau⟩, hmu, hbyu⟩ := hbu
      subst hu
      clear hcu hnu hcau hbyu hrow hyl
      have HUH : Hid (∀ wx, Lq w wx T A vs → U64In wx (.slice aH nH cH) hs) := fun wx hb => HH.out.move (keep_below hb.l)
      have HTC3 : Hid (∀ wx, Lq w wx T A vs → wx.cell? ⟨T, 0, none⟩ = some (.slice aH nH cH) ∧ wx.cell? ⟨T, 1, none⟩ = some (.slice (some ⟨b, off, none⟩) nD cD) ∧ wx.cell? ⟨T, 2, none⟩ = some (.slice aB nB cB)) := fun wx hb => by
        have e := hb.t
        rw [← HVS.out] at e
        exact ⟨blk_cell e rfl, blk_cell e rfl, blk_cell e rfl⟩
      have HUM : Hid (∀ wx, Lq w wx T A vs → wx.cell? ⟨b, off + i, none⟩ = some (.slice au ys.length cau) ∧ BSl wx (.slice au ys.length cau) ys) := fun wx hb => ⟨keep_below hb.l _ _ HCU.out, HU0.out.move (keep_below hb.l)⟩
      have HHX := hide (hashOf_lt HH.out.lt i)
      have HHA : Hid (∀ wx, Lq w wx T A vs → Calls Tryd.prog 24 #[.agg #[.slice aH nH cH, .slice (some ⟨b, off, none⟩) nD cD, .slice aB nB cB], .int .i64 (i : Nat)] wx fun e w' => e = .returned (.int .u64 (hashOf hs i : Nat)) ∧ Below wx.heap.size wx w') := fun wx hb => hash_any wx _ _ _ hs i (HUH.out wx hb) (by omega)
      generalize hashOf hs i = h at *
      have HYB := hide HU0.out.byte
      go_wp2_with fail
      go_cut [7, 8] (fun vw vc wx => ∃ (X' : Nat → Prop) (lo : Nat), vc = .int .i64 ((dlay h ys).2 : Nat) ∧ Hid (Lq w wx T A vs) ∧ Hid (Lx wx A P A Lt t c FP X') ∧ Hid (Rz wx A FP X' vw (dlay h ys).1 lo wx.heap.size))
      case first => as_aux_lemma =>
        rename_i hJm hKm
        refine heldStartN (S := fun w' => Lq w w' T A vs ∧ Below wr.heap.size wr w') 14 rfl (by kernel_rfl) ?_
        have hdr := (Below.refl wr.heap.size wr).drew
        have hS : Lq w wr.drew T A vs ∧ Below wr.heap.size wr wr.drew := ⟨HQ.out.below hdr, hdr⟩
        clear hdr q0 q1
        refine heldTake 0 _ rfl (by kernel_rfl) (by kernel_rfl) (by kernel_rfl) (fun _ _ _ h => h) rfl hS (fun wy hy => by have q0 := (HTC3.out _ hy.1).1; have q1 := (HTC3.out _ hy.1).2.1; have q2 := (HTC3.out _ hy.1).2.2; go_simp; rfl) ?_
        (try simp only [Act.put]); (try simp only [List.setIfInBounds_toArray, List.set_cons_zero, List.set_cons_succ])
        refine heldTake 1 _ rfl (by kernel_rfl) (by kernel_rfl) (by kernel_rfl) (fun _ _ _ h => h) rfl hS (fun wy hy => by first | (go_simp; done) | (go_simp; rfl) | rfl) ?_
        (try simp only [Act.put]); (try simp only [List.setIfInBounds_toArray, List.set_cons_zero, List.set_cons_succ])
        refine heldTake 3 _ rfl (by kernel_rfl) (by kernel_rfl) (by kernel_rfl) (fun _ _ _ h => h) rfl hS (fun wy hy => by first | (go_simp; done) | (go_simp; rfl) | rfl) ?_
        (try simp only [Act.put]); (try simp only [List.setIfInBounds_toArray, List.set_cons_zero, List.set_cons_succ])
        refine heldTake 4 _ rfl (by kernel_rfl) (by kernel_rfl) (by kernel_rfl) (fun _ _ _ h => h) rfl hS (fun wy hy => by have q1 := (HTC3.out _ hy.1).2.1; go_simp; rfl) ?_
        (try simp only [Act.put]); (try simp only [List.setIfInBounds_toArray, List.set_cons_zero, List.set_cons_succ])
        refine heldTake 5 _ rfl (by kernel_rfl) (by kernel_rfl) (by kernel_rfl) (fun _ _ _ h => h) rfl hS (fun wy hy => by first | (go_simp; done) | (go_simp; rfl) | rfl) ?_
        (try simp only [Act.put]); (try simp only [List.setIfInBounds_toArray, List.set_cons_zero, List.set_cons_succ])
        refine heldTake 6 _ rfl (by kernel_rfl) (by kernel_rfl) (by kernel_rfl) (fun _ _ _ h => h) rfl hS (fun wy hy => by first | (go_simp; done) | (go_simp; rfl) | rfl) ?_
        (try simp only [Act.put]); (try simp only [List.setIfInBounds_toArray, List.set_cons_zero, List.set_cons_succ])
        refine heldTake 7 _ rfl (by kernel_rfl) (by kernel_rfl) (by kernel_rfl) (fun _ _ _ h => h) rfl hS (fun wy hy => by have q1 := (HUM.out _ hy.1).1; go_simp; rfl) ?_
        (try simp only [Act.put]); (try simp only [List.setIfInBounds_toArray, List.set_cons_zero, List.set_cons_succ])
        refine heldStep 2 rfl (by kernel_rfl) (fun K hK => ?_)
        go_simp
        refine (HHA.out _ hS.1).mono ?_
        rintro e wn ⟨rfl, hbn⟩
        refine (Hid.out hK) _ _ ⟨hS.1.below hbn, hS.2.trans (hbn.mono hS.2.size)⟩ (fun hS2 => ?_)
        clear hK K hS
        have hS := hS2
        clear hS2
        (try simp only [Act.put]); (try simp only [List.setIfInBounds_toArray, List.set_cons_zero, List.set_cons_succ])
        clear hbn
        refine heldStep 8 rfl (by kernel_rfl) (fun K hK => ?_)
        go_simp
        have HXN := hide (HX.out.below hS.2)
        refine (refDLay_any _ h _ ys HHX.out (HUM.out _ hS.1).2).mono ?_
        rintro e wm ⟨vw, rfl, how, hbn⟩
        have HOW := hide (Rz.new HXN.out how)
        have HXM := hide (HXN.out.below hbn)
        clear how
        refine (Hid.out hK) _ _ ⟨hS.1.below hbn, hS.2.trans (hbn.mono hS.2.size)⟩ (fun hS2 => ?_)
        clear hK K hS
        have hS := hS2
        clear hS2
        (try simp only [Act.put]); (try simp only [List.setIfInBounds_toArray, List.set_cons_zero, List.set_cons_succ])
        clear hbn
        refine heldTake 9 _ rfl (by kernel_rfl) (by kernel_rfl) (by kernel_rfl) (fun _ _ _ h => h) rfl hS (fun wy hy => by first | (go_simp; done) | (go_simp; rfl) | rfl) ?_
        (try simp only [Act.put]); (try simp only [List.setIfInBounds_toArray, List.set_cons_zero, List.set_cons_succ])
        refine heldTake 10 _ rfl (by kernel_rfl) (by kernel_rfl) (by kernel_rfl) (fun _ _ _ h => h) rfl hS (fun wy hy => by first | (go_simp; done) | (go_simp; rfl) | rfl) ?_
        (try simp only [Act.put]); (try simp only [List.setIfInBounds_toArray, List.set_cons_zero, List.set_cons_succ])
        refine heldTake 11 _ rfl (by kernel_rfl) (by kernel_rfl) (by kernel_rfl) (fun _ _ _ h => h) rfl hS (fun wy hy => by first | (go_simp; done) | (go_simp; rfl) | rfl) ?_
        (try simp only [Act.put]); (try simp only [List.setIfInBounds_toArray, List.set_cons_zero, List.set_cons_succ])
        refine heldTake 12 _ rfl (by kernel_rfl) (by kernel_rfl) (by kernel_rfl) (fun _ _ _ h => h) rfl hS (fun wy hy => by first | (go_simp; done) | (go_simp; rfl) | rfl) ?_
        (try simp only [Act.put]); (try simp only [List.setIfInBounds_toArray, List.set_cons_zero, List.set_cons_succ])
        refine heldTake 13 _ rfl (by kernel_rfl) (by kernel_rfl) (by kernel_rfl) (fun _ _ _ h => h) rfl hS (fun wy hy => by first | (go_simp; done) | (go_simp; rfl) | rfl) ?_
        (try simp only [Act.put]); (try simp only [List.setIfInBounds_toArray, List.set_cons_zero, List.set_cons_succ])
        refine heldDone (by kernel_rfl) ?_
        refine hKm _ _ (Met.intro (hJm _ _ ?_))
        repeat apply Exists.intro
        refine ⟨?relA, rfl⟩
        exact ⟨X, _, rfl, hS.1, HXM, HOW⟩
      case rest =>
        obtain ⟨X1, lo1, rfl, HQ1, HX1, HW1⟩ := hcut
        clear HX HQ q0 q1
        obtain ⟨aw, cw, hvw, _⟩ := own_form HW1.out.o
        subst hvw
        have HWL := hide (dlay_len h ys)
        have HWB := hide (dlay_byte (h := h) HYB.out)
        have HDL : Hid (∀ wx v, Lq w wx T A vs → BSl wx v ys → Calls Tryd.prog 25 #[.int .u64 (h : Nat), v] wx fun e w' => ∃ v', e = .returned (.tuple #[v', .int .i64 ((dlay h ys).2 : Nat)]) ∧ w'.ownsRow wx.heap.size 5 1 v' (dlay h ys).1.length (bv (dlay h ys).1) ∧ Below wx.heap.size wx w') := fun wx v _ hb => dlay_any wx h v ys HHX.out hb
        generalize (dlay h ys).1 = W at *
        generalize (dlay h ys).2 = E at *
        have HM := hide (Nat.le_refl wc.heap.size)
        generalize hMM : wc.heap.size = M at HW1
        have HMM : Hid (M ≤ wc.heap.size) := by show _ ≤ _; omega
        clear hMM HM
        go_wp2_with fail
        go_loopw [9] (fun kk wx => ∃ (k c' : Nat) (X' : Nat → Prop), k ≤ 2 ∧ kk = .int .i64 (k : Nat) ∧ Hid (t + c' ≤ 4 * i + 2 * k) ∧ Hid (Lq w wx T A vs) ∧ Hid (Lx wx A P A Lt t c' FP X') ∧ Hid (Rz wx A FP X' (.slice aw W.length cw) W lo1 M) ∧ Hid (M ≤ wx.heap.size)) (fun kk _ => 2 - (intOf kk).toNat)
        case atStart => exact ⟨0, c, X1, by omega, rfl, HTC, HQ1, HX1, HW1, HMM⟩
        case round =>
          obtain ⟨k, c', X, hk, rfl, HTC', HQ, HX, HW, HM⟩ := hrel
          clear HX1 HQ1 HW1 HMM
          by_cases hk2 : k < 2
          · have g3 : (k : Int) < 2 := by omega
            have q1 := (HTC3.out _ HQ.out).2.1
            have cu := (HUM.out _ HQ.out).1
            go_wp2_with fail
            refine (lend_any wr _ ys (HUM.out _ HQ.out).2 HYL.out).mono ?_
            rintro e w5 ⟨gx, cx, rfl, ho5, hb5⟩
            have HL5 : Hid (Lnt w5 wr.heap.size gx cx ys) := ⟨ho5, HYB.out, HYL.out⟩
            have hgx := ho5.lt gx rfl
            have HGX : Hid (wr.heap.size ≤ gx ∧ gx < w5.heap.size) := hgx
            have HGF : Hid (X gx ∧ ¬ FP gx ∧ A ≤ gx) := ⟨HX.out.nx gx hgx.1, fun hf => by have := HX.out.fl gx hf; omega, Nat.le_trans HX.out.az hgx.1⟩
            have HQ5 := hide (HQ.out.below hb5)
            have HX5 := hide (HX.out.below hb5)
            have HW5 := hide (HW.out.below hb5)
            clear ho5 hgx hb5 q1 cu HQ HX HW
            have q0 := (HTC3.out w5 HQ5.out).1
            have q1 := (HTC3.out w5 HQ5.out).2.1
            have q2 := (HTC3.out w5 HQ5.out).2.2
            go_wp2_with fail
            refine (HHA.out w5 HQ5.out).mono ?_
            rintro e w6 ⟨rfl, hb6⟩
            have H56 : Hid (w5.heap.size ≤ w6.heap.size) := hb6.size
            have HQ6 := hide (HQ5.out.below hb6)
            have HX6 := hide (HX5.out.below hb6)
            have HW6 := hide (HW5.out.below hb6)
            have HL6 := hide (HL5.out.belowq hb6)
            clear hb6 HQ5 HX5 HW5 HL5
            clear q0 q1 q2
            go_wp2_with fail
            refine (HDL.out w6 _ HQ6.out HL6.out.bsl).mono ?_
            rintro e w7 ⟨vb, rfl, ho7, hb7⟩
            have HB7 := hide (Rz.new HX6.out ho7)
            have H67 : Hid (w6.heap.size ≤ w7.heap.size) := hb7.size
            clear ho7
            have HQ7 := hide (HQ6.out.below hb7)
            have HX7 := hide (HX6.out.below hb7)
            have HW7 := hide (HW6.out.below hb7)
            have HL7 := hide (HL6.out.belowq hb7)
            clear hb7 HQ6 HX6 HW6 HL6
            obtain ⟨ab, cb, hvb, _⟩ := own_form HB7.out.o
            subst hvb
            go_wp2_with fail
            refine (num3_any w7 _).mono ?_
            rintro e w77 ⟨rfl, rfl⟩
            go_wp2_with fail
            refine (eq_same _ _ _ W (HB7.out.bsl HWB.out) (HW7.out.bsl HWB.out)).mono ?_
            rintro e w8 ⟨rfl, hb8⟩
            have H78 : Hid (w77.heap.size ≤ w8.heap.size) := hb8.size
            have HQ8 := hide (HQ7.out.below hb8)
            have HX8 := hide (HX7.out.below hb8)
            have HW8 := hide (HW7.out.below hb8)
            have HL8 := hide (HL7.out.belowq hb8)
            have HB8 := hide (HB7.out.below hb8)
            clear hb8 HQ7 HX7 HW7 HL7 HB7
            have q1 := (HTC3.out _ HQ8.out).2.1
            have cu := (HUM.out _ HQ8.out).1
            go_wp2_with fail
            refine (intactq HL8.out _ (HUM.out _ HQ8.out).2).mono ?_
            rintro e w9 ⟨rfl, hb9⟩
            have H89 : Hid (w8.heap.size ≤ w9.heap.size) := hb9.size
            have HQ9 := hide (HQ8.out.below hb9)
            have HX9 := hide (HX8.out.below hb9)
            have HW9 := hide (HW8.out.below hb9)
            have HL9 := hide (HL8.out.belowq hb9)
            have HB9 := hide (HB8.out.below hb9)
            clear hb9 HQ8 HX8 HW8 HL8 HB8
            clear q1 cu
            go_wp2_with fail
            refine (over_any HL9.out).mono ?_
            rintro e wa ⟨rfl, hla, hka⟩
            have HLa := hide hla
            have HQa := hide (HQ9.out.kp hka (fun q e => by rw [e]; exact HGF.out.2.2))
            have HXa := hide (HX9.out.kp hka (fun q e => by rw [e]; exact HGF.out.1) (fun q hf e => HGF.out.2.1 (by rw [← e]; exact hf)))
            have HWa := hide (HW9.out.kp hka (fun q _ _ _ hq e => by have := HGX.out; have := HM.out; omega))
            have HBa := hide (HB9.out.kp hka (fun q _ _ hq _ e => by have := HGX.out; have := H56.out; omega))
            have H9a : Hid (w9.heap.size ≤ wa.heap.size) := hka.size
            clear hla hka HL9 HQ9 HX9 HW9 HB9
            have HDB : Hid (∀ x ∈ List.replicate ys.length 238, x < 256) := fun x hx => by have := List.eq_of_mem_replicate hx; omega
            have hdl : (List.replicate ys.length 238).length = ys.length := List.length_replicate
            generalize List.replicate ys.length 238 = ds at *
            rw [← hdl] at *
            clear hdl
            have q0 := (HTC3.out wa HQa.out).1
            have q1 := (HTC3.out wa HQa.out).2.1
            have q2 := (HTC3.out wa HQa.out).2.2
            have HVL := hide (dlay_len h ds)
            have HVB := hide (dlay_byte (h := h) HDB.out)
            have HRL : Hid (∀ wx v, BSl wx v ds → Calls Tryd.prog 23 #[.int .u64 (h : Nat), v] wx fun e w' => ∃ v', e = .returned (.tuple #[v', .int .i64 ((dlay h ds).2 : Nat)]) ∧ w'.ownsRow wx.heap.size 5 1 v' (dlay h ds).1.length (bv (dlay h ds).1) ∧ Below wx.heap.size wx w') := fun wx v hb => refDLay_any wx h v ds HHX.out hb
            have HDL2 : Hid (∀ wx v, BSl wx v ds → Calls Tryd.prog 25 #[.int .u64 (h : Nat), v] wx fun e w' => ∃ v', e = .returned (.tuple #[v', .int .i64 ((dlay h ds).2 : Nat)]) ∧ w'.ownsRow wx.heap.size 5 1 v' (dlay h ds).1.length (bv (dlay h ds).1) ∧ Below wx.heap.size wx w') := fun wx v hb => dlay_any wx h v ds HHX.out hb
            generalize (dlay h ds).1 = V at *
            generalize (dlay h ds).2 = F at *
            go_wp2_with fail
            refine (HHA.out wa HQa.out).mono ?_
            rintro e wb ⟨rfl, hbb⟩
            have Hab : Hid (wa.heap.size ≤ wb.heap.size) := hbb.size
            have HQb := hide (HQa.out.below hbb)
            have HXb := hide (HXa.out.below hbb)
            have HWb := hide (HWa.out.below hbb)
            have HLb := hide (HLa.out.belowq hbb)
            have HBb := hide (HBa.out.below hbb)
            clear hbb HQa HXa HWa HLa HBa
            clear q0 q1 q2
            go_wp2_with fail
            refine (HRL.out wb _ HLb.out.bsl).mono ?_
            rintro e wd ⟨vd, rfl, hod, hbd⟩
            have HDd := hide (Rz.new HXb.out hod)
            have Hbd : Hid (wb.heap.size ≤ wd.heap.size) := hbd.size
            clear hod
            have HQd := hide (HQb.out.below hbd)
            have HXd := hide (HXb.out.below hbd)
            have HWd := hide (HWb.out.below hbd)
            have HLd := hide (HLb.out.belowq hbd)
            have HBd := hide (HBb.out.below hbd)
            clear hbd HQb HXb HWb HLb HBb
            obtain ⟨ad, cd, hvd, _⟩ := own_form HDd.out.o
            subst hvd
            have q0 := (HTC3.out wd HQd.out).1
            have q1 := (HTC3.out wd HQd.out).2.1
            have q2 := (HTC3.out wd HQd.out).2.2
            go_wp2_with fail
            refine (HHA.out wd HQd.out).mono ?_
            rintro e wf ⟨rfl, hbf⟩
            have Hdf : Hid (wd.heap.size ≤ wf.heap.size) := hbf.size
            have HQf := hide (HQd.out.below hbf)
            have HXf := hide (HXd.out.below hbf)
            have HWf := hide (HWd.out.below hbf)
            have HLf := hide (HLd.out.belowq hbf)
            have HBf := hide (HBd.out.below hbf)
            have HDf := hide (HDd.out.below hbf)
            clear hbf HQd HXd HWd HLd HBd HDd
            clear q0 q1 q2
            go_wp2_with fail
            refine (HDL2.out wf _ HLf.out.bsl).mono ?_
            rintro e wg ⟨vc, rfl, hog, hbg⟩
            have HCg := hide (Rz.new HXf.out hog)
            have Hfg : Hid (wf.heap.size ≤ wg.heap.size) := hbg.size
            clear hog HLf
            have HQg := hide (HQf.out.below hbg)
            have HXg := hide (HXf.out.below hbg)
            have HWg := hide (HWf.out.below hbg)
            have HBg := hide (HBf.out.below hbg)
            have HDg := hide (HDf.out.below hbg)
            clear hbg HQf HXf HWf HBf HDf
            obtain ⟨ac, cc, hvc, _⟩ := own_form HCg.out.o
            subst hvc
            go_wp2_with fail
            refine (num3_any wg _).mono ?_
            rintro e wgg ⟨rfl, rfl⟩
            go_wp2_with fail
            refine (eq_same _ _ _ V (HCg.out.bsl HVB.out) (HDg.out.bsl HVB.out)).mono ?_
            rintro e wi ⟨rfl, hbi⟩
            have Hgi : Hid (wgg.heap.size ≤ wi.heap.size) := hbi.size
            have HQi := hide (HQg.out.below hbi)
            have HXi := hide (HXg.out.below hbi)
            have HWi := hide (HWg.out.below hbi)
            have HBi := hide (HBg.out.below hbi)
            have HDi := hide (HDg.out.below hbi)
            have HCi := hide (HCg.out.below hbi)
            clear hbi HQg HXg HWg HBg HDg HCg
            go_wp2_with fail
            refine (add_any HXi.out.h HXi.out.az _ _ W HBi.out.o HWB.out (by have := HWL.out; omega) (fun q hq => (HBi.out.x q hq).1) (HWi.out.bsl HWB.out) (fun q hq => (HWi.out.x q hq).1) (by have := HTC'.out; omega)).mono ?_
            rintro e wj ⟨rfl, hpost⟩
            obtain ⟨hhj, hkj⟩ := hpost.out
            have e1 := HM.out
            have e2 := HGX.out
            have e3 := H56.out
            have e4 := H67.out
            have e5 := H78.out
            have e6 := H89.out
            have e7 := H9a.out
            have e8 := Hab.out
            have e9 := Hbd.out
            have e10 := Hdf.out
            have e11 := Hfg.out
            have e12 := Hgi.out
            have e13 := hkj.size
            have HWj := hide (HWi.out.add HBi.out hkj (.inl (by omega)) (by omega))
            have HDj := hide (HDi.out.add HBi.out hkj (.inr (by omega)) (by omega))
            have HCj := hide (HCi.out.add HBi.out hkj (.inr (by omega)) (by omega))
            have HXj := hide (HXi.out.add hhj hkj (fun q hf e => (HBi.out.x q e).2.1 hf))
            have HQj := hide (HQi.out.kp hkj (fun q e => e.1))
            have HMj : Hid (M ≤ wj.heap.size) := by show _ ≤ _; omega
            have HFJ : Hid (M ≤ wf.heap.size ∧ wd.heap.size ≤ wf.heap.size) := ⟨by omega, by omega⟩
            clear hpost hhj hkj e1 e2 e3 e4 e5 e6 e7 e8 e9 e10 e11 e12 e13 HWi HDi HCi HXi HQi HBi
            go_wp2_with fail
            refine (add_any HXj.out.h HXj.out.az _ _ V HCj.out.o HVB.out (by have := HVL.out; omega) (fun q hq => (HCj.out.x q hq).1) (HDj.out.bsl HVB.out) (fun q hq => (HDj.out.x q hq).1) (by have := HTC'.out; omega)).mono ?_
            rintro e wk ⟨rfl, hpost⟩
            obtain ⟨hhk, hkk⟩ := hpost.out
            have HWk := hide (HWj.out.add HCj.out hkk (.inl HFJ.out.1) HMj.out)
            have HXk := hide (HXj.out.add hhk hkk (fun q hf e => (HCj.out.x q e).2.1 hf))
            have HQk := hide (HQj.out.kp hkk (fun q e => e.1))
            have HMk : Hid (M ≤ wk.heap.size) := Nat.le_trans HMj.out hkk.size
            have HTK : Hid (t + (c' + 1 + 1) ≤ 4 * i + 2 * (k + 1)) := by have := HTC'.out; show _ ≤ _; omega
            clear hpost hhk hkk HWj HDj HCj HXj HQj HMj
            go_wp2_with fail
            go_roundw
            case rel => exact ⟨k + 1, c' + 1 + 1, _, by omega, by go_num, HTK, HQk, HXk, HWk, HMk⟩
            case measure => simp [intOf]; omega
          · have g3 : ¬ (k : Int) < 2 := by omega
            have hk22 : k = 2 := by omega
            go_wp2_with fail
            go_roundw
            case rel => exact ⟨i + 1, t, c', FP, X, by omega, by omega, by have := HTC'.out; omega, by go_num, HQ, HX⟩
            case measure => simp [intOf]; omega
    · have g0 : ¬ (i : Int) < (nD : Int) ∨ ((i : Int) < (nD : Int) ∧ ¬ (i : Int) < 2000) := by omega
      have HTC8 : Hid (t + c ≤ 8000) := by have := HTC.out; show _ ≤ _; omega
      clear HTC
      rcases g0 with g1 | ⟨g1, g2⟩
      all_goals
        go_wp2_with fail
        clear q0 q1 g1
        go_loopw [17] (fun ii wx => ∃ (j t c : Nat) (FP X : Nat → Prop), j ≤ nB ∧ j ≤ 2000 ∧ ii = .int .i64 (j : Nat) ∧ Hid (t + c ≤ 8000 + 4 * j) ∧ Hid (Lq w wx T A vs) ∧ Hid (Lx wx A P A Lt t c FP X)) (fun ii _ => 2000 - (intOf ii).toNat)
        case atStart => exact ⟨0, t, c, FP, X, by omega, by omega, rfl, HTC8, HQ, HX⟩
        case round =>
          clear HTC8 HQ HX hi hi2 hil
          obtain ⟨j, t, c, FP, X, hj, hj2, rfl, HTC, HQ, HX⟩ := hrel
          have q2 : wr.cell? ⟨T, 2, none⟩ = some (.slice aB nB cB) := by have e := HQ.out.t; rw [← HVS.out] at e; exact blk_cell e rfl
          by_cases hjl : j < nB ∧ j < 2000
          · obtain ⟨hjl, hj2000⟩ := hjl
            have r1 : (j : Int) < (nB : Int) := by omega
            have r2 : (j : Int) < 2000 := by omega
            obtain ⟨b, off, rfl, hrow⟩ := HB.out.rowZ (by omega)
            obtain ⟨u, ys, hcu, hbu, hyl⟩ := hrow j hjl
            have HCU := hide hcu
            have HU0 := hide hbu
            have HYL := hide hyl
            have HYB := hide hbu.byte
            obtain ⟨⟨au, cau, hu, hnu, hcau⟩, hmu, hbyu⟩ := hbu
            subst hu
            clear hcu hnu hcau hbyu hrow hyl
            have HT2 : Hid (∀ wx, Lq w wx T A vs → wx.cell? ⟨T, 2, none⟩ = some (.slice (some ⟨b, off, none⟩) nB cB)) := fun wx hb => by
              have e := hb.t
              rw [← HVS.out] at e
              exact blk_cell e rfl
            have HUM : Hid (∀ wx, Lq w wx T A vs → wx.cell? ⟨b, off + j, none⟩ = some (.slice au ys.length cau) ∧ BSl wx (.slice au ys.length cau) ys) := fun wx hb => ⟨keep_below hb.l _ _ HCU.out, HU0.out.move (keep_below hb.l)⟩
            have cu := (HUM.out _ HQ.out).1
            go_wp2_with fail
            refine (other_any wr _ ys (HUM.out _ HQ.out).2 HYL.out).mono ?_
            rintro e w5 ⟨vo, rfl, ho⟩
            obtain ⟨os, ho5, hob, hol, hb5⟩ := ho.out
            have HO5 := hide (Rz.new HX.out ho5)
            have HOB := hide hob
            have HOL := hide hol
            have HQ5 := hide (HQ.out.below hb5)
            have HX5 := hide (HX.out.below hb5)
            clear ho ho5 hob hol hb5 cu q2 HQ HX
            obtain ⟨avo, cvo, hvo, _⟩ := own_form HO5.out.o
            subst hvo
            have cu := (HUM.out _ HQ5.out).1
            have q2 := HT2.out _ HQ5.out
            go_wp2_with fail
            refine (pbytes_f w5 A P FP _ ys HX5.out.p HX5.out.az HYL.out (fun w' hb => HU0.out.move (keep_below (HQ5.out.l.trans (hb.mono HQ5.out.wa))))).mono ?_
            rintro e w6 ⟨vb, rfl, hq6, hk6⟩
            obtain ⟨hx6, hp6⟩ := HX5.out.bytes hq6 hk6
            have HX6 := hide hx6
            have HP6 := hide hp6
            have HQ6 := hide (HQ5.out.kp hk6 (fun q e => HX5.out.fa q e))
            have HO6 : Hid (Rz w6 A (fun q => (FP q ∨ w5.heap.size ≤ q) ∧ q < w6.heap.size) X (.slice avo os.length cvo) os 0 w5.heap.size) := by
              have h1 := HO5.out.kp hk6 (fun q _ hf _ _ e => hf e)
              exact ⟨h1.o, fun q hq => by have h2 := h1.x q hq; exact ⟨h2.1, fun hf => hf.1.elim h2.2.1 (fun e => by omega), Nat.zero_le _, h2.2.2.2⟩⟩
            have HM6 : Hid (w5.heap.size ≤ w6.heap.size) := hk6.size
            clear hq6 hk6 hx6 hp6 HQ5 HX5 HO5 cu q2
            generalize w5.heap.size = M at *
            generalize (fun q => (FP q ∨ M ≤ q) ∧ q < w6.heap.size) = FP' at *
            clear FP
            have HE0 : Hid (∃ FP : Nat → Prop, FP = FP') := ⟨_, rfl⟩
            obtain ⟨FP, hFP⟩ := HE0.out
            subst hFP
            clear HE0
            obtain ⟨avb, cvb, hvb, _⟩ := own_form HP6.out.own
            subst hvb
            go_wp2_with fail
            go_loopw [20] (fun kk wx => ∃ (k c' : Nat) (X' : Nat → Prop), k ≤ 4 ∧ kk = .int .i64 (k : Nat) ∧ Hid (t + c' ≤ 8000 + 4 * j + k) ∧ Hid (Lq w wx T A vs) ∧ Hid (Lx wx A P A Lt t c' FP X') ∧ Hid (Plq wx A P FP (.slice avb ys.length cvb) (if k ≤ 2 then ys else os)) ∧ Hid (Rz wx A FP X' (.slice avo os.length cvo) os 0 M) ∧ Hid (M ≤ wx.heap.size)) (fun kk _ => 4 - (intOf kk).toNat)
            case atStart => exact ⟨0, c, X, by omega, rfl, HTC, HQ6, HX6, by rw [if_pos (by omega)]; exact HP6, HO6, HM6⟩
            case round =>
              obtain ⟨k, c', X', hk, rfl, HTC', HQ, HX, HP, HO, HM⟩ := hrel
              clear HQ6 HX6 HP6 HO6 HM6
              by_cases hk4 : k < 4
              · have g3 : (k : Int) < 4 := by omega
                by_cases hk2 : k < 2
                · have g4 : ((k : Int) == 2) = false := beq_eq_false_iff_ne.2 (by omega)
                  have g5 : ¬ (2 : Int) ≤ (k : Int) := by omega
                  have HPs : Hid (Plq wr A P FP (.slice avb ys.length cvb) ys) := by have e := HP.out; rw [if_pos (by omega)] at e; exact e
                  have HNB := HYB
                  have cu := (HUM.out _ HQ.out).1
                  have q2 := HT2.out _ HQ.out
                  have HQs := HQ
                  have HXs := HX
                  have HOs := HO
                  have HMs := HM
                  clear HQ HX HO HP HM
                  go_wp2_with fail
                  clear cu q2
                  refine (dread_any wr _ ys (BSl.own HPs.out.own HNB.out)).mono ?_
                  rintro e wa ⟨vd, rfl, hoa, hba⟩
                  have HDa := hide (Rz.new HXs.out hoa)
                  have HQa := hide (HQs.out.below hba)
                  have HXa := hide (HXs.out.below hba)
                  have HPa := hide (HPs.out.below hba)
                  have HOa := hide (HOs.out.below hba)
                  have Hsa : Hid (wr.heap.size ≤ wa.heap.size) := hba.size
                  clear hoa hba HQs HXs HPs HOs
                  obtain ⟨ad, cd, hvd, _⟩ := own_form HDa.out.o
                  subst hvd
                  go_wp2_with fail
                  refine (refDRead_any wa _ ys (HUM.out _ HQa.out).2).mono ?_
                  rintro e wb ⟨vy, rfl, hob, hbb⟩
                  have HYb := hide (Rz.new HXa.out hob)
                  have HQb := hide (HQa.out.below hbb)
                  have HXb := hide (HXa.out.below hbb)
                  have HPb := hide (HPa.out.below hbb)
                  have HOb := hide (HOa.out.below hbb)
                  have HDb := hide (HDa.out.below hbb)
                  have Hab : Hid (wa.heap.size ≤ wb.heap.size) := hbb.size
                  clear hob hbb HQa HXa HPa HOa HDa
                  obtain ⟨ay, cy, hvy, _⟩ := own_form HYb.out.o
                  subst hvy
                  have HRB := hide (dread_bytes HNB.out)
                  have HRL := hide (dread_len ys)
                  generalize (dread ys).1 = hz at *
                  generalize (dread ys).2.1 = RD at *
                  generalize (dread ys).2.2.1 = rn at *
                  generalize (dread ys).2.2.2 = re at *
                  go_wp2_with fail
                  refine (num3_any wb _).mono ?_
                  rintro e wbb ⟨rfl, rfl⟩
                  go_wp2_with fail
                  refine (eq_same _ _ _ RD (HDb.out.bsl HRB.out) (HYb.out.bsl HRB.out)).mono ?_
                  rintro e wd ⟨rfl, hbd⟩
                  have HQd := hide (HQb.out.below hbd)
                  have HXd := hide (HXb.out.below hbd)
                  have HPd := hide (HPb.out.below hbd)
                  have HOd := hide (HOb.out.below hbd)
                  have HDd := hide (HDb.out.below hbd)
                  have HYd := hide (HYb.out.below hbd)
                  have Hbd : Hid (wbb.heap.size ≤ wd.heap.size) := hbd.size
                  clear hbd HQb HXb HPb HOb HDb HYb
                  go_wp2_with fail
                  refine (eq_same _ _ _ ys (BSl.own HPd.out.own HNB.out) (HUM.out _ HQd.out).2).mono ?_
                  rintro e we ⟨rfl, hbe⟩
                  have HQe := hide (HQd.out.below hbe)
                  have HXe := hide (HXd.out.below hbe)
                  have HPe := hide (HPd.out.below hbe)
                  have HOe := hide (HOd.out.below hbe)
                  have HDe := hide (HDd.out.below hbe)
                  have HYe := hide (HYd.out.below hbe)
                  have Hde : Hid (wd.heap.size ≤ we.heap.size) := hbe.size
                  clear hbe HQd HXd HPd HOd HDd HYd
                  go_wp2_with fail
                  refine (add_any HXe.out.h HXe.out.az _ _ RD HDe.out.o HRB.out (by have := HRL.out; omega) (fun q hq => (HDe.out.x q hq).1) (HYe.out.bsl HRB.out) (fun q hq => (HYe.out.x q hq).1) (by have := HTC'.out; omega)).mono ?_
                  rintro e wf ⟨rfl, hpost⟩
                  obtain ⟨hhf, hkf⟩ := hpost.out
                  have e1 := HMs.out
                  have e2 := Hsa.out
                  have e3 := Hab.out
                  have e4 := Hbd.out
                  have e5 := Hde.out
                  have e6 := hkf.size
                  have HOf := hide (HOe.out.add HDe.out hkf (.inl (by omega)) (by omega))
                  have HPf := hide (HPe.out.kp hkf (fun q hf e => e.2 (HXe.out.fx q hf)))
                  have HXf := hide (HXe.out.add hhf hkf (fun q hf e => (HDe.out.x q e).2.1 hf))
                  have HQf := hide (HQe.out.kp hkf (fun q e => e.1))
                  have HMf : Hid (M ≤ wf.heap.size) := by show _ ≤ _; omega
                  have HTK : Hid (t + (c' + 1) ≤ 8000 + 4 * j + (k + 1)) := by have := HTC'.out; show _ ≤ _; omega
                  clear hpost hhf hkf e1 e2 e3 e4 e5 e6 HOe HPe HXe HQe HDe HYe
                  go_wp2_with fail
                  go_roundw
                  case rel => exact ⟨k + 1, c' + 1, _, by omega, by go_num, HTK, HQf, HXf, by rw [if_pos (by omega)]; exact HPf, HOf, HMf⟩
                  case measure => simp [intOf]; omega
                · by_cases hk22 : k = 2
                  · subst hk22
                    have HPs0 : Hid (Plq wr A P FP (.slice avb ys.length cvb) ys) := by have e := HP.out; rw [if_pos (by omega)] at e; exact e
                    have HNB := HOB
                    have cu := (HUM.out _ HQ.out).1
                    have q2 := HT2.out _ HQ.out
                    clear HP
                    go_wp2_with fail
                    clear cu q2
                    refine (intoR_any HPs0.out.own HYL.out _ (HO.out.bsl HOB.out) HOL.out (fun q hq e => (HO.out.x q e).2.1 (HPs0.out.blk q hq))).mono ?_
                    rintro e ws ⟨rfl, hoi, hki⟩
                    have HPs := hide (HPs0.out.over hki hoi)
                    have HXs := hide (HX.out.over hki (fun q e => HX.out.fx q (HPs0.out.blk q e)) HPs.out.plf)
                    have HQs := hide (HQ.out.kp hki (fun q e => HX.out.fa q (HPs0.out.blk q e)))
                    have HOs := hide (HO.out.kp hki (fun q _ hf _ _ e => hf (HPs0.out.blk q e)))
                    have HMs : Hid (M ≤ ws.heap.size) := Nat.le_trans HM.out hki.size
                    clear hoi hki HQ HX HO HPs0 HM
                    go_wp2_with fail
                    refine (dread_any ws _ os (BSl.own HPs.out.own HNB.out)).mono ?_
                    rintro e wa ⟨vd, rfl, hoa, hba⟩
                    have HDa := hide (Rz.new HXs.out hoa)
                    have HQa := hide (HQs.out.below hba)
                    have HXa := hide (HXs.out.below hba)
                    have HPa := hide (HPs.out.below hba)
                    have HOa := hide (HOs.out.below hba)
                    have Hsa : Hid (ws.heap.size ≤ wa.heap.size) := hba.size
                    clear hoa hba HQs HXs HPs HOs
                    obtain ⟨ad, cd, hvd, _⟩ := own_form HDa.out.o
                    subst hvd
                    go_wp2_with fail
                    refine (refDRead_any wa _ os (HOa.out.bsl HOB.out)).mono ?_
                    rintro e wb ⟨vy, rfl, hob, hbb⟩
                    have HYb := hide (Rz.new HXa.out hob)
                    have HQb := hide (HQa.out.below hbb)
                    have HXb := hide (HXa.out.below hbb)
                    have HPb := hide (HPa.out.below hbb)
                    have HOb := hide (HOa.out.below hbb)
                    have HDb := hide (HDa.out.below hbb)
                    have Hab : Hid (wa.heap.size ≤ wb.heap.size) := hbb.size
                    clear hob hbb HQa HXa HPa HOa HDa
                    obtain ⟨ay, cy, hvy, _⟩ := own_form HYb.out.o
                    subst hvy
                    have HRB := hide (dread_bytes HNB.out)
                    have HRL := hide (dread_len os)
                    generalize (dread os).1 = hz at *
                    generalize (dread os).2.1 = RD at *
                    generalize (dread os).2.2.1 = rn at *
                    generalize (dread os).2.2.2 = re at *
                    go_wp2_with fail
                    refine (num3_any wb _).mono ?_
                    rintro e wbb ⟨rfl, rfl⟩
                    go_wp2_with fail
                    refine (eq_same _ _ _ RD (HDb.out.bsl HRB.out) (HYb.out.bsl HRB.out)).mono ?_
                    rintro e wd ⟨rfl, hbd⟩
                    have HQd := hide (HQb.out.below hbd)
                    have HXd := hide (HXb.out.below hbd)
                    have HPd := hide (HPb.out.below hbd)
                    have HOd := hide (HOb.out.below hbd)
                    have HDd := hide (HDb.out.below hbd)
                    have HYd := hide (HYb.out.below hbd)
                    have Hbd : Hid (wbb.heap.size ≤ wd.heap.size) := hbd.size
                    clear hbd HQb HXb HPb HOb HDb HYb
                    go_wp2_with fail
                    refine (eq_same _ _ _ os (BSl.own HPd.out.own HNB.out) (HOd.out.bsl HOB.out)).mono ?_
                    rintro e we ⟨rfl, hbe⟩
                    have HQe := hide (HQd.out.below hbe)
                    have HXe := hide (HXd.out.below hbe)
                    have HPe := hide (HPd.out.below hbe)
                    have HOe := hide (HOd.out.below hbe)
                    have HDe := hide (HDd.out.below hbe)
                    have HYe := hide (HYd.out.below hbe)
                    have Hde : Hid (wd.heap.size ≤ we.heap.size) := hbe.size
                    clear hbe HQd HXd HPd HOd HDd HYd
                    go_wp2_with fail
                    refine (add_any HXe.out.h HXe.out.az _ _ RD HDe.out.o HRB.out (by have := HRL.out; omega) (fun q hq => (HDe.out.x q hq).1) (HYe.out.bsl HRB.out) (fun q hq => (HYe.out.x q hq).1) (by have := HTC'.out; omega)).mono ?_
                    rintro e wf ⟨rfl, hpost⟩
                    obtain ⟨hhf, hkf⟩ := hpost.out
                    have e1 := HMs.out
                    have e2 := Hsa.out
                    have e3 := Hab.out
                    have e4 := Hbd.out
                    have e5 := Hde.out
                    have e6 := hkf.size
                    have HOf := hide (HOe.out.add HDe.out hkf (.inl (by omega)) (by omega))
                    have HPf := hide (HPe.out.kp hkf (fun q hf e => e.2 (HXe.out.fx q hf)))
                    have HXf := hide (HXe.out.add hhf hkf (fun q hf e => (HDe.out.x q e).2.1 hf))
                    have HQf := hide (HQe.out.kp hkf (fun q e => e.1))
                    have HMf : Hid (M ≤ wf.heap.size) := by show _ ≤ _; omega
                    have HTK : Hid (t + (c' + 1) ≤ 8000 + 4 * j + (2 + 1)) := by have := HTC'.out; show _ ≤ _; omega
                    clear hpost hhf hkf e1 e2 e3 e4 e5 e6 HOe HPe HXe HQe HDe HYe
                    go_wp2_with fail
                    go_roundw
                    case rel => exact ⟨2 + 1, c' + 1, _, by omega, by go_num, HTK, HQf, HXf, by rw [if_neg (by omega)]; exact HPf, HOf, HMf⟩
                    case measure => simp [intOf]
                  · have g4 : ((k : Int) == 2) = false := beq_eq_false_iff_ne.2 (by omega)
                    have g5 : (2 : Int) ≤ (k : Int) := by omega
                    have HPs : Hid (Plq wr A P FP (.slice avb ys.length cvb) os) := by have e := HP.out; rw [if_neg (by omega)] at e; exact e
                    have HNB := HOB
                    have cu := (HUM.out _ HQ.out).1
                    have q2 := HT2.out _ HQ.out
                    have HQs := HQ
                    have HXs := HX
                    have HOs := HO
                    have HMs := HM
                    clear HQ HX HO HP HM
                    go_wp2_with fail
                    clear cu q2
                    refine (dread_any wr _ os (BSl.own HPs.out.own HNB.out)).mono ?_
                    rintro e wa ⟨vd, rfl, hoa, hba⟩
                    have HDa := hide (Rz.new HXs.out hoa)
                    have HQa := hide (HQs.out.below hba)
                    have HXa := hide (HXs.out.below hba)
                    have HPa := hide (HPs.out.below hba)
                    have HOa := hide (HOs.out.below hba)
                    have Hsa : Hid (wr.heap.size ≤ wa.heap.size) := hba.size
                    clear hoa hba HQs HXs HPs HOs
                    obtain ⟨ad, cd, hvd, _⟩ := own_form HDa.out.o
                    subst hvd
                    go_wp2_with fail
                    refine (refDRead_any wa _ os (HOa.out.bsl HOB.out)).mono ?_
                    rintro e wb ⟨vy, rfl, hob, hbb⟩
                    have HYb := hide (Rz.new HXa.out hob)
                    have HQb := hide (HQa.out.below hbb)
                    have HXb := hide (HXa.out.below hbb)
                    have HPb := hide (HPa.out.below hbb)
                    have HOb := hide (HOa.out.below hbb)
                    have HDb := hide (HDa.out.below hbb)
                    have Hab : Hid (wa.heap.size ≤ wb.heap.size) := hbb.size
                    clear hob hbb HQa HXa HPa HOa HDa
                    obtain ⟨ay, cy, hvy, _⟩ := own_form HYb.out.o
                    subst hvy
                    have HRB := hide (dread_bytes HNB.out)
                    have HRL := hide (dread_len os)
                    generalize (dread os).1 = hz at *
                    generalize (dread os).2.1 = RD at *
                    generalize (dread os).2.2.1 = rn at *
                    generalize (dread os).2.2.2 = re at *
                    go_wp2_with fail
                    refine (num3_any wb _).mono ?_
                    rintro e wbb ⟨rfl, rfl⟩
                    go_wp2_with fail
                    refine (eq_same _ _ _ RD (HDb.out.bsl HRB.out) (HYb.out.bsl HRB.out)).mono ?_
                    rintro e wd ⟨rfl, hbd⟩
                    have HQd := hide (HQb.out.below hbd)
                    have HXd := hide (HXb.out.below hbd)
                    have HPd := hide (HPb.out.below hbd)
                    have HOd := hide (HOb.out.below hbd)
                    have HDd := hide (HDb.out.below hbd)
                    have HYd := hide (HYb.out.below hbd)
                    have Hbd : Hid (wbb.heap.size ≤ wd.heap.size) := hbd.size
                    clear hbd HQb HXb HPb HOb HDb HYb
                    go_wp2_with fail
                    refine (eq_same _ _ _ os (BSl.own HPd.out.own HNB.out) (HOd.out.bsl HOB.out)).mono ?_
                    rintro e we ⟨rfl, hbe⟩
                    have HQe := hide (HQd.out.below hbe)
                    have HXe := hide (HXd.out.below hbe)
                    have HPe := hide (HPd.out.below hbe)
                    have HOe := hide (HOd.out.below hbe)
                    have HDe := hide (HDd.out.below hbe)
                    have HYe := hide (HYd.out.below hbe)
                    have Hde : Hid (wd.heap.size ≤ we.heap.size) := hbe.size
                    clear hbe HQd HXd HPd HOd HDd HYd
                    go_wp2_with fail
                    refine (add_any HXe.out.h HXe.out.az _ _ RD HDe.out.o HRB.out (by have := HRL.out; omega) (fun q hq => (HDe.out.x q hq).1) (HYe.out.bsl HRB.out) (fun q hq => (HYe.out.x q hq).1) (by have := HTC'.out; omega)).mono ?_
                    rintro e wf ⟨rfl, hpost⟩
                    obtain ⟨hhf, hkf⟩ := hpost.out
                    have e1 := HMs.out
                    have e2 := Hsa.out
                    have e3 := Hab.out
                    have e4 := Hbd.out
                    have e5 := Hde.out
                    have e6 := hkf.size
                    have HOf := hide (HOe.out.add HDe.out hkf (.inl (by omega)) (by omega))
                    have HPf := hide (HPe.out.kp hkf (fun q hf e => e.2 (HXe.out.fx q hf)))
                    have HXf := hide (HXe.out.add hhf hkf (fun q hf e => (HDe.out.x q e).2.1 hf))
                    have HQf := hide (HQe.out.kp hkf (fun q e => e.1))
                    have HMf : Hid (M ≤ wf.heap.size) := by show _ ≤ _; omega
                    have HTK : Hid (t + (c' + 1) ≤ 8000 + 4 * j + (k + 1)) := by have := HTC'.out; show _ ≤ _; omega
                    clear hpost hhf hkf e1 e2 e3 e4 e5 e6 HOe HPe HXe HQe HDe HYe
                    go_wp2_with fail
                    go_roundw
                    case rel => exact ⟨k + 1, c' + 1, _, by omega, by go_num, HTK, HQf, HXf, by rw [if_neg (by omega)]; exact HPf, HOf, HMf⟩
                    case measure => simp [intOf]; omega
              · have g3 : ¬ (k : Int) < 4 := by omega
                have hk44 : k = 4 := by omega
                have cu := (HUM.out _ HQ.out).1
                have q2 := HT2.out _ HQ.out
                go_wp2_with fail
                refine (lend_any wr _ ys (HUM.out _ HQ.out).2 HYL.out).mono ?_
                rintro e w7 ⟨gx, cx, rfl, ho7, hb7⟩
                have HL7 : Hid (Lnt w7 wr.heap.size gx cx ys) := ⟨ho7, HYB.out, HYL.out⟩
                have HQ7 := hide (HQ.out.below hb7)
                have HX7 := hide (HX.out.below hb7)
                clear ho7 hb7 cu q2 HQ HX HP HO
                go_wp2_with fail
                refine (dread_any w7 _ ys HL7.out.bsl).mono ?_
                rintro e w8 ⟨vz, rfl, _, hb8⟩
                have HL8 := hide (HL7.out.belowq hb8)
                have HQ8 := hide (HQ7.out.below hb8)
                have HX8 := hide (HX7.out.below hb8)
                clear hb8 HL7 HQ7 HX7
                have cu := (HUM.out _ HQ8.out).1
                have q2 := HT2.out _ HQ8.out
                go_wp2_with fail
                refine (intactq HL8.out _ (HUM.out _ HQ8.out).2).mono ?_
                rintro e w9 ⟨rfl, hb9⟩
                have HQ9 := hide (HQ8.out.below hb9)
                have HX9 := hide (HX8.out.below hb9)
                clear hb9 cu q2 HQ8 HX8 HL8
                have HTK : Hid (t + c' ≤ 8000 + 4 * (j + 1)) := by have := HTC'.out; show _ ≤ _; omega
                go_wp2_with fail
                go_roundw
                case rel => exact ⟨j + 1, t, c', FP, X', by omega, by omega, by go_num, HTK, HQ9, HX9⟩
                case measure => simp [intOf]; omega
          · have g0 : ¬ (j : Int) < (nB : Int) ∨ ((j : Int) < (nB : Int) ∧ ¬ (j : Int) < 2000) := by omega
            have HSB : Hid (t + c + 1 < 68719476736) := by have := HTC.out; show _ < _; omega
            rcases g0 with g1 | ⟨g1, g2⟩
            all_goals
              go_wp2_with fail
              refine (settle_any HX.out.h HX.out.az 0 HSB.out).mono ?_
              rintro e w4 ⟨rfl, hpost⟩
              obtain ⟨t4, c4, ht4, hhs4, hkp4⟩ := hpost.out
              obtain ⟨F, G, hbk4, hlt4, hd4, hx4⟩ := hhs4
              have HBK := hide hbk4
              have HXX := hide hx4
              have HQ4 := hide (HQ.out.kp hkp4 (fun q e => e.1))
              have HS5 : Hid (A ≤ w4.heap.size) := Nat.le_trans HX.out.az hkp4.size
              clear hpost hbk4 hlt4 hd4 hx4 hkp4 ht4
              go_wp2_with fail
              refine (look_any HBK.out HS5.out).mono ?_
              rintro e w5 ⟨rfl, hpost⟩
              have HQ5 := hide (HQ4.out.kp hpost.out.2 (fun q hf => (HXX.out q (.inl hf)).1))
              clear hpost
              go_wp2_with fail
              refine (begun_any w5 HQ5.out.c).mono ?_
              rintro e w9 ⟨rfl, hb9⟩
              have HB9 : Hid (Below w.heap.size w w9) := HQ5.out.l.trans (hb9.mono HQ5.out.l.size)
              clear hb9
              go_wp2_with fail
              go_ret
              exact ⟨rfl, HB9.out⟩
end
end Go.Proofs.YtedgdnoafajhoaaDoor
