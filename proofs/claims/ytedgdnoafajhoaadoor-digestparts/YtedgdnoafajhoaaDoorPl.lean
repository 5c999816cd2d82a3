import Derived.Test.YtedgdnoafajhoaaDoorBkc
import Derived.Test.YtedgdnoafajhoaaDoorLb
import Derived.StillTailTactics
namespace Go.Proofs.YtedgdnoafajhoaaDoor
open Go.RowKit Go

/-- One place: its struct's block, its two lists, its one row. -/
structure Pls (w : World) (B P : Nat) (ov iv vx : Value) (no : Nat) (os : List Value) (xs : List Nat) : Prop where
  p : w.heap[P]? = some (.cells #[ov, iv] 26 (0, 0))
  o : w.ownsRow B 27 1 ov no os
  i : w.ownsRow B 27 1 iv 1 [vx]
  x : w.ownsRow B 5 1 vx xs.length (bv xs)
  oi : ∀ k, ov.ownBlock = some k → iv.ownBlock ≠ some k
  pb : B ≤ P
/-- The blocks of a place. -/
def pbk (P : Nat) (ov iv vx : Value) (q : Nat) : Prop := q = P ∨ ov.ownBlock = some q ∨ iv.ownBlock = some q ∨ vx.ownBlock = some q
theorem own_blk (a : Option Addr) (n m c d : Nat) : (Value.slice a n c).ownBlock = (Value.slice a m d).ownBlock := by cases a <;> rfl
theorem own_zero {w : World} {B : Nat} {e : TypeId} {a : Option Addr} {n c : Nat} {xs : List Value} (h : w.ownsRow B e 1 (.slice a n c) n xs) : w.ownsRow B e 1 (.slice a 0 c) 0 [] := by
  refine ⟨rfl, ?_⟩
  rcases h.2 with ⟨hv, _⟩ | ⟨g, cap, cur, hv, hb, hg, h1, h2, h3, h4⟩
  · injection hv with e1 e2 e3
    subst e1
    subst e3
    exact .inl ⟨rfl, rfl⟩
  · injection hv with e1 e2 e3
    subst e1
    subst e3
    exact .inr ⟨g, c, cur, rfl, hb, hg, Nat.zero_le _, h2, h3, by simp⟩
theorem own_one_form {w : World} {B : Nat} {e : TypeId} {v x : Value} (h : w.ownsRow B e 1 v 1 [x]) : ∃ g c, v = .slice (some ⟨g, 0, none⟩) 1 c ∧ w.cell? ⟨g, 0, none⟩ = some x ∧ w.frozen? ⟨g, 0, none⟩ = false := by
  obtain ⟨a, c, hv, _, _, hc⟩ := own_form h
  obtain ⟨g, ha, _⟩ := hc 0 x rfl
  subst ha
  subst hv
  exact ⟨g, c, rfl, (own_cell h (j := 0) rfl).1, (own_cell h (j := 0) rfl).2⟩

/-- append of bytes, and where they lie. -/
theorem append_bsl_at {ops : Array Oper} {rest : List Oper} {o : Oper} {a : Act} {Q : Exit → Act → World → Prop} {w : World} (hgd : o.guard = none) (s x : Operand)
    (ho : o.op = .call { callee := .builtin .append, args := #[s, x], argTypes := #[27, 27] }) (B : Nat) (v : Value) (n : Nat) (ds : List Nat) (hs : a.eval s = v) (hown : w.ownsRow B 5 1 v n (bv ds))
    (u : Value) (xs : List Nat) (hx : a.eval x = u) (hsl : BSl w u xs) (hlen : n + xs.length ≤ 140737488355328) (hbase : B ≤ w.heap.size)
    (h : ∀ v' w', w'.ownsRow B 5 1 v' (n + xs.length) (bv (ds ++ xs)) → w.grownBy w' v.ownBlock → (v'.ownBlock = v.ownBlock ∨ v'.ownBlock = some w.heap.size) → wpList Tryd.prog ops Q rest (a.put o.dst v') w') : wpList Tryd.prog ops Q (o :: rest) a w := by
  obtain ⟨i5, hi, hz0, hz1, hz2⟩ := info5_ex
  obtain ⟨⟨ad, cap, rfl, hn, hc⟩, hmax, hb⟩ := id hsl
  cases ad with
  | none =>
    rcases hc with rfl | ⟨_, _, e, _⟩
    · have := hn.2 rfl
      subst this
      refine wpList_append_own_none hgd s x 27 ho B 5 i5 1 Tryd.underlying27 hi v n (bv ds) hs hown hx (h v w ?_ ⟨rfl, rfl, rfl, Nat.le_refl _, fun _ _ _ => rfl⟩ (.inl rfl))
      simpa using hown
    · cases e
  | some ad =>
    refine wpList_append_own_at w hgd s x 27 ho B 5 i5 (.int .u8 0) 1 1 Tryd.underlying27 hi hz0 hz1 hz2 rfl (by decide) v n (bv ds) hs hown ad xs.length cap (bv xs) hx (by simp [bv]) hsl.src.2 (bv_one xs) (by unfold maxLen; omega) (by omega) hbase fun v' w' h1 h2 _ h4 => ?_
    exact h v' w' (by rw [bv_app]; exact h1) h2 h4

set_option maxRecDepth 1000000 in
set_option maxHeartbeats 2000000 in
theorem rows_used (w : World) (B P c : Nat) (v ov iv vx : Value) (no : Nat) (os : List Value) (xs ys : List Nat) (h : Pls w B P ov iv vx no os xs) (hc : w.cell? ⟨c, 0, none⟩ = some v) (hv : BSl w v ys) (hB : B ≤ w.heap.size) (hl : ys.length ≤ 140737488351232)
    (hcp : c ≠ P) (hvp : ∀ w', Kp (fun q => q = P) w w' → BSl w' v ys) :
    Calls Tryd.prog 40 #[.pointer (some ⟨P, 0, none⟩), .slice (some ⟨c, 0, none⟩) 1 1] w fun e w' => ∃ ov' iv' vx', e = .returned ov' ∧ Pls w' B P ov' iv' vx' 1 [vx'] ys ∧ Kp (pbk P ov iv vx) w w' ∧ ∀ q, pbk P ov' iv' vx' q → pbk P ov iv vx q ∨ w.heap.size ≤ q := by
  have HP := hide h
  have HC := hide hc
  have HV := hide hv
  have HB := hide hB
  have HL := hide hl
  have HCP := hide hcp
  have HVP := hide hvp
  obtain ⟨ao, co, rfl, _, _, _⟩ := own_form h.o
  obtain ⟨gi, ci, rfl, ci0, fi0⟩ := own_one_form h.i
  obtain ⟨ax, cx, rfl, _, _, _⟩ := own_form h.x
  have q0 : w.cell? ⟨P, 0, none⟩ = some (.slice ao no co) := blk_cell h.p rfl
  have q1 : w.cell? ⟨P, 1, none⟩ = some (.slice (some ⟨gi, 0, none⟩) 1 ci) := blk_cell h.p rfl
  have f0 := blk_frozen 0 h.p
  clear h hv hB hl hcp hvp fi0
  go_enter Tryd.func40, Tryd.ntmps40
  go_wp2_with fail
  refine wp_loop_rounds 2 ?_
  rw [rounds_succ]
  go_wp2_with fail
  have HP1 : Hid (Pls (w.setCell ⟨P, 0, none⟩ (.slice ao 0 co)) B P (.slice ao 0 co) (.slice (some ⟨gi, 0, none⟩) 1 ci) (.slice ax xs.length cx) 0 [] xs) := by
    have h := HP.out
    have nP : ∀ {u : Value} {n : Nat} {l : List Value} {e : TypeId}, w.ownsRow B e 1 u n l → e ≠ 26 → ∀ k, u.ownBlock = some k → ¬ k = P := fun ho hne k hk e' => own_not ho h.p hne (by rw [hk, e'])
    have hk : Kp (fun q => q = P) w (w.setCell ⟨P, 0, none⟩ (.slice ao 0 co)) := (Kp.refl _ _).setCell _ _ (fun _ => rfl)
    exact ⟨blk_set 0 _ h.p, hk.owns (own_zero h.o) (fun k hk' => nP h.o (by decide) k (by cases ao with | none => cases hk' | some a => exact hk')), hk.owns h.i (nP h.i (by decide)), hk.owns h.x (nP h.x (by decide)), fun k hk' => h.oi k (by cases ao with | none => cases hk' | some a => exact hk'), h.pb⟩
  have HK1 : Hid (Kp (fun q => q = P) w (w.setCell ⟨P, 0, none⟩ (.slice ao 0 co))) := (Kp.refl _ _).setCell _ _ (fun _ => rfl)
  have HC1 : Hid ((w.setCell ⟨P, 0, none⟩ (.slice ao 0 co)).cell? ⟨c, 0, none⟩ = some v) := HK1.out.cell HC.out HCP.out
  have HV1 : Hid (BSl (w.setCell ⟨P, 0, none⟩ (.slice ao 0 co)) v ys) := HVP.out _ HK1.out
  clear q0 q1 f0 ci0 hc
  generalize w.setCell ⟨P, 0, none⟩ (.slice ao 0 co) = w1 at *
  have q1 : w1.cell? ⟨P, 1, none⟩ = some (.slice (some ⟨gi, 0, none⟩) 1 ci) := blk_cell HP1.out.p rfl
  have ci0 : w1.cell? ⟨gi, 0, none⟩ = some (.slice ax xs.length cx) := (own_cell HP1.out.i (j := 0) rfl).1
  have hc1 : w1.cell? ⟨c, 0, none⟩ = some v := HC1.out
  refine wp_region_still_tail 12 (by kernel_rfl) (by kernel_rfl) ?_
  simp only [List.take_succ_cons, List.take_zero, List.drop_succ_cons, List.drop_zero]
  repeat (
    refine wpStill_step (fun K hK => ?_)
    go_simp
    (refine hK _ ?_; clear hK K))
  refine wpStill_nil ?_
  have HP2 : Hid (Pls w1.drew B P (.slice ao 0 co) (.slice (some ⟨gi, 0, none⟩) 1 ci) (.slice ax xs.length cx) 0 [] xs) := by
    have h := HP1.out
    have hb : Below w1.heap.size w1 w1.drew := (Below.refl _ _).drew
    exact ⟨h.p, own_below h.o hb (rfl : 0 = 0), own_below h.i hb (rfl : 0 = 0), own_below h.x hb (rfl : 0 = 0), h.oi, h.pb⟩
  have HV2 : Hid (BSl w1.drew v ys) := HV1.out.move (fun _ _ h => h)
  have HS1 : Hid (B ≤ w1.drew.heap.size) := by have := HK1.out.size; have := HB.out; show B ≤ w1.heap.size; omega
  have HX2 := hide (own_zero HP2.out.x)
  go_wp2_with (at_builtin; refine append_bsl_at rfl _ _ rfl B _ 0 [] rfl HX2.out _ ys rfl HV2.out ?b1 ?b2 ?_)
  case b1 => have := HL.out; omega
  case b2 => exact HS1.out
  intro v2 w2 ho2 hg2 hn2
  have HN2 := hide hn2
  clear hn2
  have HK2 : Hid (Kp (fun q => (Value.slice ax 0 cx).ownBlock = some q) w1.drew w2) := (Kp.refl _ _).grown hg2 (fun k _ h => h)
  have HXP : Hid (∀ {u : Value} {n : Nat} {l : List Value}, w1.drew.ownsRow B 27 1 u n l → ∀ k, u.ownBlock = some k → ¬ (Value.slice ax 0 cx).ownBlock = some k) := fun ho k hk e => own_apart ho HX2.out (by decide) hk e
  have HO3 := hide (HK2.out.owns HP2.out.o (HXP.out HP2.out.o))
  have HI3 := hide (HK2.out.owns HP2.out.i (HXP.out HP2.out.i))
  have HPP3 := hide ((HK2.out.block P (blk_lt HP2.out.p) (fun e => own_not HX2.out HP2.out.p (by decide) e)).trans HP2.out.p)
  have HX3 := hide ho2
  have HOI := hide HP2.out.oi
  have HPB := hide HP2.out.pb
  have HS2 : Hid (B ≤ w2.heap.size) := Nat.le_trans HS1.out HK2.out.size
  obtain ⟨a2, c2, hv2, _, _, _⟩ := own_form ho2
  subst hv2
  have q1 : w2.cell? ⟨P, 1, none⟩ = some (.slice (some ⟨gi, 0, none⟩) 1 ci) := blk_cell HPP3.out rfl
  have ci0 : w2.cell? ⟨gi, 0, none⟩ = some (.slice ax xs.length cx) := (own_cell HI3.out (j := 0) rfl).1
  have fi0 : w2.frozen? ⟨gi, 0, none⟩ = false := (own_cell HI3.out (j := 0) rfl).2
  have HG2 : Hid (gi < w2.heap.size) := (HI3.out.lt gi rfl).2
  have HNP : Hid (gi ≠ P) := fun e => own_not HI3.out HPP3.out (by decide) (by rw [e]; rfl)
  have HK3 : Hid (Kp (fun q => q = gi) w2 (w2.setCell ⟨gi, 0, none⟩ (.slice a2 ys.length c2))) := (Kp.refl _ _).setCell _ _ (fun _ => rfl)
  have HI4 : Hid ((w2.setCell ⟨gi, 0, none⟩ (.slice a2 ys.length c2)).ownsRow B 27 1 (.slice (some ⟨gi, 0, none⟩) 1 ci) 1 [.slice a2 ys.length c2]) := own_set (j := 0) _ HI3.out
  have HO4 := hide (HK3.out.owns HO3.out (fun k hk e => HOI.out k hk (by rw [e]; rfl)))
  have HX4 := hide (HK3.out.owns HX3.out (fun k hk e => own_apart HX3.out HI3.out (by decide) hk (by rw [e]; rfl)))
  have HPP4 := hide ((HK3.out.block P (blk_lt HPP3.out) (fun e => HNP.out e.symm)).trans HPP3.out)
  have HS3 : Hid (B ≤ (w2.setCell ⟨gi, 0, none⟩ (.slice a2 ys.length c2)).heap.size) := Nat.le_trans HS2.out HK3.out.size
  clear ho2 hg2 HX2 HXP HP1 HP2 HC1 HV1 HV2
  have hne1 : ¬ gi = P := HNP.out
  have hne2 : ¬ P = gi := fun e => HNP.out e.symm
  have q0 : w2.cell? ⟨P, 0, none⟩ = some (.slice ao 0 co) := blk_cell HPP3.out rfl
  go_wp2_with (at_builtin; refine append_row rfl _ _ rfl B _ 0 [] rfl HO4.out (.slice a2 ys.length c2) w2.heap.size (by simp) rfl rfl (by omega) HS3.out ?_)
  intro ov' w4 ho4 hg4 hnew
  generalize hw3 : w2.setCell ⟨gi, 0, none⟩ (.slice a2 ys.length c2) = w3 at *
  clear hw3
  have HK4 : Hid (Kp (fun q => (Value.slice ao 0 co).ownBlock = some q) w3 w4) := ((Kp.refl _ _).alloc _).trans ((Kp.refl (fun q => (Value.slice ao 0 co).ownBlock = some q) _).grown hg4 (fun k _ h => h)) (fun _ _ h => h)
  have HI5 := hide (HK4.out.owns HI4.out (fun k hk e => HOI.out k e hk))
  have HX5 := hide (HK4.out.owns HX4.out (fun k hk e => own_apart HX4.out HO4.out (by decide) hk e))
  have HPP5 := hide ((HK4.out.block P (blk_lt HPP4.out) (fun e => own_not HO4.out HPP4.out (by decide) e)).trans HPP4.out)
  have HO5 := hide ho4
  have HNW := hide hnew
  have HGL : Hid (gi < w2.heap.size) := HG2.out
  obtain ⟨go, c4, hv4, _, _⟩ := own_one_form ho4
  subst hv4
  clear ho4 hg4 hnew
  have q5 : w4.cell? ⟨P, 0, none⟩ = some (.slice ao 0 co) := blk_cell HPP5.out rfl
  have f5 := blk_frozen 0 HPP5.out
  have HK5 : Hid (Kp (fun q => q = P) w4 (w4.setCell ⟨P, 0, none⟩ (.slice (some ⟨go, 0, none⟩) 1 c4))) := (Kp.refl _ _).setCell _ _ (fun _ => rfl)
  go_wp2_with fail
  rw [rounds_succ]
  go_wp2_with fail
  go_ret
  refine ⟨.slice (some ⟨go, 0, none⟩) 1 c4, .slice (some ⟨gi, 0, none⟩) 1 ci, .slice a2 ys.length c2, rfl, ⟨blk_set 0 _ HPP5.out, HK5.out.owns HO5.out (fun k hk e => own_not HO5.out HPP5.out (by decide) (by rw [hk, e])), HK5.out.owns HI5.out (fun k hk e => own_not HI5.out HPP5.out (by decide) (by rw [hk, e])), HK5.out.owns HX5.out (fun k hk e => own_not HX5.out HPP5.out (by decide) (by rw [hk, e])), ?_, HPB.out⟩, ?_, ?_⟩
  · intro k hk e
    have h1 : go = k := by simpa [Value.ownBlock] using hk
    have h2 : gi = k := by simpa [Value.ownBlock] using e
    rcases HNW.out with h | h
    · exact HOI.out k (by rw [← h]; exact hk) e
    · have h3 : go = w2.heap.size + 1 := by simpa [Value.ownBlock] using h
      have := HGL.out
      omega
  · have e1 := own_blk ax 0 xs.length cx cx
    have e2 := own_blk ao 0 no co co
    have k12 : Kp (pbk P (.slice ao no co) (.slice (some ⟨gi, 0, none⟩) 1 ci) (.slice ax xs.length cx)) w w2 := (HK1.out.drew.mono (fun q _ h => .inl h)).trans HK2.out (fun q _ h => .inr (.inr (.inr (by rw [← e1]; exact h))))
    have k13 := k12.trans HK3.out (fun q _ h => .inr (.inr (.inl (by rw [h]; rfl))))
    have k14 := k13.trans HK4.out (fun q _ h => .inr (.inl (by rw [← e2]; exact h)))
    exact k14.trans HK5.out (fun q _ h => .inl h)
  · have e1 := own_blk ax 0 xs.length cx cx
    have e2 := own_blk ao 0 no co co
    have s1 : w.heap.size ≤ w1.heap.size := HK1.out.size
    have s2 : w1.drew.heap.size ≤ w2.heap.size := HK2.out.size
    have s3 : w1.drew.heap.size = w1.heap.size := rfl
    intro q hq
    rcases hq with e | e | e | e
    · exact .inl (.inl e)
    · rcases HNW.out with h | h
      · exact .inl (.inr (.inl (by rw [← e2, ← h]; exact e)))
      · rw [h] at e
        injection e with e
        exact .inr (by omega)
    · exact .inl (.inr (.inr (.inl e)))
    · rcases HN2.out with h | h
      · exact .inl (.inr (.inr (.inr (by rw [← e1, ← h]; exact e))))
      · rw [h] at e
        injection e with e
        exact .inr (by omega)

set_option maxRecDepth 1000000 in
set_option maxHeartbeats 2000000 in
theorem rows_fresh (w : World) (B P c : Nat) (v : Value) (ys : List Nat) (hp : w.heap[P]? = some (.cells #[.slice none 0 0, .slice none 0 0] 26 (0, 0))) (hPB : B ≤ P) (hc : w.cell? ⟨c, 0, none⟩ = some v) (hv : BSl w v ys) (hB : B ≤ w.heap.size) (hl : ys.length ≤ 140737488351232)
    (hcp : c ≠ P) (hvp : ∀ w', Kp (fun q => q = P) w w' → BSl w' v ys) :
    Calls Tryd.prog 40 #[.pointer (some ⟨P, 0, none⟩), .slice (some ⟨c, 0, none⟩) 1 1] w fun e w' => ∃ ov' iv' vx', e = .returned ov' ∧ Pls w' B P ov' iv' vx' 1 [vx'] ys ∧ Kp (fun q => q = P) w w' ∧ ∀ q, pbk P ov' iv' vx' q → q = P ∨ w.heap.size ≤ q := by
  have HPf := hide hp
  have HC := hide hc
  have HV := hide hv
  have HB := hide hB
  have HL := hide hl
  have HCP := hide hcp
  have HVP := hide hvp
  have HPBx := hide hPB
  have q0 : w.cell? ⟨P, 0, none⟩ = some (.slice none 0 0) := blk_cell hp rfl
  have q1 : w.cell? ⟨P, 1, none⟩ = some (.slice none 0 0) := blk_cell hp rfl
  have f0 := blk_frozen 0 hp
  have f1 := blk_frozen 1 hp
  clear hp hv hB hl hcp hvp hPB
  have HKa : Hid (Kp (fun q => q = P) w (w.setCell ⟨P, 0, none⟩ (.slice none 0 0))) := (Kp.refl _ _).setCell _ _ (fun _ => rfl)
  have HPa : Hid ((w.setCell ⟨P, 0, none⟩ (.slice none 0 0)).heap[P]? = some (.cells #[.slice none 0 0, .slice none 0 0] 26 (0, 0))) := blk_set 0 _ HPf.out
  have HSa : Hid (B ≤ (w.setCell ⟨P, 0, none⟩ (.slice none 0 0)).heap.size) := Nat.le_trans HB.out HKa.out.size
  go_enter Tryd.func40, Tryd.ntmps40
  go_wp2_with fail
  refine wp_loop_rounds 2 ?_
  rw [rounds_succ]
  go_wp2_with (at_builtin; refine append_row rfl _ _ rfl B _ 0 [] rfl (World.ownsRow_nil _ _ _ _) (.slice none 0 0) w.heap.size (by simp) rfl rfl (by omega) HSa.out ?_)
  intro iv' wb hob hgb hnb
  generalize hwa : w.setCell ⟨P, 0, none⟩ (.slice none 0 0) = wa at *
  have hsz : wa.heap.size = w.heap.size := by rw [← hwa]; simp
  have HZS := hide hsz
  clear hwa hsz
  have HKb : Hid (Kp (fun _ => False) wa wb) := ((Kp.refl _ _).alloc _).trans ((Kp.refl (fun _ => False) _).grown hgb (fun k _ h => by cases h)) (fun _ _ h => h)
  have HPb := hide ((HKb.out.block P (blk_lt HPa.out) (fun h => h)).trans HPa.out)
  have HIb := hide hob
  have HNB := hide hnb
  obtain ⟨gi, ci, hvb, _, _⟩ := own_one_form hob
  subst hvb
  clear hob hgb hnb q0 q1 f0 f1
  have HG0 : Hid (w.heap.size ≤ gi) := by
    rcases HNB.out with h | h
    · cases h
    · have h3 : gi = w.heap.size + 1 := by simpa [Value.ownBlock] using h
      show _ ≤ _
      omega
  have q1 : wb.cell? ⟨P, 1, none⟩ = some (.slice none 0 0) := blk_cell HPb.out rfl
  have f1 := blk_frozen 1 HPb.out
  have HKc : Hid (Kp (fun q => q = P) wb (wb.setCell ⟨P, 1, none⟩ (.slice (some ⟨gi, 0, none⟩) 1 ci))) := (Kp.refl _ _).setCell _ _ (fun _ => rfl)
  have HP1 : Hid (Pls (wb.setCell ⟨P, 1, none⟩ (.slice (some ⟨gi, 0, none⟩) 1 ci)) B P (.slice none 0 0) (.slice (some ⟨gi, 0, none⟩) 1 ci) (.slice none 0 0) 0 [] []) :=
    ⟨blk_set 1 _ HPb.out, World.ownsRow_nil _ _ _ _, HKc.out.owns HIb.out (fun k hk e => own_not HIb.out HPb.out (by decide) (by rw [hk, e])), World.ownsRow_nil _ _ _ _, (fun k hk => by cases hk), HPBx.out⟩
  have HK1 : Hid (Kp (fun q => q = P) w (wb.setCell ⟨P, 1, none⟩ (.slice (some ⟨gi, 0, none⟩) 1 ci))) := (HKa.out.trans (HKb.out.mono (fun _ _ h => h.elim)) (fun _ _ h => h)).trans HKc.out (fun _ _ h => h)
  have HC1 : Hid ((wb.setCell ⟨P, 1, none⟩ (.slice (some ⟨gi, 0, none⟩) 1 ci)).cell? ⟨c, 0, none⟩ = some v) := HK1.out.cell HC.out HCP.out
  have HV1 : Hid (BSl (wb.setCell ⟨P, 1, none⟩ (.slice (some ⟨gi, 0, none⟩) 1 ci)) v ys) := HVP.out _ HK1.out
  go_wp2_with fail
  clear q1 f1
  generalize wb.setCell ⟨P, 1, none⟩ (.slice (some ⟨gi, 0, none⟩) 1 ci) = w1 at *
  have q1 : w1.cell? ⟨P, 1, none⟩ = some (.slice (some ⟨gi, 0, none⟩) 1 ci) := blk_cell HP1.out.p rfl
  have ci0 : w1.cell? ⟨gi, 0, none⟩ = some (.slice none 0 0) := (own_cell HP1.out.i (j := 0) rfl).1
  have hc1 : w1.cell? ⟨c, 0, none⟩ = some v := HC1.out
  refine wp_region_still_tail 12 (by kernel_rfl) (by kernel_rfl) ?_
  simp only [List.take_succ_cons, List.take_zero, List.drop_succ_cons, List.drop_zero]
  repeat (
    refine wpStill_step (fun K hK => ?_)
    go_simp
    (refine hK _ ?_; clear hK K))
  refine wpStill_nil ?_
  have HP2 : Hid (Pls w1.drew B P (.slice none 0 0) (.slice (some ⟨gi, 0, none⟩) 1 ci) (.slice none 0 0) 0 [] []) := by
    have h := HP1.out
    have hb : Below w1.heap.size w1 w1.drew := (Below.refl _ _).drew
    exact ⟨h.p, own_below h.o hb (rfl : 0 = 0), own_below h.i hb (rfl : 0 = 0), own_below h.x hb (rfl : 0 = 0), h.oi, h.pb⟩
  have HV2 : Hid (BSl w1.drew v ys) := HV1.out.move (fun _ _ h => h)
  have HS1 : Hid (B ≤ w1.drew.heap.size) := by have := HK1.out.size; have := HB.out; show B ≤ w1.heap.size; omega
  have HX2 := hide (own_zero HP2.out.x)
  go_wp2_with (at_builtin; refine append_bsl_at rfl _ _ rfl B _ 0 [] rfl HX2.out _ ys rfl HV2.out ?b1 ?b2 ?_)
  case b1 => have := HL.out; omega
  case b2 => exact HS1.out
  intro v2 w2 ho2 hg2 hn2
  have HN2 := hide hn2
  clear hn2
  have HK2 : Hid (Kp (fun q => (Value.slice none 0 0).ownBlock = some q) w1.drew w2) := (Kp.refl _ _).grown hg2 (fun k _ h => h)
  have HXP : Hid (∀ {u : Value} {n : Nat} {l : List Value}, w1.drew.ownsRow B 27 1 u n l → ∀ k, u.ownBlock = some k → ¬ (Value.slice none 0 0).ownBlock = some k) := fun ho k hk e => own_apart ho HX2.out (by decide) hk e
  have HO3 := hide (HK2.out.owns HP2.out.o (HXP.out HP2.out.o))
  have HI3 := hide (HK2.out.owns HP2.out.i (HXP.out HP2.out.i))
  have HPP3 := hide ((HK2.out.block P (blk_lt HP2.out.p) (fun e => own_not HX2.out HP2.out.p (by decide) e)).trans HP2.out.p)
  have HX3 := hide ho2
  have HOI := hide HP2.out.oi
  have HPB := hide HP2.out.pb
  have HS2 : Hid (B ≤ w2.heap.size) := Nat.le_trans HS1.out HK2.out.size
  obtain ⟨a2, c2, hv2, _, _, _⟩ := own_form ho2
  subst hv2
  have q1 : w2.cell? ⟨P, 1, none⟩ = some (.slice (some ⟨gi, 0, none⟩) 1 ci) := blk_cell HPP3.out rfl
  have ci0 : w2.cell? ⟨gi, 0, none⟩ = some (.slice none 0 0) := (own_cell HI3.out (j := 0) rfl).1
  have fi0 : w2.frozen? ⟨gi, 0, none⟩ = false := (own_cell HI3.out (j := 0) rfl).2
  have HG2 : Hid (gi < w2.heap.size) := (HI3.out.lt gi rfl).2
  have HNP : Hid (gi ≠ P) := fun e => own_not HI3.out HPP3.out (by decide) (by rw [e]; rfl)
  have HK3 : Hid (Kp (fun q => q = gi) w2 (w2.setCell ⟨gi, 0, none⟩ (.slice a2 ys.length c2))) := (Kp.refl _ _).setCell _ _ (fun _ => rfl)
  have HI4 : Hid ((w2.setCell ⟨gi, 0, none⟩ (.slice a2 ys.length c2)).ownsRow B 27 1 (.slice (some ⟨gi, 0, none⟩) 1 ci) 1 [.slice a2 ys.length c2]) := own_set (j := 0) _ HI3.out
  have HO4 := hide (HK3.out.owns HO3.out (fun k hk e => HOI.out k hk (by rw [e]; rfl)))
  have HX4 := hide (HK3.out.owns HX3.out (fun k hk e => own_apart HX3.out HI3.out (by decide) hk (by rw [e]; rfl)))
  have HPP4 := hide ((HK3.out.block P (blk_lt HPP3.out) (fun e => HNP.out e.symm)).trans HPP3.out)
  have HS3 : Hid (B ≤ (w2.setCell ⟨gi, 0, none⟩ (.slice a2 ys.length c2)).heap.size) := Nat.le_trans HS2.out HK3.out.size
  clear ho2 hg2 HX2 HXP HP1 HP2 HC1 HV1 HV2
  have hne1 : ¬ gi = P := HNP.out
  have hne2 : ¬ P = gi := fun e => HNP.out e.symm
  have q0 : w2.cell? ⟨P, 0, none⟩ = some (.slice none 0 0) := blk_cell HPP3.out rfl
  go_wp2_with (at_builtin; refine append_row rfl _ _ rfl B _ 0 [] rfl HO4.out (.slice a2 ys.length c2) w2.heap.size (by simp) rfl rfl (by omega) HS3.out ?_)
  intro ov' w4 ho4 hg4 hnew
  generalize hw3 : w2.setCell ⟨gi, 0, none⟩ (.slice a2 ys.length c2) = w3 at *
  clear hw3
  have HK4 : Hid (Kp (fun q => (Value.slice none 0 0).ownBlock = some q) w3 w4) := ((Kp.refl _ _).alloc _).trans ((Kp.refl (fun q => (Value.slice none 0 0).ownBlock = some q) _).grown hg4 (fun k _ h => h)) (fun _ _ h => h)
  have HI5 := hide (HK4.out.owns HI4.out (fun k hk e => HOI.out k e hk))
  have HX5 := hide (HK4.out.owns HX4.out (fun k hk e => own_apart HX4.out HO4.out (by decide) hk e))
  have HPP5 := hide ((HK4.out.block P (blk_lt HPP4.out) (fun e => own_not HO4.out HPP4.out (by decide) e)).trans HPP4.out)
  have HO5 := hide ho4
  have HNW := hide hnew
  have HGL : Hid (gi < w2.heap.size) := HG2.out
  obtain ⟨go, c4, hv4, _, _⟩ := own_one_form ho4
  subst hv4
  clear ho4 hg4 hnew
  have q5 : w4.cell? ⟨P, 0, none⟩ = some (.slice none 0 0) := blk_cell HPP5.out rfl
  have f5 := blk_frozen 0 HPP5.out
  have HK5 : Hid (Kp (fun q => q = P) w4 (w4.setCell ⟨P, 0, none⟩ (.slice (some ⟨go, 0, none⟩) 1 c4))) := (Kp.refl _ _).setCell _ _ (fun _ => rfl)
  go_wp2_with fail
  rw [rounds_succ]
  go_wp2_with fail
  go_ret
  refine ⟨.slice (some ⟨go, 0, none⟩) 1 c4, .slice (some ⟨gi, 0, none⟩) 1 ci, .slice a2 ys.length c2, rfl, ⟨blk_set 0 _ HPP5.out, HK5.out.owns HO5.out (fun k hk e => own_not HO5.out HPP5.out (by decide) (by rw [hk, e])), HK5.out.owns HI5.out (fun k hk e => own_not HI5.out HPP5.out (by decide) (by rw [hk, e])), HK5.out.owns HX5.out (fun k hk e => own_not HX5.out HPP5.out (by decide) (by rw [hk, e])), ?_, HPB.out⟩, ?_, ?_⟩
  · intro k hk e
    have h1 : go = k := by simpa [Value.ownBlock] using hk
    have h2 : gi = k := by simpa [Value.ownBlock] using e
    rcases HNW.out with h | h
    · exact HOI.out k (by rw [← h]; exact hk) e
    · have h3 : go = w2.heap.size + 1 := by simpa [Value.ownBlock] using h
      have := HGL.out
      omega
  · have k12 : Kp (fun q => q = P) w w2 := HK1.out.drew.trans HK2.out (fun q _ h => by cases h)
    have k13 := k12.trans HK3.out (fun q hq h => by have := HG0.out; omega)
    have k14 := k13.trans HK4.out (fun q _ h => by cases h)
    exact k14.trans HK5.out (fun q _ h => h)
  · have s1 : w.heap.size ≤ w1.heap.size := HK1.out.size
    have s2 : w1.drew.heap.size ≤ w2.heap.size := HK2.out.size
    have s3 : w1.drew.heap.size = w1.heap.size := rfl
    have s4 := HG0.out
    intro q hq
    rcases hq with e | e | e | e
    · exact .inl e
    · rcases HNW.out with h | h
      · rw [h] at e
        cases e
      · rw [h] at e
        injection e with e
        exact .inr (by omega)
    · have h3 : gi = q := by simpa [Value.ownBlock] using e
      exact .inr (by omega)
    · rcases HN2.out with h | h
      · rw [h] at e
        cases e
      · rw [h] at e
        injection e with e
        exact .inr (by omega)
end Go.Proofs.YtedgdnoafajhoaaDoor
