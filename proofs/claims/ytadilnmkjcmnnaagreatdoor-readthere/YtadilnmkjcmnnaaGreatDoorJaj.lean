import Derived.Test.YtadilnmkjcmnnaaGreatDoorJp
import Derived.Test.YtadilnmkjcmnnaaGreatDoorJai
import Derived.Test.YtadilnmkjcmnnaaGreatDoorJab
import Derived.Test.YtadilnmkjcmnnaaGreatDoorJac
import Derived.Test.YtadilnmkjcmnnaaGreatDoorJah
import Derived.Test.YtadilnmkjcmnnaaGreatDoorJae
import Derived.Test.YtadilnmkjcmnnaaGreatDoorJo
import Derived.Test.YtadilnmkjcmnnaaGreatDoorJz
import Derived.Test.YtadilnmkjcmnnaaGreatDoorJd
import Derived.Test.YtadilnmkjcmnnaaGreatDoorJc
namespace Go.Proofs.YtadilnmkjcmnnaaGreatDoor
section
open Go.RowKit Go
/-! Sorted values once more: one sorted value, its depth, its links; values with maps' entries in another order. -/
theorem tv_ext {a b : Tv} (h : Top a b) (hk : a.ks = b.ks) (hi : a.is = b.is) : a = b := by
  obtain ⟨k, f, g, n, c, s, y, l, ks, is⟩ := a
  obtain ⟨k', f', g', n', c', s', y', l', ks', is'⟩ := b
  obtain ⟨h1, h2, h3, h4, h5, h6, h7, h8⟩ := h
  simp only [Tv.k, Tv.f, Tv.g, Tv.n, Tv.b, Tv.s, Tv.y, Tv.l, Tv.ks, Tv.is] at *
  subst h1 h2 h3 h4 h5 h6 h7 h8 hk hi
  rfl
theorem Top.both {t a b : Tv} (h : Top t a) (h' : Top t b) : Top a b := ⟨h'.k.trans h.k.symm, h'.f.trans h.f.symm, h'.g.trans h.g.symm, h'.n.trans h.n.symm, h'.b.trans h.b.symm, h'.s.trans h.s.symm, h'.y.trans h.y.symm, h'.l.trans h.l.symm⟩
/-- There is one sorted value. -/
theorem srt_one {t s : Tv} (h : SrtR t s) : ∀ {s' : Tv}, Trk t → SrtR t s' → s = s' := by
  induction h with
  | rest t s h9 hT hk hn hi ih =>
    intro s' ht h'
    cases h' with
    | map _ _ _ h9' => exact absurd h9' h9
    | rest _ _ _ hT' hk' hn' hi' =>
      refine tv_ext (hT.both hT') (hk.trans hk'.symm) (List.ext_getElem? fun i => ?_)
      by_cases hl : i < t.is.length
      · have e1 := List.getElem?_eq_getElem hl
        have e2 := List.getElem?_eq_getElem (show i < s.is.length by omega)
        have e3 := List.getElem?_eq_getElem (show i < s'.is.length by omega)
        rw [e2, e3, ih i _ _ e1 e2 (ht.i _ (List.getElem_mem hl)) (hi' i _ _ e1 e3)]
      · rw [List.getElem?_eq_none (by omega), List.getElem?_eq_none (by omega)]
  | map t s ps h9 hT hp hk hn hi ih =>
    intro s' ht h'
    cases h' with
    | rest _ _ h9' => exact absurd h9 h9'
    | map _ _ ps' _ hT' hp' hk' hn' hi' =>
      obtain ⟨hlen, hnd, _⟩ := ht.m h9
      have e := srp_one hnd (by omega) hp hp'
      subst e
      refine tv_ext (hT.both hT') (hk.trans hk'.symm) (List.ext_getElem? fun i => ?_)
      by_cases hl : i < ps.length
      · have e0 := List.getElem?_eq_getElem hl
        have hpl := hp.lt ps[i] (List.getElem_mem hl)
        have e1 := List.getElem?_eq_getElem (show ps[i] < t.is.length by omega)
        have e2 := List.getElem?_eq_getElem (show i < s.is.length by omega)
        have e3 := List.getElem?_eq_getElem (show i < s'.is.length by omega)
        rw [e2, e3, ih i _ _ _ e0 e1 e2 (ht.i _ (List.getElem_mem _)) (hi' i _ _ _ e0 e1 e3)]
      · rw [List.getElem?_eq_none (by omega), List.getElem?_eq_none (by omega)]
theorem depthL_le {l : List Tv} {N : Nat} : tdepthL l ≤ N ↔ ∀ (i : Nat) (u : Tv), l[i]? = some u → tdepth u ≤ N := by
  induction l with
  | nil => simp [tdepthL]
  | cons a r ih =>
    rw [tdepthL, Nat.max_le, ih]
    constructor
    · rintro ⟨h1, h2⟩ i u hu
      rcases i with _ | i
      · simp at hu
        rw [← hu]
        exact h1
      · exact h2 i u (by simpa using hu)
    · intro h
      exact ⟨h 0 a rfl, fun i u hu => h (i + 1) u (by simpa using hu)⟩
theorem depth_eq (t : Tv) : tdepth t = if t.k = 8 ∨ t.k = 9 then tdepthL t.is + 1 else 0 := by
  obtain ⟨k, f, g, n, b, s, y, l, ks, is⟩ := t
  rw [tdepth]
  rfl
theorem eq_of_le {a b : Nat} (h : ∀ N, a ≤ N ↔ b ≤ N) : a = b := Nat.le_antisymm ((h b).2 (Nat.le_refl _)) ((h a).1 (Nat.le_refl _))
theorem perm_at {n : Nat} {ps : List Nat} (h : ps.Perm (List.range n)) {p : Nat} (hp : p < n) : ∃ i : Nat, ps[i]? = some p := by
  have h1 : p ∈ ps := h.mem_iff.2 (by simpa using hp)
  exact List.getElem?_of_mem h1
theorem perm_len {n : Nat} {ps : List Nat} (h : ps.Perm (List.range n)) : ps.length = n := by rw [h.length_eq, List.length_range]
theorem perm_lt {n : Nat} {ps : List Nat} (h : ps.Perm (List.range n)) {i p : Nat} (hp : ps[i]? = some p) : p < n := by simpa using h.mem_iff.1 (List.mem_of_getElem? hp)
theorem srt_depth {t s : Tv} (h : SrtR t s) : Trk t → tdepth s = tdepth t := by
  induction h with
  | rest t s h9 hT hk hn hi ih =>
    intro ht
    rw [depth_eq, depth_eq, hT.k]
    have e : tdepthL s.is = tdepthL t.is := by
      refine eq_of_le fun N => ?_
      rw [depthL_le, depthL_le]
      constructor
      · intro h i u hu
        have hl := (List.getElem?_eq_some_iff.1 hu).1
        have e2 := List.getElem?_eq_getElem (show i < s.is.length by omega)
        rw [← ih i _ _ hu e2 (ht.i _ (List.mem_of_getElem? hu))]
        exact h i _ e2
      · intro h i v hv
        have hl := (List.getElem?_eq_some_iff.1 hv).1
        have e2 := List.getElem?_eq_getElem (show i < t.is.length by omega)
        rw [ih i _ _ e2 hv (ht.i _ (List.mem_of_getElem? e2))]
        exact h i _ e2
    rw [e]
  | map t s ps h9 hT hp hk hn hi ih =>
    intro ht
    obtain ⟨hlen, _⟩ := ht.m h9
    have hpl := hp.len
    rw [depth_eq, depth_eq, hT.k]
    have e : tdepthL s.is = tdepthL t.is := by
      refine eq_of_le fun N => ?_
      rw [depthL_le, depthL_le]
      constructor
      · intro h p u hu
        have hl := (List.getElem?_eq_some_iff.1 hu).1
        obtain ⟨i, hi2⟩ := perm_at hp.p (show p < min t.ks.length t.is.length by omega)
        have hil := (List.getElem?_eq_some_iff.1 hi2).1
        have e2 := List.getElem?_eq_getElem (show i < s.is.length by omega)
        rw [← ih i p _ _ hi2 hu e2 (ht.i _ (List.mem_of_getElem? hu))]
        exact h i _ e2
      · intro h i v hv
        have hl := (List.getElem?_eq_some_iff.1 hv).1
        have hil := List.getElem?_eq_getElem (show i < ps.length by omega)
        have hlt := perm_lt hp.p hil
        have e2 := List.getElem?_eq_getElem (show ps[i] < t.is.length by omega)
        rw [ih i _ _ _ hil e2 hv (ht.i _ (List.mem_of_getElem? e2))]
        exact h _ _ e2
    rw [e]
end
section
open Go.RowKit Go
/-! ### What was read, told by value and lay -/
theorem chk7_of {t : Tv} (hm : tmuch t ≤ 3000000) : ChkC7 t (chkf t 0) := fun w cs ht hT => check6_any t w cs ht hm hT
theorem srt7_of {t : Tv} (hm : tmuch t ≤ 3000000) (hc : chkf t 0 = 0) (hr : Rsn t) : SrtC7 t t := fun w cs ht => by
  refine (sorted6_any t w cs ht hm).mono ?_
  rintro e w' ⟨c', s, rfl, hs, hn, hb⟩
  have e := srt_one (rsn_srt hr hc) (chk_trk hc) hs
  exact ⟨c', rfl, e ▸ hn.tin, hb⟩
/-- What stands fast of a value that was read. -/
structure Rd8 (b : List Nat) (d : Nat) (t : Tv) : Prop where
  c : chkf t 0 = 0
  d : tdepth t ≤ d
  m : tmuch t ≤ 1048576
  f : tfm t = b
  s : SrtC7 t t
  p : Ptr t
theorem rd8_of {b : List Nat} {d N : Nat} (hb : ∀ x ∈ b, x < 256) (hd : d ≤ 1024) (hl : b.length ≤ 1048576) {r : Res} (h : mrun b d N m0 = some r) (he : (dflt b r).1 = 0) : Rd8 b d r.v := by
  have h1 : r.e = 0 ∧ r.p = b.length := by
    unfold dflt at he
    have := (mrun_at (Nat.zero_le _ : m0.p ≤ b.length) h).2
    by_cases e0 : r.e = 0
    · by_cases e1 : r.p < b.length
      · simp [e0, e1] at he
      · exact ⟨e0, by omega⟩
    · simp [e0] at he
  obtain ⟨g1, g2⟩ := mrun_back hb hd h (Inv8.start b d) (Bk8.start b d) h1.1
  rw [h1.2, List.take_length] at g1
  have hm := chk_much g2.c
  rw [← g1] at hm
  exact ⟨g2.c, by have := g2.d; omega, by omega, g1.symm, srt7_of (by omega) g2.c g2.r, chk_ptr g2.c⟩
/-- Encode tells the very bytes. -/
theorem rd8_encode {b : List Nat} {d : Nat} {t : Tv} (h : Rd8 b d t) (hl : b.length ≤ 1048576) (w : World) (cs : Array Value) (ht : Tin w t cs) (hT : Tabs w) : Calls Tryz.prog 17 #[.agg cs] w (AppP w [] b) := by
  have hk : ChkC7 t 0 := by
    have := chk7_of (t := t) (by have := h.m; omega)
    rw [h.c] at this
    exact this
  have := encode_good w t t cs hk h.s h.p (by rw [h.f]; omega) ht hT
  rw [h.f] at this
  exact this
theorem rd8_check {b : List Nat} {d : Nat} {t : Tv} (h : Rd8 b d t) (w : World) (cs : Array Value) (ht : Tin w t cs) (hT : Tabs w) : Calls Tryz.prog 16 #[.agg cs] w fun e w' => e = .returned (.int .i64 0) ∧ Below w.heap.size w w' := by
  have := chk7_of (t := t) (by have := h.m; omega) w cs ht hT
  rw [h.c] at this
  exact this
theorem rd8_depth {b : List Nat} {d : Nat} {t : Tv} (h : Rd8 b d t) (hd : d ≤ 1024) (w : World) (cs : Array Value) (ht : Tin w t cs) : Calls Tryz.prog 18 #[.agg cs] w fun e w' => e = .returned (.int .i64 (tdepth t : Nat)) ∧ Below w.heap.size w w' :=
  depth_any t w cs ht (by have := h.d; omega)
theorem rd8_sorted {b : List Nat} {d : Nat} {t : Tv} (h : Rd8 b d t) (w : World) (cs : Array Value) (ht : Tin w t cs) : Calls Tryz.prog 19 #[.agg cs] w fun e w' => ∃ c', e = .returned (.agg c') ∧ Tin w' t c' ∧ Below w.heap.size w w' := h.s w cs ht
theorem rd8_eq (t : Tv) (w : World) (c cs : Array Value) (ht : Tin w t c) (hu : Tin w t cs) : Calls Tryz.prog 21 #[.agg c, .agg cs] w fun e w' => e = .returned (.bool true) ∧ Below w.heap.size w w' := eqValue_any t t true ⟨fun _ => rfl, fun _ => rfl⟩ w c cs ht hu
end
section
open Go.RowKit Go
/-! ### A fault's code and place -/
theorem rlook_code (want : Nat) (b : List Nat) : rlook want b = 0 ∨ (81 ≤ rlook want b ∧ rlook want b ≤ 84) := by
  unfold rlook
  split
  · omega
  split
  · omega
  split
  · omega
  split <;> omega
theorem rtake_code (want : Nat) (full : Bool) (ks : List ByteArray) (b : List Nat) : rtake want full ks b ≤ 84 ∧ (rtake want full ks b ≠ 0 → 81 ≤ rtake want full ks b) := by
  have h := rlook_code want b
  unfold rtake
  split
  · omega
  split
  · omega
  split <;> omega
theorem mstep_code {b : List Nat} {d : Nat} {s : Mst} {r : Res} (h : mstep b d s = .inr r) : r.e = 0 ∨ (81 ≤ r.e ∧ r.e ≤ 84) := by
  obtain ⟨lab, p, st⟩ := s
  cases lab with
  | plain =>
    unfold mstep at h
    dsimp only at h
    have hc := rtake_code 0 (decide (st.length = d)) [] (b.drop p)
    by_cases h0 : rtake 0 (decide (st.length = d)) [] (b.drop p) ≠ 0
    · rw [if_pos h0] at h
      injection h with h
      subst h
      exact .inr ⟨hc.2 h0, hc.1⟩
    · rw [if_neg h0] at h
      repeat' split at h
      all_goals cases h
  | name =>
    unfold mstep at h
    dsimp only at h
    have hc := rtake_code 2 (decide (st.length = d)) [] (b.drop p)
    by_cases h0 : rtake 2 (decide (st.length = d)) [] (b.drop p) ≠ 0
    · rw [if_pos h0] at h
      injection h with h
      subst h
      exact .inr ⟨hc.2 h0, hc.1⟩
    · rw [if_neg h0] at h
      cases h
  | done v =>
    cases st with
    | nil =>
      unfold mstep at h
      dsimp only at h
      injection h with h
      subst h
      exact .inl rfl
    | cons x q =>
      unfold mstep at h
      cases h
  | inside =>
    cases st with
    | nil =>
      unfold mstep at h
      dsimp only at h
      injection h with h
      subst h
      exact .inl rfl
    | cons x q =>
      unfold mstep at h
      dsimp only at h
      have hc := rtake_code 1 (decide ((x :: q).length = d)) x.ks (b.drop p)
      by_cases hn : x.n = 0
      · rw [if_pos hn] at h; cases h
      rw [if_neg hn] at h
      by_cases h8 : x.k = 8
      · rw [if_pos h8] at h; cases h
      rw [if_neg h8] at h
      by_cases h0 : rtake 1 (decide ((x :: q).length = d)) x.ks (b.drop p) ≠ 0
      · rw [if_pos h0] at h
        injection h with h
        subst h
        exact .inr ⟨hc.2 h0, hc.1⟩
      · rw [if_neg h0] at h
        cases h
theorem mrun_code {b : List Nat} {d : Nat} : ∀ {n : Nat} {s : Mst} {r : Res}, mrun b d n s = some r → r.e = 0 ∨ (81 ≤ r.e ∧ r.e ≤ 84)
  | 0, _, _, h => by cases h
  | n + 1, s, r, h => by
    cases hs : mstep b d s with
    | inl s' =>
      rw [mrun_next hs] at h
      exact mrun_code h
    | inr r' =>
      rw [mrun_end hs] at h
      injection h with h
      subst h
      exact mstep_code hs
theorem dflt_code {b : List Nat} {d n : Nat} {r : Res} (h : mrun b d n m0 = some r) (h0 : (dflt b r).1 ≠ 0) : 80 ≤ (dflt b r).1 ∧ (dflt b r).1 ≤ 85 ∧ (dflt b r).2 ≤ b.length := by
  have h1 := mrun_code h
  have h2 := (mrun_at (Nat.zero_le _ : m0.p ≤ b.length) h).2
  unfold dflt at h0 ⊢
  by_cases e0 : r.e = 0
  · rw [if_pos e0] at h0 ⊢
    by_cases e1 : r.p < b.length
    · rw [if_pos e1] at h0 ⊢
      exact ⟨by dsimp only; omega, by dsimp only; omega, h2⟩
    · rw [if_neg e1] at h0
      exact absurd rfl h0
  · rw [if_neg e0] at h0 ⊢
    exact ⟨by dsimp only; omega, by dsimp only; omega, h2⟩
/-- Decode of whatever depth: no fault, and what stands fast of the value; or a fault within its bounds and no value. -/
def Dec8 (w : World) (b : List Nat) (D : Int) (e : Ending) (w' : World) : Prop :=
  Below w.heap.size w w' ∧ ∃ (c : Array Value) (E P : Nat) (v : Tv), e = .returned (.tuple #[.agg c, .agg (fcs E P)]) ∧ Tin w' v c ∧ ((E = 0 ∧ P = 0 ∧ ∃ d : Nat, D = (d : Int) ∧ d ≤ 1024 ∧ Rd8 b d v) ∨ (80 ≤ E ∧ E ≤ 85 ∧ P ≤ b.length ∧ v = tz8 0))
theorem decode8_back (W : World) (hT : Tabs W) (w : World) (hW : Below W.heap.size W w) (vB : Value) (b : List Nat) (hB : BSl w vB b) (hBq : ∀ q, vB.ownBlock = some q → q < w.heap.size) (hbl : b.length ≤ 1048576) (D : Int) : Calls Tryz.prog 20 #[vB, .int .i64 D] w (Dec8 w b D) := by
  by_cases hD : D < 0 ∨ 1024 < D
  · refine (decode8_wild w vB b hB (by omega) D hD).mono ?_
    rintro e w' ⟨hb, c, rfl, ht⟩
    refine ⟨hb, c, 80, 0, tz8 0, rfl, ?_, .inr ⟨by decide, by decide, Nat.zero_le _, rfl⟩⟩
    exact ht.tin
  · obtain ⟨d, rfl⟩ : ∃ d : Nat, D = (d : Int) := ⟨D.toNat, by omega⟩
    have hd : d ≤ 1024 := by omega
    have hby := hB.byte
    obtain ⟨R, hR⟩ : ∃ r, mrun b d (mmu b m0 + 1) m0 = some r := mrun_ends (fun p => (hrd_bd _ (fun x hx => hby x (List.mem_of_mem_drop hx))).1) _ (Inv8.start b d) (Nat.lt_succ_self _)
    refine (decode8_any W hT w hW vB b hB hBq (by omega) d hd _ R hR).mono ?_
    rintro e w' ⟨hb, c, rfl, ht⟩
    by_cases h0 : (dflt b R).1 = 0
    · rw [if_pos h0] at ht
      have h2 : (dflt b R).2 = 0 := by
        unfold dflt at h0 ⊢
        by_cases e0 : R.e = 0
        · rw [if_pos e0] at h0 ⊢
          by_cases e1 : R.p < b.length
          · rw [if_pos e1] at h0; cases h0
          · rw [if_neg e1]
        · rw [if_neg e0] at h0
          exact absurd h0 e0
      exact ⟨hb, c, _, _, R.v, rfl, ht.tin, .inl ⟨h0, h2, d, rfl, hd, rd8_of hby hd hbl hR h0⟩⟩
    · rw [if_neg h0] at ht
      obtain ⟨a1, a2, a3⟩ := dflt_code hR h0
      exact ⟨hb, c, _, _, tz8 0, rfl, ht.tin, .inr ⟨a1, a2, a3, rfl⟩⟩
end
section
open Go.RowKit Go
def rb4 : List Nat := [130, 1, 97, 97]
def rv4 : Tv := .mk 8 false false 0 0 ⟨#[]⟩ [] ⟨0, 0, 0, []⟩ [] [.mk 3 false false 1 0 ⟨#[]⟩ [] ⟨0, 0, 0, []⟩ [] [], .mk 5 false false 0 0 ⟨#[97]⟩ [] ⟨0, 0, 0, []⟩ [] []]
theorem reads_one : mrun rb4 1 20 m0 = some ⟨0, 4, rv4⟩ := by kernel_rfl
theorem reads_two : mrun rb4 0 20 m0 = some ⟨81, 0, tz8 0⟩ := by kernel_rfl
/-- Two faults held against each other. -/
theorem eqflt (w : World) (e p e' p' : Nat) : (Op.equalIn 10000 72 (.agg (fcs e p)) (.agg (fcs e' p'))).run Tryz.prog w = .ok (decide (e = e' ∧ p = p')) w := by
  have u3 := Tryz.underlying3
  have u27 := Tryz.underlying65
  have a3 := Tryz.isAgg3
  have a27 := Tryz.isAgg65
  have z3 := Tryz.sizeOf3
  have z27 := Tryz.sizeOf65
  have hS : Tryz.prog.underlying 72 = some (.struct (Tryz.prog.fieldsOf 72)) := by kernel_rfl
  have hp : Tryz.prog.stoodInHeld 72 = false := by kernel_rfl
  unfold fcs
  rw [show (10000 : Nat) = 9999 + 1 from rfl, run_equalIn_agg w 9999 72 _ _ hS hp]
  simp only [Program.fieldsOf, Tryz.underlying72]
  go_simp
  by_cases h1 : e = e' <;> by_cases h2 : p = p' <;> first | (simp [h1, h2]; done) | (simp [h1, h2]; omega)
theorem eqgF : Tryz.prog.eqGuardType Tryz.prog.depth 72 = false := by kernel_rfl
theorem exec_eqflt {o : Oper} {a : Act} {x y : Operand} {T2 : TypeId} {e p e' p' : Nat} {w : World} (ho : o.op = .binOp .eql 72 x y T2) (hx : a.eval x = .agg (fcs e p)) (hy : a.eval y = .agg (fcs e' p')) : (execOp a.eval o).run Tryz.prog w = .ok (.value (.bool (decide (e = e' ∧ p = p')))) w := by
  unfold execOp
  simp only [ho, Sem.run_bind, hx, hy, run_eqGuard_agg w _ 72 x y _ _ eqgF, run_eql_struct, eqflt, Result.andThen_ok]
  rfl
theorem exec_neflt {o : Oper} {a : Act} {x y : Operand} {T2 : TypeId} {e p e' p' : Nat} {w : World} (ho : o.op = .binOp .neq 72 x y T2) (hx : a.eval x = .agg (fcs e p)) (hy : a.eval y = .agg (fcs e' p')) : (execOp a.eval o).run Tryz.prog w = .ok (.value (.bool (!decide (e = e' ∧ p = p')))) w := by
  unfold execOp
  simp only [ho, Sem.run_bind, hx, hy, run_eqGuard_agg w _ 72 x y _ _ eqgF, run_neq_struct, eqflt, Result.andThen_ok]
  rfl
theorem wpList_execW {ops : Array Oper} {rest : List Oper} {o : Oper} {a : Act} {Q : Exit → Act → World → Prop} {w : World} {v : Value} (hgd : Region.wanted o (yielded ops a.tmps) = true) (he : (execOp a.eval o).run Tryz.prog w = .ok (.value v) w) (h : wpList Tryz.prog ops Q rest (a.put o.dst v) w) : wpList Tryz.prog ops Q (o :: rest) a w := by
  refine wpList_wanted hgd fun K hK => ?_
  unfold Oper.wp
  rw [he]
  exact hK _ _ h
theorem one_mk8 (w : World) (f : Array Value) : Below w.heap.size w ((w.alloc (.cells zf 72)).setRow w.heap.size f) ∧ ((w.alloc (.cells zf 72)).setRow w.heap.size f).heap[w.heap.size]? = some (.cells f 72 (0, 0)) := row_mk8 w zf f 72
theorem lit4_bsl (w : World) : Below w.heap.size w (w.alloc (.cells #[.int .u8 130, .int .u8 1, .int .u8 97, .int .u8 97] 5)) ∧ BSl (w.alloc (.cells #[.int .u8 130, .int .u8 1, .int .u8 97, .int .u8 97] 5)) (.slice (some ⟨w.heap.size, 0, none⟩) 4 4) rb4 :=
  ⟨below_alloc4 w _, bsl_block (xs := rb4) (heap_alloc_new w _) (by decide) (by decide)⟩
theorem rv4_cells {w : World} {c : Array Value} (h : Tin w rv4 c) : c.size = 13 ∧ c[0]? = some (.int .i64 8) ∧ ∃ b off cap, c[12]? = some (.slice (some ⟨b, off, none⟩) 2 cap) ∧ w.cell? ⟨b, off + 18, none⟩ = some (.string ⟨#[97]⟩) := by
  obtain ⟨vy, vk, vi, hc, -, -, hv, -⟩ := h.parts
  obtain ⟨⟨a, cap, hva, _, hx⟩, _⟩ := hv
  obtain ⟨b, off, ha, hx⟩ := hx.resolve_left (by decide)
  obtain ⟨cs, h1, h2⟩ := hx 1 (.mk 5 false false 0 0 ⟨#[97]⟩ [] ⟨0, 0, 0, []⟩ [] []) rfl
  obtain ⟨vy', vk', vi', hc', -⟩ := h1.parts
  subst hc
  subst hva
  subst ha
  refine ⟨rfl, rfl, b, off, cap, rfl, ?_⟩
  have h3 := h2 5 (.string ⟨#[97]⟩) (by rw [hc']; rfl)
  exact h3
set_option maxRecDepth 1000000 in
set_option maxHeartbeats 4000000 in
theorem reads8_any (W : World) (hT : Tabs W) (w : World) (hW : Below W.heap.size W w) : Calls Tryz.prog 13 #[] w fun e w' => e = .returned (.bool true) ∧ Below w.heap.size w w' := by
  have HT := hide hT
  have HWW := hide hW
  have HL1 := hide (lit4_bsl w)
  have HS1 : Hid ((w.alloc (.cells #[.int .u8 130, .int .u8 1, .int .u8 97, .int .u8 97] 5)).heap.size = w.heap.size + 1) := by show _ = _; simp
  clear hT hW
  go_enter Tryz.func13, Tryz.ntmps13
  go_wp2_with fail
  generalize w.alloc (.cells #[.int .u8 130, .int .u8 1, .int .u8 97, .int .u8 97] 5) = w1 at *
  refine (decode8_any W HT.out w1 (HWW.out.trans (HL1.out.1.mono HWW.out.size)) _ rb4 HL1.out.2 (fun q hq => by have e : w.heap.size = q := by simpa [Value.ownBlock] using hq
                                                                                                                have := HS1.out; omega) (by decide) 1 (by decide) 20 _ reads_one).mono ?_
  rintro e w2 ⟨hb2, c, rfl, ht2⟩
  have hin : Tin w2 rv4 c := ht2.tin
  have hF0 := two_new8 w2
  have HN5 := hide hF0.r
  have HN6 := hide (hF0.setR c).f
  have hmk := two_mk8 w2 c (fcs 0 0)
  have HI5 : Hid ((Tryz.prog.info? 62).map (·.size) = some c.size) := by show _ = _; rw [hin.size13]; exact infoV
  have HZ5 : Hid (zv.size = c.size) := by show _ = _; rw [hin.size13]; rfl
  have HA5 := hide hin.all1
  have HIF : Hid ((Tryz.prog.info? 72).map (·.size) = some (fcs 0 0).size) := infoF8
  have HAF := hide (fcs_all 0 0)
  have HV3 := hide hmk.2.1
  have HG3 := hide hmk.2.2
  have HC3 := hide (hin.move (keep_below hmk.1))
  have HB3 : Hid (Below w.heap.size w ((((w2.alloc (.cells zv 62)).alloc (.cells zf 72)).setRow w2.heap.size c).setRow (w2.heap.size + 1) (fcs 0 0))) := (HL1.out.1.trans (hb2.mono HL1.out.1.size)).trans (hmk.1.mono (Nat.le_trans HL1.out.1.size hb2.size))
  clear hb2 ht2 hin hF0 hmk HL1 HS1
  go_upto_region 2 with (first
    | (refine wpList_storeRow rfl rfl w2.heap.size zv c 62 rfl rfl HN5.out HI5.out HZ5.out HA5.out ?_)
    | (refine wpList_storeRow rfl rfl (w2.heap.size + 1) zf (fcs 0 0) 72 rfl rfl HN6.out HIF.out rfl HAF.out ?_))
  (try simp only [Act.put]); (try simp only [List.setIfInBounds_toArray, List.set_cons_zero, List.set_cons_succ])
  unfold zv zf at HV3 HG3 HC3 HB3
  generalize (((w2.alloc (.cells #[.int .i64 0, .bool false, .bool false, .int .u64 0, .int .u64 0, .string ⟨#[]⟩, .slice none 0 0, .int .i64 0, .int .u64 0, .int .u64 0, .string ⟨#[]⟩, .slice none 0 0, .slice none 0 0] 62)).alloc (.cells #[.int .i64 0, .int .i64 0] 72)).setRow w2.heap.size c).setRow (w2.heap.size + 1) (fcs 0 0) = w3 at *
  clear HN5 HN6
  have HL4 := hide (lit4_bsl w3)
  have HS4 : Hid ((w3.alloc (.cells #[.int .u8 130, .int .u8 1, .int .u8 97, .int .u8 97] 5)).heap.size = w3.heap.size + 1) := by show _ = _; simp
  go_wp2_with fail
  generalize w3.alloc (.cells #[.int .u8 130, .int .u8 1, .int .u8 97, .int .u8 97] 5) = w4 at *
  have hbw4 : Below w.heap.size w w4 := HB3.out.trans (HL4.out.1.mono HB3.out.size)
  refine (check8_any W HT.out w4 (HWW.out.trans (hbw4.mono HWW.out.size)) _ rb4 HL4.out.2 (fun q hq => by have e : w3.heap.size = q := by simpa [Value.ownBlock] using hq
                                                                                                          have := HS4.out; omega) (by decide) 0 (by decide) 20 _ reads_two).mono ?_
  rintro e w5 ⟨hb5, rfl⟩
  have hb35 : Below w3.heap.size w3 w5 := HL4.out.1.trans (hb5.mono HL4.out.1.size)
  have hmk := one_mk8 w5 (fcs 81 0)
  have hb36 : Below w3.heap.size w3 ((w5.alloc (.cells zf 72)).setRow w5.heap.size (fcs 81 0)) := hb35.trans (hmk.1.mono hb35.size)
  have HN7 := hide (heap_alloc_new w5 (.cells zf 72))
  have HI7 : Hid ((Tryz.prog.info? 72).map (·.size) = some (fcs 81 0).size) := infoF8
  have HA7 := hide (fcs_all 81 0)
  have HG6 := hide hmk.2
  have HV6 := hide ((hb36.block _ (blk_lt HV3.out)).trans HV3.out)
  have HF6 := hide ((hb36.block _ (blk_lt HG3.out)).trans HG3.out)
  have HC6 := hide (HC3.out.move (keep_below hb36))
  have HB6 : Hid (Below w.heap.size w ((w5.alloc (.cells zf 72)).setRow w5.heap.size (fcs 81 0))) := HB3.out.trans (hb36.mono HB3.out.size)
  clear hbw4 hb5 hb35 hmk hb36 HL4 HS4 HV3 HG3 HC3 HB3
  go_upto_region 3 with (refine wpList_storeRow rfl rfl w5.heap.size zf (fcs 81 0) 72 rfl rfl HN7.out HI7.out rfl HA7.out ?_)
  (try simp only [Act.put]); (try simp only [List.setIfInBounds_toArray, List.set_cons_zero, List.set_cons_succ])
  unfold zf at HG6 HV6 HF6 HC6 HB6
  generalize (w5.alloc (.cells #[.int .i64 0, .int .i64 0] 72)).setRow w5.heap.size (fcs 81 0) = w6 at *
  clear HN7
  obtain ⟨hc13, k0, gb, off, cap, k12, k18⟩ := rv4_cells HC6.out
  have c0 : w6.cell? ⟨w2.heap.size, 0, none⟩ = some (.int .i64 8) := blk_cell HV6.out k0
  have c12 : w6.cell? ⟨w2.heap.size, 12, none⟩ = some (.slice (some ⟨gb, off, none⟩) 2 cap) := blk_cell HV6.out k12
  clear hc13 k0 k12
  go_wp2_with (first
    | (refine wpList_execW rfl (exec_fltAt (g := w2.heap.size + 1) (c := fcs 0 0) rfl rfl rfl HF6.out) ?_)
    | (refine wpList_execW rfl (exec_fltAt (g := w5.heap.size) (c := fcs 81 0) rfl rfl rfl HG6.out) ?_)
    | (refine wpList_execW rfl (exec_eqflt (e := 0) (p := 0) (e' := 0) (p' := 0) rfl rfl rfl) ?_)
    | (refine wpList_execW rfl (exec_eqflt (e := 81) (p := 0) (e' := 81) (p' := 0) rfl rfl rfl) ?_))
  go_ret
  exact ⟨rfl, HB6.out⟩
end
section
open Go.RowKit Go
theorem num8_any (w : World) (e : Int) : Calls Tryz.prog 15 #[.int .i64 e] w fun x w' => x = .returned (.int .i64 e) ∧ w' = w := by
  go_enter Tryz.func15, Tryz.ntmps15
  go_wp2
  go_ret
  exact ⟨rfl, rfl⟩
end
end Go.Proofs.YtadilnmkjcmnnaaGreatDoor
