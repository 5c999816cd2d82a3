import Derived.Test.YtdejcapbggjjgaaGreatDoorJn
import Derived.Test.YtdejcapbggjjgaaGreatDoorJg
import Derived.Test.YtdejcapbggjjgaaGreatDoorJb
import Derived.Test.YtdejcapbggjjgaaGreatDoorJl
import Derived.Test.YtdejcapbggjjgaaGreatDoorJi
import Derived.Test.YtdejcapbggjjgaaGreatDoorJd
import Derived.Test.YtdejcapbggjjgaaGreatDoorJf
import Derived.Lib.Bytealg
namespace Go.Proofs.YtdejcapbggjjgaaGreatDoor
section
open Go.RowKit Go
theorem own_slice8 {w : World} {B e s n : Nat} {v : Value} {xs : List Value} (h : w.ownsRow B e s v n xs) : ∃ a c, v = .slice a n c := by
  rcases h.2 with ⟨e, h0⟩ | ⟨g, c, cur, e, _⟩
  · exact ⟨none, 0, by rw [e, h0]⟩
  · exact ⟨_, c, e⟩
theorem plain_tis (w : World) (S : Nat → Prop) {t : Tv} (hb : Tbd t) (hy : t.y = []) (hk : t.ks = []) (hi : t.is = []) : Tis w S t (vcs t (.slice none 0 0) (.slice none 0 0) (.slice none 0 0)) :=
  Tis.mk t _ _ _ hb (by rw [hy]; exact bsl_none w) (fun h => absurd hy h) (by rw [hk]; exact ⟨⟨none, 0, rfl, ⟨Nat.le_refl _, fun _ => rfl⟩, .inl rfl⟩, by show (0 : Nat) ≤ _; decide, fun x hx => (by cases hx)⟩) (fun h => absurd hk h) (fun _ => #[]) none 0 (by rw [hi]; rfl) (by rw [hi]; exact ⟨Nat.le_refl _, fun _ => rfl⟩) (by rw [hi]; show (0 : Nat) ≤ _; decide) (fun i u hu => (by rw [hi] at hu; cases hu)) (.inl hi)
theorem end_leaf {wx : World} {R : Nat} {c : Array Value} {tmps : Array Value} (hn : c.size = 13) (hr : wx.heap[R]? = some (.cells c 61 (0, 0))) (hp : tmps.getD 2 undef = .pointer (some ⟨R, 0, none⟩)) : (results Tryz.f55 tmps).run Tryz.prog wx = .ok (.agg c) wx := by
  refine (results_one (p := 2) (ty := 61) rfl _ _ _).trans ?_
  rw [hp]
  have h1 := run_loadVar_row (P := Tryz.prog) wx R 61 61 c (0, 0) _ hr Tryz.underlying61 rfl (by rw [hn]; exact infoV)
  simp [asAddr, h1, Result.andThen]
theorem leaf_tbd {t : Tv} (h1 : t.n < 18446744073709551616) (h2 : t.b < 18446744073709551616) (h3 : t.s.size ≤ 140737488351232) (h4 : t.y.length ≤ 140737488351232) (h5 : t.l = ⟨0, 0, 0, []⟩) : Tbd t := ⟨h1, h2, h3, h4, by rw [h5]; exact ⟨by decide, by decide, fun x hx => (by cases hx), by decide⟩, by rw [h5]; decide⟩
end
section
open Go.RowKit Go
/-- The key ahead, if there is one. -/
def Ahd (k : Nat) (ks : List ByteArray) (ah : ByteArray) (fi : Bool) : Prop := k = 1 → (fi = true ∧ ks = []) ∨ (fi = false ∧ ks.getLast? = some ah ∧ ah.size ≤ 140737488351232)
/-! ### The machine's ways that the reference goes -/
/-- From one state to another in some steps. -/
def Gos (b : List Nat) (d : Nat) (s s' : Mst) : Prop := ∃ k, ∀ n, mrun b d (n + k) s = mrun b d n s'
theorem Gos.refl (b : List Nat) (d : Nat) (s : Mst) : Gos b d s s := ⟨0, fun _ => rfl⟩
theorem Gos.trans {b : List Nat} {d : Nat} {s s' s'' : Mst} (h : Gos b d s s') (h' : Gos b d s' s'') : Gos b d s s'' := by
  obtain ⟨k, hk⟩ := h
  obtain ⟨j, hj⟩ := h'
  exact ⟨j + k, fun n => by rw [← Nat.add_assoc, hk, hj]⟩
theorem Gos.step {b : List Nat} {d : Nat} {s s' : Mst} (h : mstep b d s = .inl s') : Gos b d s s' := ⟨1, fun _ => mrun_next h⟩
/-- The answer that comes. -/
def Eds (b : List Nat) (d : Nat) (s : Mst) (r : Res) : Prop := ∃ n, mrun b d n s = some r
theorem Eds.step {b : List Nat} {d : Nat} {s : Mst} {r : Res} (h : mstep b d s = .inr r) : Eds b d s r := ⟨1, mrun_end (n := 0) h⟩
theorem Gos.eds {b : List Nat} {d : Nat} {s s' : Mst} {r : Res} (h : Gos b d s s') (h' : Eds b d s' r) : Eds b d s r := by
  obtain ⟨k, hk⟩ := h
  obtain ⟨n, hn⟩ := h'
  exact ⟨n + k, by rw [hk, hn]⟩
/-- Is the depth reached? -/
theorem full_eq {q d : Nat} (h : q ≤ d) : decide (q = d) = decide (d ≤ q) := by
  rw [Bool.eq_iff_iff, decide_eq_true_eq, decide_eq_true_eq]
  omega
section
variable {b : List Nat} {d p : Nat} {st : List Nst}
theorem eds_plain {e : Nat} (h : rtake 0 (decide (st.length = d)) [] (b.drop p) = e) (he : e ≠ 0) : Eds b d ⟨.plain, p, st⟩ ⟨e, p, tz8 0⟩ :=
  Eds.step (by unfold mstep; simp only [h]; rw [if_pos he])
theorem gos_leaf (h : rtake 0 (decide (st.length = d)) [] (b.drop p) = 0) (h6 : (hrd (b.drop p)).m ≠ 6) (h4 : (hrd (b.drop p)).m ≠ 4) (h5 : (hrd (b.drop p)).m ≠ 5) : Gos b d ⟨.plain, p, st⟩ ⟨.done (rleaf (hrd (b.drop p)) (rbody (b.drop p))), p + rused (b.drop p), st⟩ :=
  Gos.step (by unfold mstep; simp only; rw [if_neg (by rw [h]; simp), if_neg h6, if_neg h4, if_neg h5])
theorem gos_tag (h : rtake 0 (decide (st.length = d)) [] (b.drop p) = 0) (h6 : (hrd (b.drop p)).m = 6) : Gos b d ⟨.plain, p, st⟩ ⟨.name, p + rused (b.drop p), st⟩ :=
  Gos.step (by unfold mstep; simp only; rw [if_neg (by rw [h]; simp), if_pos h6])
theorem gos_list (h : rtake 0 (decide (st.length = d)) [] (b.drop p) = 0) (h4 : (hrd (b.drop p)).m = 4) : Gos b d ⟨.plain, p, st⟩ ⟨.inside, p + rused (b.drop p), ⟨8, [], [], (hrd (b.drop p)).n⟩ :: st⟩ :=
  Gos.step (by unfold mstep; simp only; rw [if_neg (by rw [h]; simp), if_neg (by omega), if_pos h4])
theorem gos_map (h : rtake 0 (decide (st.length = d)) [] (b.drop p) = 0) (h5 : (hrd (b.drop p)).m = 5) : Gos b d ⟨.plain, p, st⟩ ⟨.inside, p + rused (b.drop p), ⟨9, [], [], (hrd (b.drop p)).n⟩ :: st⟩ :=
  Gos.step (by unfold mstep; simp only; rw [if_neg (by rw [h]; simp), if_neg (by omega), if_neg (by omega), if_pos h5])
theorem eds_name {e : Nat} (h : rtake 2 (decide (st.length = d)) [] (b.drop p) = e) (he : e ≠ 0) : Eds b d ⟨.name, p, st⟩ ⟨e, p, tz8 0⟩ :=
  Eds.step (by unfold mstep; simp only [h]; rw [if_pos he])
theorem gos_name (h : rtake 2 (decide (st.length = d)) [] (b.drop p) = 0) : Gos b d ⟨.name, p, st⟩ ⟨.done (.mk 7 false false 0 0 ⟨#[]⟩ [] (lparse (rbody (b.drop p)).tail).1 [] []), p + rused (b.drop p), st⟩ :=
  Gos.step (by unfold mstep; simp only; rw [if_neg (by rw [h]; simp)])
theorem gos_done {x : Nst} (v : Tv) : Gos b d ⟨.done v, p, x :: st⟩ ⟨.inside, p, ⟨x.k, x.ks, x.is ++ [v], x.n - 1⟩ :: st⟩ := Gos.step rfl
theorem gos_end {x : Nst} (h : x.n = 0) : Gos b d ⟨.inside, p, x :: st⟩ ⟨.done x.val, p, st⟩ :=
  Gos.step (by unfold mstep; simp only; rw [if_pos h])
theorem gos_in8 {x : Nst} (h : x.n ≠ 0) (hk : x.k = 8) : Gos b d ⟨.inside, p, x :: st⟩ ⟨.plain, p, x :: st⟩ :=
  Gos.step (by unfold mstep; simp only; rw [if_neg h, if_pos hk])
theorem gos_key {x : Nst} (h : x.n ≠ 0) (hk : x.k ≠ 8) (ht : rtake 1 (decide ((x :: st).length = d)) x.ks (b.drop p) = 0) : Gos b d ⟨.inside, p, x :: st⟩ ⟨.plain, p + rused (b.drop p), ⟨x.k, x.ks ++ [nstr (rbody (b.drop p))], x.is, x.n⟩ :: st⟩ :=
  Gos.step (by unfold mstep; simp only; rw [if_neg h, if_neg hk, if_neg (by rw [ht]; simp)])
theorem eds_key {x : Nst} {e : Nat} (h : x.n ≠ 0) (hk : x.k ≠ 8) (ht : rtake 1 (decide ((x :: st).length = d)) x.ks (b.drop p) = e) (he : e ≠ 0) : Eds b d ⟨.inside, p, x :: st⟩ ⟨e, p, tz8 0⟩ :=
  Eds.step (by unfold mstep; simp only [ht]; rw [if_neg h, if_neg hk, if_pos he])
end
/-! ### What the reference's item and many answer -/
def fce (e p : Nat) : Array Value := #[.int .i64 (e : Nat), .int .i64 (p : Nat)]
def zfe : Array Value := #[.int .i64 0, .int .i64 0]
theorem fce_all (e p : Nat) : (fce e p).all (·.oneCell') = true := by
  rw [Array.all_eq_true']
  intro u hu
  simp only [fce, List.mem_toArray, List.mem_cons, List.not_mem_nil, or_false] at hu
  rcases hu with rfl | rfl <;> rfl
theorem infoFE : (Tryz.prog.info? 64).map (·.size) = some 2 := by kernel_rfl
/-- A tree that is read, or a fault. -/
def Ans (w : World) (e : Ending) (w' : World) (G : Tv → Nat → Prop) (E : Nat → Nat → Prop) : Prop :=
  Below w.heap.size w w' ∧ ((∃ c x n, e = .returned (.tuple #[.agg c, .int .i64 ((n : Nat) : Int), .agg zfe]) ∧ Tis w' (fun q => q < w.heap.size) x c ∧ G x n) ∨ (∃ e1 p1, e1 ≠ 0 ∧ e = .returned (.tuple #[.agg zv, .int .i64 0, .agg (fce e1 p1)]) ∧ E e1 p1))
theorem Ans.ok {w w' : World} {G : Tv → Nat → Prop} {E : Nat → Nat → Prop} {c : Array Value} {x : Tv} {n : Nat} (hb : Below w.heap.size w w') (ht : Tis w' (fun q => q < w.heap.size) x c) (hg : G x n) : Ans w (.returned (.tuple #[.agg c, .int .i64 ((n : Nat) : Int), .agg zfe])) w' G E := ⟨hb, .inl ⟨c, x, n, rfl, ht, hg⟩⟩
theorem Ans.bad {w w' : World} {G : Tv → Nat → Prop} {E : Nat → Nat → Prop} {e1 p1 : Nat} (hb : Below w.heap.size w w') (h0 : e1 ≠ 0) (he : E e1 p1) : Ans w (.returned (.tuple #[.agg zv, .int .i64 0, .agg (fce e1 p1)])) w' G E := ⟨hb, .inr ⟨e1, p1, h0, rfl, he⟩⟩
/-- What an item that is wanted so is: told by the machine. -/
def ItG (b : List Nat) (d p q k : Nat) (ks : List ByteArray) (x : Tv) (n : Nat) : Prop :=
  p < n ∧ n ≤ b.length ∧ (k ≠ 0 → rtake k (decide (d ≤ q)) ks (b.drop p) = 0 ∧ n = p + rused (b.drop p) ∧ x = rleaf (hrd (b.drop p)) (rbody (b.drop p))) ∧ (k = 0 → ∀ st : List Nst, st.length = q → Gos b d ⟨.plain, p, st⟩ ⟨.done x, n, st⟩)
def ItE (b : List Nat) (d p q k : Nat) (ks : List ByteArray) (e1 p1 : Nat) : Prop :=
  (k ≠ 0 → rtake k (decide (d ≤ q)) ks (b.drop p) = e1 ∧ p1 = p) ∧ (k = 0 → ∀ st : List Nst, st.length = q → Eds b d ⟨.plain, p, st⟩ ⟨e1, p1, tz8 0⟩)
def ItC (b : List Nat) (d p : Nat) : Prop := ∀ (w : World) (vB : Value) (q k : Nat) (ah : ByteArray) (fi : Bool) (ks : List ByteArray), BSl w vB b → q ≤ d → (k = 0 ∨ k = 1 ∨ k = 2) → Ahd k ks ah fi → Calls Tryz.prog 23 #[vB, .int .i64 (d : Nat), .agg (wcs8 p q k ah fi)] w fun e w' => Ans w e w' (ItG b d p q k ks) (ItE b d p q k ks)
def MaG (b : List Nat) (d p q : Nat) (kk : Int) (n : Nat) (x : Tv) (m : Nat) : Prop := p ≤ m ∧ m ≤ b.length ∧ ∀ st : List Nst, st.length = q → Gos b d ⟨.inside, p, ⟨kk, [], [], n⟩ :: st⟩ ⟨.done x, m, st⟩
def MaE (b : List Nat) (d p q : Nat) (kk : Int) (n : Nat) (e1 p1 : Nat) : Prop := ∀ st : List Nst, st.length = q → Eds b d ⟨.inside, p, ⟨kk, [], [], n⟩ :: st⟩ ⟨e1, p1, tz8 0⟩
def MaC (b : List Nat) (d p : Nat) : Prop := ∀ (w : World) (vB : Value) (p0 q k : Nat) (ah : ByteArray) (fi : Bool) (h : HR) (kk : Int), BSl w vB b → q + 1 ≤ d → (h.m = 4 ∧ kk = 8) ∨ (h.m = 5 ∧ kk = 9) → h.n < 18446744073709551616 → Calls Tryz.prog 63 #[vB, .int .i64 (d : Nat), .agg (wcs8 p0 q k ah fi), .agg (hcs h), .int .i64 ((p : Nat) : Int)] w fun e w' => Ans w e w' (MaG b d p q kk h.n) (MaE b d p q kk h.n)
end
section
open Go.RowKit Go
/-! ### What the open lists and maps hold is their own -/
theorem nos_live {w w' : World} {lo A Z : Nat} {S T : Nat → Prop} {u : Tv} {c : Array Value} (h : Nos w lo (fun q => A ≤ q ∧ q < Z ∧ ¬ S q) u c) (hZ : Z ≤ w.heap.size) (hk : Kp S w w') (hT : ∀ q, T q → S q ∨ w.heap.size ≤ q) : Nos w' lo (fun q => A ≤ q ∧ q < Z ∧ ¬ T q) u c :=
  (h.kp hk (fun _ e => e.2.2)).mono (Nat.le_refl _) (fun q e => ⟨e.1, e.2.1, fun ht => (hT q ht).elim e.2.2 (fun h => by omega)⟩)
/-- Each item has blocks of its own: nest i began at B i, its item j lies from A i j on and ahead of Z i j, all of them ahead of m. -/
structure Own8 (w : World) (lo : Nat) (M : Nat → Prop) (v : Value) (st : List Nst) (K I : Nat → Value) (L : Nat → List (Array Value)) (m : Nat) (B : Nat → Nat) (A Z : Nat → Nat → Nat) : Prop where
  b : ∀ i, i < st.length → lo ≤ B i ∧ B i ≤ m ∧ ∀ j, j < i → B j ≤ B i
  r : ∀ i, i < st.length → ∀ q, (K i).ownBlock = some q ∨ (I i).ownBlock = some q → B i ≤ q
  o : ∀ i x, st[i]? = some x → ∀ j, j < x.is.length → B i ≤ A i j ∧ Z i j ≤ m ∧ (∀ j', j' < j → Z i j' ≤ A i j) ∧ ∀ i', i < i' → i' < st.length → Z i j ≤ B i'
  n : ∀ i x, st[i]? = some x → ∀ (j : Nat) (u : Tv) (c : Array Value), x.is[j]? = some u → (L i)[j]? = some c → Nos w lo (fun q => A i j ≤ q ∧ q < Z i j ∧ ¬ Lvs M v st.length K I q) u c
  z : m ≤ w.heap.size
def Ow8 (w : World) (lo : Nat) (M : Nat → Prop) (v : Value) (st : List Nst) (K I : Nat → Value) (L : Nat → List (Array Value)) (m : Nat) : Prop := ∃ B A Z, Own8 w lo M v st K I L m B A Z
theorem Ow8.kp {w w' : World} {lo : Nat} {M : Nat → Prop} {v : Value} {st : List Nst} {K I : Nat → Value} {L : Nat → List (Array Value)} {m : Nat} (h : Ow8 w lo M v st K I L m) (hk : Kp M w w') : Ow8 w' lo M v st K I L m := by
  obtain ⟨B, A, Z, h⟩ := h
  exact ⟨B, A, Z, h.b, h.r, h.o, fun i x hx j u c hu hc => (h.n i x hx j u c hu hc).kp hk (fun q e hM => e.2.2 (.inl hM)), Nat.le_trans h.z hk.size⟩
theorem Ow8.next {w w' : World} {lo : Nat} {M : Nat → Prop} {v : Value} {st : List Nst} {K I : Nat → Value} {L : Nat → List (Array Value)} {m : Nat} (h : Ow8 w lo M v st K I L m) (hb : Below w.heap.size w w') : Ow8 w' lo M v st K I L m := h.kp (Kp.of_below hb)
theorem Ow8.up {w : World} {lo : Nat} {M : Nat → Prop} {v : Value} {st : List Nst} {K I : Nat → Value} {L : Nat → List (Array Value)} {m m' : Nat} (h : Ow8 w lo M v st K I L m) (h1 : m ≤ m') (h2 : m' ≤ w.heap.size) : Ow8 w lo M v st K I L m' := by
  obtain ⟨B, A, Z, h⟩ := h
  exact ⟨B, A, Z, fun i hi => ⟨(h.b i hi).1, Nat.le_trans (h.b i hi).2.1 h1, (h.b i hi).2.2⟩, h.r, fun i x hx j hj => ⟨(h.o i x hx j hj).1, Nat.le_trans (h.o i x hx j hj).2.1 h1, (h.o i x hx j hj).2.2⟩, h.n, h2⟩
theorem Ow8.empty (w : World) {lo : Nat} (M : Nat → Prop) (v : Value) (K I : Nat → Value) (L : Nat → List (Array Value)) {m : Nat} (hm : m ≤ w.heap.size) : Ow8 w lo M v [] K I L m :=
  ⟨fun _ => 0, fun _ _ => 0, fun _ _ => 0, fun i hi => absurd hi (Nat.not_lt_zero i), fun i hi => absurd hi (Nat.not_lt_zero i), fun i x hx => by simp at hx, fun i x hx => by simp at hx, hm⟩
/-- One more is opened. -/
theorem Ow8.push {w w' : World} {lo : Nat} {M : Nat → Prop} {v v' : Value} {st : List Nst} {K I : Nat → Value} {L : Nat → List (Array Value)} {m : Nat} (h : Ow8 w lo M v st K I L m) (hl : lo ≤ w.heap.size) {k : Int} {n : Nat} (hg : w.grownBy w' v.ownBlock) (hv : v'.ownBlock = v.ownBlock ∨ v'.ownBlock = some w.heap.size) :
    Ow8 w' lo M v' (st ++ [⟨k, [], [], n⟩]) (fun i => if i = st.length then .slice none 0 0 else K i) (fun i => if i = st.length then .slice none 0 0 else I i) (fun i => if i = st.length then [] else L i) w.heap.size := by
  obtain ⟨B, A, Z, h⟩ := h
  have hk : Kp (fun q => v.ownBlock = some q) w w' := (Kp.refl _ _).grown hg (fun k _ h => h)
  have hkL : Kp (Lvs M v st.length K I) w w' := hk.mono (fun q _ e => .inr (.inl e))
  have hz := h.z
  have hT : ∀ q, Lvs M v' (st ++ [(⟨k, [], [], n⟩ : Nst)]).length (fun i => if i = st.length then .slice none 0 0 else K i) (fun i => if i = st.length then .slice none 0 0 else I i) q → Lvs M v st.length K I q ∨ w.heap.size ≤ q := fun q hq => by
    rcases hq with hq | hq | ⟨i, hi, hq⟩
    · exact .inl (.inl hq)
    · rcases hv with e | e
      · exact .inl (.inr (.inl (e ▸ hq)))
      · rw [e] at hq
        injection hq with hq
        exact .inr (by omega)
    · rw [List.length_append, List.length_singleton] at hi
      by_cases e : i = st.length
      · simp only [e, if_true] at hq
        rcases hq with hq | hq <;> cases hq
      · simp only [if_neg e] at hq
        exact .inl (.inr (.inr ⟨i, by omega, hq⟩))
  have hat : ∀ i x, (st ++ [(⟨k, [], [], n⟩ : Nst)])[i]? = some x → (i < st.length ∧ st[i]? = some x) ∨ (i = st.length ∧ x = ⟨k, [], [], n⟩) := fun i x hx => by
    have hi := (List.getElem?_eq_some_iff.1 hx).1
    rw [List.length_append, List.length_singleton] at hi
    by_cases e : i = st.length
    · subst e
      exact .inr ⟨rfl, by simpa using hx.symm⟩
    · rw [List.getElem?_append_left (by omega)] at hx
      exact .inl ⟨by omega, hx⟩
  refine ⟨fun i => if i = st.length then w.heap.size else B i, A, Z, fun i hi => ?_, fun i hi q hq => ?_, fun i x hx j hj => ?_, fun i x hx j u c hu hc => ?_, hk.size⟩
  · rw [List.length_append, List.length_singleton] at hi
    by_cases e : i = st.length
    · simp only [e, if_true]
      refine ⟨hl, Nat.le_refl _, fun j hj => ?_⟩
      rw [if_neg (by omega)]
      have := (h.b j hj).2.1
      omega
    · simp only [if_neg e]
      obtain ⟨b1, b2, b3⟩ := h.b i (by omega)
      refine ⟨b1, by omega, fun j hj => ?_⟩
      rw [if_neg (by omega)]
      exact b3 j hj
  · rw [List.length_append, List.length_singleton] at hi
    by_cases e : i = st.length
    · simp only [e, if_true] at hq
      rcases hq with hq | hq <;> cases hq
    · simp only [if_neg e] at hq ⊢
      exact h.r i (by omega) q hq
  · rcases hat i x hx with ⟨hi, hx⟩ | ⟨_, rfl⟩
    · obtain ⟨o1, o2, o3, o4⟩ := h.o i x hx j hj
      refine ⟨by simp only [if_neg (show ¬ i = st.length by omega)]; exact o1, by omega, o3, fun i' h1 h2 => ?_⟩
      rw [List.length_append, List.length_singleton] at h2
      by_cases e : i' = st.length
      · simp only [e, if_true]
        omega
      · simp only [if_neg e]
        exact o4 i' h1 (by omega)
    · simp at hj
  · rcases hat i x hx with ⟨hi, hx⟩ | ⟨_, rfl⟩
    · simp only [if_neg (show ¬ i = st.length by omega)] at hc
      have hjl := (List.getElem?_eq_some_iff.1 hu).1
      exact nos_live (h.n i x hx j u c hu hc) (Nat.le_trans (h.o i x hx j hjl).2.1 hz) hkL hT
    · simp at hu
/-- The innermost one gets a key. -/
theorem Ow8.key {w w' : World} {lo : Nat} {M : Nat → Prop} {v : Value} {st : List Nst} {K I : Nat → Value} {L : Nat → List (Array Value)} {m t : Nat} (h : Ow8 w lo M v st K I L m) (ht : t < st.length) {x x' : Nst} (hx : st[t]? = some x) (his : x'.is = x.is) {vk' : Value} (hk : Kp (fun q => v.ownBlock = some q ∨ (K t).ownBlock = some q) w w') (hkb : vk'.ownBlock = (K t).ownBlock ∨ ∀ q, vk'.ownBlock = some q → w.heap.size ≤ q) :
    Ow8 w' lo M v (st.set t x') (fun i => if i = t then vk' else K i) (fun i => if i = t then I t else I i) (fun i => if i = t then L t else L i) m := by
  obtain ⟨B, A, Z, h⟩ := h
  have hz := h.z
  have hkL : Kp (Lvs M v st.length K I) w w' := hk.mono (fun q _ e => by
    rcases e with e | e
    · exact .inr (.inl e)
    · exact .inr (.inr ⟨t, ht, .inl e⟩))
  have hT : ∀ q, Lvs M v (st.set t x').length (fun i => if i = t then vk' else K i) (fun i => if i = t then I t else I i) q → Lvs M v st.length K I q ∨ w.heap.size ≤ q := fun q hq => by
    rcases hq with hq | hq | ⟨i, hi, hq⟩
    · exact .inl (.inl hq)
    · exact .inl (.inr (.inl hq))
    · rw [List.length_set] at hi
      by_cases e : i = t
      · simp only [e, if_true] at hq
        rcases hq with hq | hq
        · rcases hkb with e2 | e2
          · exact .inl (.inr (.inr ⟨t, ht, .inl (e2 ▸ hq)⟩))
          · exact .inr (e2 q hq)
        · exact .inl (.inr (.inr ⟨t, ht, .inr hq⟩))
      · simp only [if_neg e] at hq
        exact .inl (.inr (.inr ⟨i, hi, hq⟩))
  have hat : ∀ (i : Nat) (y : Nst), (st.set t x')[i]? = some y → ∃ y0 : Nst, st[i]? = some y0 ∧ y.is = y0.is := fun i y hy => by
    by_cases e : i = t
    · subst e
      rw [set_at ht hy]
      exact ⟨x, hx, his⟩
    · rw [List.getElem?_set_ne (fun e2 => e e2.symm)] at hy
      exact ⟨y, hy, rfl⟩
  refine ⟨B, A, Z, fun i hi => h.b i (by rw [List.length_set] at hi; exact hi), fun i hi q hq => ?_, fun i y hy j hj => ?_, fun i y hy j u c hu hc => ?_, Nat.le_trans hz hk.size⟩
  · rw [List.length_set] at hi
    by_cases e : i = t
    · simp only [e, if_true] at hq ⊢
      rcases hq with hq | hq
      · rcases hkb with e2 | e2
        · exact h.r t ht q (.inl (e2 ▸ hq))
        · have := e2 q hq
          have := (h.b t ht).2.1
          omega
      · exact h.r t ht q (.inr hq)
    · simp only [if_neg e] at hq
      exact h.r i hi q hq
  · obtain ⟨y0, hy0, e⟩ := hat i y hy
    rw [e] at hj
    obtain ⟨o1, o2, o3, o4⟩ := h.o i y0 hy0 j hj
    exact ⟨o1, o2, o3, fun i' h1 h2 => o4 i' h1 (by rw [List.length_set] at h2; exact h2)⟩
  · obtain ⟨y0, hy0, e⟩ := hat i y hy
    rw [e] at hu
    have hc' : (L i)[j]? = some c := by
      by_cases e2 : i = t
      · simp only [e2, if_true] at hc ⊢
        exact hc
      · simp only [if_neg e2] at hc
        exact hc
    have hjl := (List.getElem?_eq_some_iff.1 hu).1
    exact nos_live (h.n i y0 hy0 j u c hu hc') (Nat.le_trans (h.o i y0 hy0 j hjl).2.1 hz) hkL hT
/-- The innermost one gets an item. -/
theorem Ow8.item {w w' : World} {lo : Nat} {M : Nat → Prop} {v : Value} {st : List Nst} {K I : Nat → Value} {L : Nat → List (Array Value)} {m t : Nat} (h : Ow8 w lo M v st K I L m) (ht : t + 1 = st.length) {x x' : Nst} (hx : st[t]? = some x) {u : Tv} {c : Array Value} (his : x'.is = x.is ++ [u]) (hL : (L t).length = x.is.length) (hn : Nos w lo (fun q => m ≤ q ∧ q < w.heap.size ∧ ¬ Lvs M v st.length K I q) u c) {vi' : Value} (hk : Kp (fun q => v.ownBlock = some q ∨ (I t).ownBlock = some q) w w') (hib : vi'.ownBlock = (I t).ownBlock ∨ ∀ q, vi'.ownBlock = some q → w.heap.size ≤ q) :
    Ow8 w' lo M v (st.set t x') (fun i => if i = t then K t else K i) (fun i => if i = t then vi' else I i) (fun i => if i = t then L t ++ [c] else L i) w.heap.size := by
  obtain ⟨B, A, Z, h⟩ := h
  have hz := h.z
  have htl : t < st.length := by omega
  have hkL : Kp (Lvs M v st.length K I) w w' := hk.mono (fun q _ e => by
    rcases e with e | e
    · exact .inr (.inl e)
    · exact .inr (.inr ⟨t, htl, .inr e⟩))
  have hT : ∀ q, Lvs M v (st.set t x').length (fun i => if i = t then K t else K i) (fun i => if i = t then vi' else I i) q → Lvs M v st.length K I q ∨ w.heap.size ≤ q := fun q hq => by
    rcases hq with hq | hq | ⟨i, hi, hq⟩
    · exact .inl (.inl hq)
    · exact .inl (.inr (.inl hq))
    · rw [List.length_set] at hi
      by_cases e : i = t
      · simp only [e, if_true] at hq
        rcases hq with hq | hq
        · exact .inl (.inr (.inr ⟨t, htl, .inl hq⟩))
        · rcases hib with e2 | e2
          · exact .inl (.inr (.inr ⟨t, htl, .inr (e2 ▸ hq)⟩))
          · exact .inr (e2 q hq)
      · simp only [if_neg e] at hq
        exact .inl (.inr (.inr ⟨i, hi, hq⟩))
  refine ⟨B, fun i j => if i = t ∧ j = x.is.length then m else A i j, fun i j => if i = t ∧ j = x.is.length then w.heap.size else Z i j, fun i hi => ?_, fun i hi q hq => ?_, fun i y hy j hj => ?_, fun i y hy j a d ha hd => ?_, hk.size⟩
  · rw [List.length_set] at hi
    obtain ⟨b1, b2, b3⟩ := h.b i hi
    exact ⟨b1, by omega, b3⟩
  · rw [List.length_set] at hi
    by_cases e : i = t
    · simp only [e, if_true] at hq ⊢
      rcases hq with hq | hq
      · exact h.r t htl q (.inl hq)
      · rcases hib with e2 | e2
        · exact h.r t htl q (.inr (e2 ▸ hq))
        · have := e2 q hq
          have := (h.b t htl).2.1
          omega
    · simp only [if_neg e] at hq
      exact h.r i hi q hq
  · by_cases e : i = t
    · subst e
      rw [set_at htl hy, his, List.length_append, List.length_singleton] at hj
      by_cases e2 : j = x.is.length
      · simp only [e2, and_self, if_true]
        refine ⟨(h.b i htl).2.1, Nat.le_refl _, fun j' hj' => ?_, fun i' h1 h2 => by rw [List.length_set] at h2; omega⟩
        rw [if_neg (by omega)]
        exact (h.o i x hx j' (by omega)).2.1
      · obtain ⟨o1, o2, o3, o4⟩ := h.o i x hx j (by omega)
        rw [if_neg (by omega), if_neg (by omega)]
        refine ⟨o1, by omega, fun j' hj' => ?_, fun i' h1 h2 => by rw [List.length_set] at h2; omega⟩
        rw [if_neg (by omega)]
        exact o3 j' hj'
    · rw [List.getElem?_set_ne (fun e2 => e e2.symm)] at hy
      obtain ⟨o1, o2, o3, o4⟩ := h.o i y hy j hj
      rw [if_neg (fun e2 => e e2.1), if_neg (fun e2 => e e2.1)]
      refine ⟨o1, by omega, fun j' hj' => ?_, fun i' h1 h2 => o4 i' h1 (by rw [List.length_set] at h2; exact h2)⟩
      rw [if_neg (fun e2 => e e2.1)]
      exact o3 j' hj'
  · by_cases e : i = t
    · subst e
      rw [set_at htl hy, his] at ha
      simp only [if_true] at hd
      by_cases e2 : j = x.is.length
      · subst e2
        rw [List.getElem?_append_right (Nat.le_refl _), Nat.sub_self] at ha
        rw [List.getElem?_append_right (by omega), hL, Nat.sub_self] at hd
        simp at ha hd
        subst ha
        subst hd
        simp only [and_self, if_true]
        exact nos_live hn (Nat.le_refl _) hkL hT
      · have hjl := (List.getElem?_eq_some_iff.1 ha).1
        rw [List.length_append, List.length_singleton] at hjl
        rw [List.getElem?_append_left (by omega)] at ha
        rw [List.getElem?_append_left (by omega)] at hd
        simp only [e2, and_false, if_false]
        exact nos_live (h.n i x hx j a d ha hd) (Nat.le_trans (h.o i x hx j (by omega)).2.1 hz) hkL hT
    · rw [List.getElem?_set_ne (fun e2 => e e2.symm)] at hy
      simp only [if_neg e] at hd
      have hjl := (List.getElem?_eq_some_iff.1 ha).1
      simp only [e, false_and, if_false]
      exact nos_live (h.n i y hy j a d ha hd) (Nat.le_trans (h.o i y hy j hjl).2.1 hz) hkL hT
/-- The innermost one is whole: its tree has blocks of its own. -/
theorem Ow8.pop {w : World} {lo : Nat} {M : Nat → Prop} {q : List Nst} {x : Nst} {C : List (Array Value)} {K I : Nat → Value} {L : Nat → List (Array Value)} {m g cap : Nat} (hO : Opn w lo M (.slice (some ⟨g, 0, none⟩) (q.length + 1) cap) (q ++ [x]) C K I L) (h : Ow8 w lo M (.slice (some ⟨g, 0, none⟩) (q.length + 1) cap) (q ++ [x]) K I L m) :
    ∃ m', Ow8 w lo M (.slice (some ⟨g, 0, none⟩) q.length cap) q K I L m' ∧ Nos w lo (fun r => m' ≤ r ∧ r < w.heap.size ∧ ¬ Lvs M (.slice (some ⟨g, 0, none⟩) q.length cap) q.length K I r) x.val (vcs x.val (.slice none 0 0) (K q.length) (I q.length)) := by
  obtain ⟨B, A, Z, h⟩ := h
  have hlen : (q ++ [x]).length = q.length + 1 := by simp
  have hz := h.z
  have hxt : (q ++ [x])[q.length]? = some x := by simp
  have hqt : q.length < (q ++ [x]).length := by omega
  have hsub : ∀ p, Lvs M (.slice (some ⟨g, 0, none⟩) q.length cap) q.length K I p → Lvs M (.slice (some ⟨g, 0, none⟩) (q.length + 1) cap) (q ++ [x]).length K I p := fun p hp => by
    rcases hp with hp | hp | ⟨i, hi, hp⟩
    · exact .inl hp
    · exact .inr (.inl hp)
    · exact .inr (.inr ⟨i, by rw [hlen]; omega, hp⟩)
  have hno : ∀ p, (K q.length).ownBlock = some p ∨ (I q.length).ownBlock = some p → ¬ Lvs M (.slice (some ⟨g, 0, none⟩) q.length cap) q.length K I p := fun p hp hl => by
    obtain ⟨d1, d2, d3⟩ := hO.d q.length hqt p hp
    rcases hl with hl | hl | ⟨i, hi, hl⟩
    · exact d1 hl
    · exact d2 hl
    · have h9 := d3 i (by rw [hlen]; omega) (by omega)
      rcases hl with hl | hl
      · exact h9.1 hl
      · exact h9.2 hl
  have hin : ∀ {i : Nat} {y : Nst}, q[i]? = some y → (q ++ [x])[i]? = some y := fun {i y} hy => by rw [List.getElem?_append_left (List.getElem?_eq_some_iff.1 hy).1]; exact hy
  refine ⟨B q.length, ⟨B, A, Z, fun i hi => ?_, fun i hi r hr => h.r i (by omega) r hr, fun i y hy j hj => ?_, fun i y hy j u c hu hc => ?_, Nat.le_trans (h.b q.length hqt).2.1 hz⟩, ?_⟩
  · obtain ⟨b1, b2, b3⟩ := h.b i (by omega)
    exact ⟨b1, (h.b q.length hqt).2.2 i hi, b3⟩
  · have hi := (List.getElem?_eq_some_iff.1 hy).1
    obtain ⟨o1, o2, o3, o4⟩ := h.o i y (hin hy) j hj
    exact ⟨o1, o4 q.length hi hqt, o3, fun i' h1 h2 => o4 i' h1 (by omega)⟩
  · exact (h.n i y (hin hy) j u c hu hc).mono (Nat.le_refl _) (fun r e => ⟨e.1, e.2.1, fun hl => e.2.2 (hsub r hl)⟩)
  · obtain ⟨a1, a2, a3, a4, a5, a6, a7, a8, a9⟩ := hO.e q.length x hxt
    have hrow : ∀ p, (K q.length).ownBlock = some p ∨ (I q.length).ownBlock = some p → B q.length ≤ p ∧ p < w.heap.size ∧ ¬ Lvs M (.slice (some ⟨g, 0, none⟩) q.length cap) q.length K I p := fun p hp => by
      refine ⟨h.r q.length hqt p hp, ?_, hno p hp⟩
      rcases hp with hp | hp
      · exact (a1.lt p hp).2
      · exact (a2.lt p hp).2
    have hone : ∀ c ∈ L q.length, one13 c := fun c hc => by
      obtain ⟨j, hj⟩ := List.getElem?_of_mem hc
      have hjl := (List.getElem?_eq_some_iff.1 hj).1
      have hu : x.is[j]? = some (x.is[j]'(by omega)) := List.getElem?_eq_getElem (by omega)
      exact (Nos.ntv (hi := w.heap.size) (h.n q.length x hxt j _ c hu hj) (fun r e => by have := (h.o q.length x hxt j (by omega)).2.1; omega)).one
    refine Nos.mk _ x.val (.slice none 0 0) (K q.length) (I q.length) (L q.length) (fun j r => A q.length j ≤ r ∧ r < Z q.length j ∧ ¬ Lvs M (.slice (some ⟨g, 0, none⟩) (q.length + 1) cap) (q ++ [x]).length K I r) (val_tbd x) (fun y hy => by cases hy) (World.ownsRow_nil _ _ _ _) a1 a4 a3 a2 a5 a6 hone (fun r e => by cases e) (fun r e => hrow r (.inl e)) (fun r e => hrow r (.inr e)) (fun j hj r e => ?_) (fun i j hij hj r e e2 => ?_) (fun j u c hu hc => h.n q.length x hxt j u c hu hc)
    · obtain ⟨o1, o2, o3, o4⟩ := h.o q.length x hxt j hj
      exact ⟨⟨by omega, by omega, fun hl => e.2.2 (hsub r hl)⟩, (fun e2 => by cases e2), fun e2 => e.2.2 (.inr (.inr ⟨q.length, hqt, .inl e2⟩)), fun e2 => e.2.2 (.inr (.inr ⟨q.length, hqt, .inr e2⟩))⟩
    · have := (h.o q.length x hxt j hj).2.2.1 i hij
      omega
end
section
open Go.RowKit Go
/-! ### The machine in memory -/
structure Mac (w : World) (lo M : Nat) (vB : Value) (b : List Nat) (d p : Nat) (vo : Value) (st : List Nst) (C : List (Array Value)) (K I : Nat → Value) (L : Nat → List (Array Value)) : Prop where
  m : w.heap[M]? = some (.cells #[vB, .int .i64 (p : Nat), .int .i64 (d : Nat), vo] 74 (0, 0))
  b : BSl w vB b
  q : ∀ q, vB.ownBlock = some q → q < lo ∧ q ≠ M
  o : Opn w lo (fun q => q < lo) vo st C K I L
  lm : M < lo
  l : lo ≤ w.heap.size
  y : ∃ m, Ow8 w lo (fun q => q < lo) vo st K I L m
/-- A tree in hand: in none of the blocks that are written to, with blocks of its own. -/
def Tio (w : World) (lo : Nat) (M : Nat → Prop) (vo : Value) (st : List Nst) (K I : Nat → Value) (L : Nat → List (Array Value)) (v : Tv) (c : Array Value) : Prop := Tis w (Lvs M vo st.length K I) v c ∧ ∃ m, Ow8 w lo M vo st K I L m ∧ Nos w lo (fun q => m ≤ q ∧ q < w.heap.size ∧ ¬ Lvs M vo st.length K I q) v c
theorem Tio.kp {w w' : World} {lo : Nat} {M : Nat → Prop} {vo : Value} {st : List Nst} {K I : Nat → Value} {L : Nat → List (Array Value)} {v : Tv} {c : Array Value} (h : Tio w lo M vo st K I L v c) (hk : Kp M w w') : Tio w' lo M vo st K I L v c := by
  obtain ⟨h1, m, h2, h3⟩ := h
  exact ⟨h1.kp (hk.mono (fun _ _ e => .inl e)), m, h2.kp hk, (h3.kp hk (fun q e hM => e.2.2 (.inl hM))).mono (Nat.le_refl _) (fun q e => ⟨e.1, Nat.lt_of_lt_of_le e.2.1 hk.size, e.2.2⟩)⟩
theorem Tio.next {w w' : World} {lo : Nat} {M : Nat → Prop} {vo : Value} {st : List Nst} {K I : Nat → Value} {L : Nat → List (Array Value)} {v : Tv} {c : Array Value} (h : Tio w lo M vo st K I L v c) (hb : Below w.heap.size w w') : Tio w' lo M vo st K I L v c := h.kp (Kp.of_below hb)
theorem infoN_ex : ∃ i, Tryz.prog.info? 95 = some i ∧ i.zero = some (.agg (ncs ⟨0, [], [], 0⟩ (.slice none 0 0) (.slice none 0 0))) ∧ i.size = 14 ∧ i.bytes = 168 := by
  have h : (Tryz.prog.info? 95).map (fun i => (i.size, i.bytes)) = some (14, 168) := by kernel_rfl
  have h2 : (Tryz.prog.info? 95).bind (fun i => i.zero) = some (.agg (ncs ⟨0, [], [], 0⟩ (.slice none 0 0) (.slice none 0 0))) := by kernel_rfl
  cases hi : Tryz.prog.info? 95 with
  | none => rw [hi] at h; cases h
  | some i =>
    rw [hi] at h h2
    simp at h h2
    exact ⟨i, rfl, h2, h.1, h.2⟩
set_option maxRecDepth 1000000 in
theorem top_any (w : World) (M g n cap : Nat) (vB vp vd : Value) (hm : w.heap[M]? = some (.cells #[vB, vp, vd, .slice (some ⟨g, 0, none⟩) n cap] 74 (0, 0))) (hn : 0 < n) (hn2 : n ≤ 100000000) :
    Calls Tryz.prog 57 #[.pointer (some ⟨M, 0, none⟩)] w fun e w' => e = .returned (.pointer (some ⟨g, (n - 1) * 14, none⟩)) ∧ Below w.heap.size w w' ∧ w'.heap = w.heap := by
  have HMM := hide hm
  have HW1 : Hid (IntKind.i64.wrap ((n : Int) - 1) = ((n - 1 : Nat) : Int)) := by show _ = _; rw [IntKind.wrap_i64]; omega
  have HL1 : Hid ((((n - 1 : Nat) : Int) < (n : Int)) ∧ (0 : Int) ≤ ((n - 1 : Nat) : Int)) := ⟨by omega, by omega⟩
  clear hm
  go_enter Tryz.func57, Tryz.ntmps57
  go_upto_region 1 with fail
  refine heldStart (S := fun wy => wy.heap[M]? = some (.cells #[vB, vp, vd, .slice (some ⟨g, 0, none⟩) n cap] 74 (0, 0))) (by kernel_rfl) ?_
  have hS : w.drew.heap[M]? = some (.cells #[vB, vp, vd, .slice (some ⟨g, 0, none⟩) n cap] 74 (0, 0)) := HMM.out
  refine heldTake 0 _ rfl (by kernel_rfl) (by kernel_rfl) (by kernel_rfl) (fun _ _ _ h => h) rfl hS (fun wy hy => by first | (go_simp; done) | (go_simp; rfl) | rfl) ?_
  (try simp only [Act.put]); (try simp only [List.setIfInBounds_toArray, List.set_cons_zero, List.set_cons_succ])
  refine heldTake 1 _ rfl (by kernel_rfl) (by kernel_rfl) (by kernel_rfl) (fun _ _ _ h => h) rfl hS (fun wy hy => by first | (go_simp; done) | (go_simp; rfl) | rfl) ?_
  (try simp only [Act.put]); (try simp only [List.setIfInBounds_toArray, List.set_cons_zero, List.set_cons_succ])
  refine heldTake 2 _ rfl (by kernel_rfl) (by kernel_rfl) (by kernel_rfl) (fun _ _ _ h => h) rfl hS (fun wy hy => by first | (go_simp; done) | (go_simp; rfl) | rfl) ?_
  (try simp only [Act.put]); (try simp only [List.setIfInBounds_toArray, List.set_cons_zero, List.set_cons_succ])
  refine heldTake 3 _ rfl (by kernel_rfl) (by kernel_rfl) (by kernel_rfl) (fun _ _ _ h => h) rfl hS (fun wy hy => by have h0 := blk_cell (j := 3) (v := .slice (some ⟨g, 0, none⟩) n cap) hy rfl; first | (go_simp; done) | (go_simp; rfl) | rfl) ?_
  (try simp only [Act.put]); (try simp only [List.setIfInBounds_toArray, List.set_cons_zero, List.set_cons_succ])
  refine heldTake 4 _ rfl (by kernel_rfl) (by kernel_rfl) (by kernel_rfl) (fun _ _ _ h => h) rfl hS (fun wy hy => by first | (go_simp; done) | (go_simp; rfl) | rfl) ?_
  (try simp only [Act.put]); (try simp only [List.setIfInBounds_toArray, List.set_cons_zero, List.set_cons_succ])
  refine heldTake 5 _ rfl (by kernel_rfl) (by kernel_rfl) (by kernel_rfl) (fun _ _ _ h => h) rfl hS (fun wy hy => by first | (go_simp; done) | (go_simp; rfl) | rfl) ?_
  (try simp only [Act.put]); (try simp only [List.setIfInBounds_toArray, List.set_cons_zero, List.set_cons_succ])
  refine heldTake 6 _ rfl (by kernel_rfl) (by kernel_rfl) (by kernel_rfl) (fun _ _ _ h => h) rfl hS (fun wy hy => by first | (go_simp; done) | (go_simp; rfl) | rfl) ?_
  (try simp only [Act.put]); (try simp only [List.setIfInBounds_toArray, List.set_cons_zero, List.set_cons_succ])
  refine heldTake 7 _ rfl (by kernel_rfl) (by kernel_rfl) (by kernel_rfl) (fun _ _ _ h => h) rfl hS (fun wy hy => by have h0 := blk_cell (j := 3) (v := .slice (some ⟨g, 0, none⟩) n cap) hy rfl; first | (go_simp; done) | (go_simp; rfl) | rfl) ?_
  (try simp only [Act.put]); (try simp only [List.setIfInBounds_toArray, List.set_cons_zero, List.set_cons_succ])
  refine heldTake 8 _ rfl (by kernel_rfl) (by kernel_rfl) (by kernel_rfl) (fun _ _ _ h => h) rfl hS (fun wy hy => by first | (go_simp; done) | (go_simp; rfl) | rfl) ?_
  (try simp only [Act.put]); (try simp only [List.setIfInBounds_toArray, List.set_cons_zero, List.set_cons_succ])
  refine heldTake 9 (.int .i64 ((n - 1 : Nat) : Int)) rfl (by kernel_rfl) (by kernel_rfl) (by kernel_rfl) (fun _ _ _ h => h) rfl hS (fun wy hy => by have h0 := HW1.out; first | (go_simp; done) | (go_simp; rw [h0])) ?_
  refine heldTake 10 (.pointer (some ⟨g, (n - 1) * 14, none⟩)) rfl (by kernel_rfl) (by kernel_rfl) (by kernel_rfl) (fun _ _ _ h => h) rfl hS (fun wy hy => by have h0 := HL1.out.1; have h1 := HL1.out.2; first | (go_simp; done) | (go_simp; rfl) | (go_simp; omega)) ?_
  refine heldTake 11 _ rfl (by kernel_rfl) (by kernel_rfl) (by kernel_rfl) (fun _ _ _ h => h) rfl hS (fun wy hy => by first | (go_simp; done) | (go_simp; rfl) | rfl) ?_
  (try simp only [Act.put]); (try simp only [List.setIfInBounds_toArray, List.set_cons_zero, List.set_cons_succ])
  refine heldDone (by kernel_rfl) ?_
  clear hS
  go_wp2_with fail
  go_ret
  exact ⟨rfl, by refine Below.drew ?_; exact Below.refl _ _, rfl⟩
end
section
open Go.RowKit Go
def one14 (c : Array Value) : Prop := c.size = 14 ∧ ∀ u ∈ c.toList, u.oneCell' = true
theorem fill_one14 (c cells : Array Value) (h : c.size = 14) (hc : cells.size = 14) : Instr.fill (fun i => some (i * 14, 14)) cells [(0, .agg c)] = some c := by
  obtain ⟨r, hr, hsz, hk⟩ := Great.fill_dense (s := 14) (by decide) [.agg c] 0 cells (by
    intro v hv
    simp only [List.mem_singleton] at hv
    subst hv
    simpa [Value.cells] using h) (by simp; omega)
  have e : r = c := by
    apply Array.ext_getElem?
    intro k
    rw [hk k]
    by_cases h1 : k < 14
    · rw [if_pos ⟨by omega, by simp; omega⟩]
      simp [Value.cells, Nat.div_eq_of_lt h1, Nat.mod_eq_of_lt h1]
    · rw [if_neg (by simp; omega), Array.getElem?_eq_none (by omega), Array.getElem?_eq_none (by omega)]
  rw [e] at hr
  exact hr
theorem wpList_nest1 {ops : Array Oper} {rest : List Oper} {o : Oper} {a : Act} {w : World} {Q : Exit → Act → World → Prop} {x0 : Operand} (hg : o.guard = none) (ho : o.op = .buildSlice 72 1 #[(0, x0)]) (c : Array Value) (hc : c.size = 14)
    (h0 : a.eval x0 = .agg c)
    (h : wpList Tryz.prog ops Q rest (a.put o.dst (.slice (some ⟨w.heap.size, 0, none⟩) 1 1)) (w.alloc (.cells c 95))) : wpList Tryz.prog ops Q (o :: rest) a w := by
  obtain ⟨i, hi, hz, hs, _⟩ := infoN_ex
  refine wpList_buildSlice hg 72 95 1 _ ho c i _ Tryz.underlying72 hi hz (by rw [hs]; decide) (by rw [hs]; decide) ?_ h
  rw [hs]
  have e : ((#[(0, x0)] : Array (Nat × Operand)).map fun (i, x) => (i, a.eval x)).toList = [(0, .agg c)] := by simp [h0]
  rw [e]
  exact fill_one14 c _ hc (by simp)
/-- append of one value. -/
theorem append_nest {ops : Array Oper} {rest : List Oper} {o : Oper} {a : Act} {Q : Exit → Act → World → Prop} {w : World} (hgd : o.guard = none) (s x : Operand)
    (ho : o.op = .call { callee := .builtin .append, args := #[s, x], argTypes := #[72, 72] }) (B : Nat) (v : Value) (n : Nat) (ds : List Value) (hs : a.eval s = v) (hown : w.ownsRow B 95 14 v n ds)
    (g : Nat) (c : Array Value) (h14 : one14 c) (hx : a.eval x = .slice (some ⟨g, 0, none⟩) 1 1) (hg : w.heap[g]? = some (.cells c 95 (0, 0))) (hlen : n < 109951162) (hbase : B ≤ w.heap.size)
    (h : ∀ v' w', w'.ownsRow B 95 14 v' (n + 1) (ds ++ c.toList) → w.grownBy w' v.ownBlock → (v'.ownBlock = v.ownBlock ∨ v'.ownBlock = some w.heap.size) → wpList Tryz.prog ops Q rest (a.put o.dst v') w') : wpList Tryz.prog ops Q (o :: rest) a w := by
  obtain ⟨i, hi, hz0, hz1, hz2⟩ := infoN_ex
  refine wpList_append_own_at w hgd s x 72 ho B 95 i _ 14 168 Tryz.underlying72 hi hz0 hz1 hz2 rfl (by decide) v n ds hs hown ⟨g, 0, none⟩ 1 1 c.toList hx (by rw [Array.length_toList, h14.1]) (fun j u hu => ?_) h14.2 (by unfold maxLen; omega) (by omega) hbase fun v' w' h1 h2 _ h4 => h v' w' h1 h2 ?_
  · have hadd : (⟨g, 0, none⟩ : Addr).add j = ⟨g, j, none⟩ := by unfold Addr.add; split <;> simp_all
    rw [hadd]
    exact blk_cell hg (by simpa using hu)
  · exact h4
theorem ncs_one (x : Nst) {vk vi : Value} (h1 : vk.oneCell' = true) (h2 : vi.oneCell' = true) : one14 (ncs x vk vi) := by
  refine ⟨rfl, fun u hu => ?_⟩
  simp only [ncs, vcs, Array.push] at hu
  simp at hu
  rcases hu with rfl | rfl | rfl | rfl | rfl | rfl | rfl | rfl | rfl | rfl | rfl | rfl | rfl | rfl <;> first | rfl | exact h1 | exact h2
/-- A cell of the machine is written. -/
theorem Mac.set {w : World} {lo M : Nat} {vB : Value} {b : List Nat} {d p : Nat} {vo : Value} {st : List Nst} {C : List (Array Value)} {K I : Nat → Value} {L : Nat → List (Array Value)} (h : Mac w lo M vB b d p vo st C K I L) (p' : Nat) : Mac (w.setCell ⟨M, 1, none⟩ (.int .i64 (p' : Nat))) lo M vB b d p' vo st C K I L := by
  have hk : Kp (fun q => q = M) w (w.setCell ⟨M, 1, none⟩ (.int .i64 (p' : Nat))) := (Kp.refl _ w).setCell _ _ (fun _ => rfl)
  exact ⟨blk_set 1 _ h.m, hk.bsl h.b (fun q hq e => (h.q q hq).2 e), h.q, h.o.kp (hk.mono (fun q _ e => by have := h.lm; show q < lo; omega)), h.lm, Nat.le_trans h.l hk.size, by obtain ⟨m, h2⟩ := h.y; exact ⟨m, h2.kp (hk.mono (fun q _ e => by have := h.lm; show q < lo; omega))⟩⟩
theorem Mac.next {w w' : World} {lo M : Nat} {vB : Value} {b : List Nat} {d p : Nat} {vo : Value} {st : List Nst} {C : List (Array Value)} {K I : Nat → Value} {L : Nat → List (Array Value)} (h : Mac w lo M vB b d p vo st C K I L) (hb : Below w.heap.size w w') : Mac w' lo M vB b d p vo st C K I L :=
  ⟨(hb.block _ (blk_lt h.m)).trans h.m, h.b.move (keep_below hb), h.q, h.o.next hb, h.lm, Nat.le_trans h.l hb.size, by obtain ⟨m, h2⟩ := h.y; exact ⟨m, h2.next hb⟩⟩
set_option maxRecDepth 1000000 in
set_option maxHeartbeats 1000000 in
theorem begin8_any (w : World) (lo M : Nat) (vB : Value) (b : List Nat) (d p : Nat) (vo : Value) (st : List Nst) (C : List (Array Value)) (K I : Nat → Value) (L : Nat → List (Array Value)) (h : Mac w lo M vB b d p vo st C K I L) (hst : st.length ≤ 100000) (k : Int) (n : Nat) (hn : n < 18446744073709551616) :
    Calls Tryz.prog 54 #[.pointer (some ⟨M, 0, none⟩), .int .i64 k, .int .u64 (n : Nat)] w fun e w' => e = .returned (.tuple #[]) ∧ Kp (fun q => q = M ∨ lo ≤ q) w w' ∧ ∃ vo' C' K' I' L', Mac w' lo M vB b d p vo' (st ++ [⟨k, [], [], n⟩]) C' K' I' L' := by
  have HMC := hide h
  obtain ⟨ao, co, hvo⟩ := own_slice8 h.o.o
  subst hvo
  have c3 : w.cell? ⟨M, 3, none⟩ = some (.slice ao st.length co) := blk_cell (j := 3) h.m rfl
  have HOW := hide (h.o.o.alloc (.cells (ncs ⟨k, [], [], n⟩ (.slice none 0 0) (.slice none 0 0)) 95))
  have HGA := hide (heap_alloc_new w (.cells (ncs ⟨k, [], [], n⟩ (.slice none 0 0) (.slice none 0 0)) 95))
  have HO1 := hide (ncs_one ⟨k, [], [], n⟩ (vk := .slice none 0 0) (vi := .slice none 0 0) rfl rfl)
  have HLB : Hid (lo ≤ (w.alloc (.cells (ncs ⟨k, [], [], n⟩ (.slice none 0 0) (.slice none 0 0)) 95)).heap.size) := by
    have h1 := h.l
    have h2 := h.o.mz M h.lm
    show _ ≤ _
    simp
    omega
  clear h
  go_enter Tryz.func54, Tryz.ntmps54
  go_wp2_with (first
    | (refine wpList_nest1 rfl rfl (ncs ⟨k, [], [], n⟩ (.slice none 0 0) (.slice none 0 0)) rfl rfl ?_)
    | (at_builtin; refine append_nest rfl _ _ rfl lo _ st.length (vfl C) rfl HOW.out w.heap.size (ncs ⟨k, [], [], n⟩ (.slice none 0 0) (.slice none 0 0)) HO1.out rfl HGA.out (by omega) HLB.out ?_))
  intro v7 w7 ho7 hg7 hv7
  obtain ⟨a7, c7, hs7⟩ := own_slice8 ho7
  subst hs7
  have hbA := below_alloc4 w (.cells (ncs ⟨k, [], [], n⟩ (.slice none 0 0) (.slice none 0 0)) 95)
  have hMA := HMC.out.next hbA
  have hk7 : Kp (fun q => (Value.slice ao st.length co).ownBlock = some q) (w.alloc (.cells (ncs ⟨k, [], [], n⟩ (.slice none 0 0) (.slice none 0 0)) 95)) w7 := (Kp.refl _ _).grown hg7 (fun _ _ h => h)
  have hO7 := hMA.o.push hn rfl ho7 hg7 (by simpa using hv7)
  have hm7 : w7.heap[M]? = some (.cells #[vB, .int .i64 (p : Nat), .int .i64 (d : Nat), .slice ao st.length co] 74 (0, 0)) := (hk7.block _ (blk_lt hMA.m) (hMA.o.m M hMA.lm)).trans hMA.m
  have c7' : w7.cell? ⟨M, 3, none⟩ = some (.slice ao st.length co) := blk_cell (j := 3) hm7 rfl
  have f7 := blk_frozen 3 hm7
  have hkS : Kp (fun q => q = M) w7 (w7.setCell ⟨M, 3, none⟩ (.slice a7 (st.length + 1) c7)) := (Kp.refl _ w7).setCell _ _ (fun _ => rfl)
  have HM8 : Hid (Mac (w7.setCell ⟨M, 3, none⟩ (.slice a7 (st.length + 1) c7)) lo M vB b d p (.slice a7 (st.length + 1) c7) (st ++ [⟨k, [], [], n⟩]) _ _ _ _) := ⟨blk_set 3 _ hm7, hkS.bsl (hk7.bsl hMA.b (fun q hq e => by have := hMA.q q hq; have := (HOW.out.lt q e).1; omega)) (fun q hq e => (hMA.q q hq).2 e), hMA.q, hO7.kp (hkS.mono (fun q _ e => by have := hMA.lm; show q < lo; omega)), hMA.lm, Nat.le_trans (Nat.le_trans hMA.l hk7.size) hkS.size, by obtain ⟨m, h2⟩ := hMA.y; exact ⟨_, (h2.push hMA.l hg7 (by simpa using hv7)).kp (hkS.mono (fun q _ e => by have := hMA.lm; show q < lo; omega))⟩⟩
  have HK8 : Hid (Kp (fun q => q = M ∨ lo ≤ q) w (w7.setCell ⟨M, 3, none⟩ (.slice a7 (st.length + 1) c7))) := ((Kp.of_below hbA).trans hk7 (fun q _ e => .inr (HOW.out.lt q e).1)).trans hkS (fun q _ e => .inl e)
  clear ho7 hg7 hv7 hk7 hO7 hm7 hMA hbA hkS c3
  go_wp2_with fail
  go_end0
  exact ⟨rfl, HK8.out, _, _, _, _, _, HM8.out⟩
end
section
open Go.RowKit Go
theorem vfl_set : ∀ {L : List (Array Value)}, (∀ c ∈ L, c.size = 13) → ∀ (j : Nat) (c' : Array Value), j < L.length → c'.size = 13 → ∀ (X : List Value), (splice (vfl L ++ X) (j * 13) c'.toList).take (L.length * 13) = vfl (L.set j c')
  | [], _, j, _, h, _, _ => by simp at h
  | c :: r, hL, 0, c', _, hc, X => by
    have h1 : c.size = 13 := hL c (List.mem_cons_self ..)
    have e1 : vfl (c :: r) = c.toList ++ vfl r := by simp [vfl]
    have e2 : vfl ((c :: r).set 0 c') = c'.toList ++ vfl r := by simp [vfl]
    have h2 := vfl_len (l := r) (fun d hd => hL d (List.mem_cons_of_mem _ hd))
    rw [e1, e2]
    unfold splice
    have l1 : c.toList.length = 13 := by simpa using h1
    have l2 : c'.toList.length = 13 := by simpa using hc
    rw [Nat.zero_mul, List.take_zero, List.nil_append, Nat.zero_add, l2, List.append_assoc, List.drop_append_of_le_length (by omega), List.drop_of_length_le (by omega), List.nil_append, List.length_cons, List.take_append, l2, List.take_of_length_le (by omega)]
    congr 1
    rw [show (r.length + 1) * 13 - 13 = (vfl r).length by omega, List.take_append_of_le_length (by omega), List.take_length]
  | c :: r, hL, j + 1, c', hj, hc, X => by
    have h1 : c.size = 13 := hL c (List.mem_cons_self ..)
    have ih := vfl_set (L := r) (fun d hd => hL d (List.mem_cons_of_mem _ hd)) j c' (by simpa using hj) hc X
    have e1 : vfl (c :: r) = c.toList ++ vfl r := by simp [vfl]
    have e2 : vfl ((c :: r).set (j + 1) c') = c.toList ++ vfl (r.set j c') := by simp [vfl]
    have l1 : c.toList.length = 13 := by simpa using h1
    have l2 : c'.toList.length = 13 := by simpa using hc
    have h2 := vfl_len (l := r) (fun d hd => hL d (List.mem_cons_of_mem _ hd))
    have hsp : splice (c.toList ++ (vfl r ++ X)) ((j + 1) * 13) c'.toList = c.toList ++ splice (vfl r ++ X) (j * 13) c'.toList := by
      have hk : (j + 1) * 13 = c.toList.length + j * 13 := by omega
      unfold splice
      rw [hk, List.take_length_add_append, Nat.add_assoc, List.drop_length_add_append, List.append_assoc]
    rw [e1, e2, ← ih, List.append_assoc, hsp]
    have hk2 : (c :: r).length * 13 = c.toList.length + r.length * 13 := by rw [List.length_cons]; omega
    rw [hk2, List.take_length_add_append]
/-- One item of a row of values is written over. -/
theorem own_part {w w' : World} {B g n cap : Nat} {L : List (Array Value)} {cur : Array Value} {j : Nat} {c' : Array Value} (h : w.ownsRow B 61 13 (.slice (some ⟨g, 0, none⟩) n cap) n (vfl L)) (hL : L.length = n) (h13 : ∀ c ∈ L, c.size = 13) (hg : w.heap[g]? = some (.cells cur 61 (0, 0))) (hj : j < n) (hc : c'.size = 13)
    (hw : w'.heap[g]? = some (.cells (splice cur.toList (j * 13) c'.toList).toArray 61 (0, 0))) : w'.ownsRow B 61 13 (.slice (some ⟨g, 0, none⟩) n cap) n (vfl (L.set j c')) := by
  rcases h.2 with ⟨hv, _⟩ | ⟨g', cap', cur', hv, hb, hg', h1, h2, h3, h4⟩
  · cases hv
  injection hv with e1 e2 e3
  injection e1 with e1
  injection e1 with e1 _ _
  subst e1
  subst e3
  rw [hg'] at hg
  injection hg with hg
  injection hg with hg _ _
  subst hg
  have l13 := vfl_len h13
  have hlc : cur'.toList.length = cap * 13 := by simpa using h3
  have hcl : c'.toList.length = 13 := by simpa using hc
  have hs13 : ∀ c ∈ L.set j c', c.size = 13 := fun d hd => by
    rcases List.mem_or_eq_of_mem_set hd with e | e
    · exact h13 d e
    · rw [e]; exact hc
  refine ⟨by rw [vfl_len hs13, List.length_set, hL], .inr ⟨g, cap, _, rfl, hb, hw, h1, h2, ?_, ?_⟩⟩
  · rw [List.size_toArray, length_splice _ _ _ (by omega), hlc]
  · have e : cur'.toList = vfl L ++ cur'.toList.drop (n * 13) := by
      conv => lhs; rw [← List.take_append_drop (n * 13) cur'.toList, h4]
    rw [e, List.toList_toArray]
    have := vfl_set h13 j c' (by omega) hc (cur'.toList.drop (n * 13))
    rw [hL] at this
    exact this
end
section
open Go.RowKit Go
theorem vfl_len14 : ∀ {C : List (Array Value)}, (∀ d ∈ C, d.size = 14) → (vfl C).length = C.length * 14
  | [], _ => by simp [vfl]
  | a :: r, h => by
    have h1 := vfl_len14 (C := r) (fun d hd => h d (List.mem_cons_of_mem _ hd))
    have h2 := h a (List.mem_cons_self ..)
    have e : vfl (a :: r) = a.toList ++ vfl r := by simp [vfl]
    rw [e, List.length_append, h1, Array.length_toList, h2, List.length_cons]
    omega
theorem own_setn {w : World} {base e s g n cap j : Nat} {xs : List Value} (x : Value) (h : w.ownsRow base e s (.slice (some ⟨g, 0, none⟩) n cap) n xs) : (w.setCell ⟨g, j, none⟩ x).ownsRow base e s (.slice (some ⟨g, 0, none⟩) n cap) n (xs.set j x) := by
  refine ⟨by rw [List.length_set]; exact h.1, ?_⟩
  rcases h.2 with ⟨hv, _⟩ | ⟨g', cap', cur, hv, hb, hg, h1, h2, h3, h4⟩
  · cases hv
  injection hv with e1 e2 e3
  injection e1 with e1
  injection e1 with e1 _ _
  subst e1
  subst e3
  refine .inr ⟨g, cap, _, rfl, hb, blk_set j x hg, h1, h2, by simpa using h3, ?_⟩
  rw [← h4, Array.toList_setIfInBounds, List.take_set]
/-- A cell of the innermost nest is written. -/
theorem own_topset {w : World} {B e g cap j n : Nat} {C : List (Array Value)} {c : Array Value} (v : Value) (hs : ∀ d ∈ C, d.size = 14) (hn : C.length = n) (h : w.ownsRow B e 14 (.slice (some ⟨g, 0, none⟩) (n + 1) cap) (n + 1) (vfl (C ++ [c]))) : (w.setCell ⟨g, n * 14 + j, none⟩ v).ownsRow B e 14 (.slice (some ⟨g, 0, none⟩) (n + 1) cap) (n + 1) (vfl (C ++ [c.setIfInBounds j v])) := by
  have h1 := own_setn v h (j := n * 14 + j)
  have e1 : vfl (C ++ [c]) = vfl C ++ c.toList := by rw [vfl_app]; simp [vfl]
  have e2 : vfl (C ++ [c.setIfInBounds j v]) = vfl C ++ (c.setIfInBounds j v).toList := by rw [vfl_app]; simp [vfl]
  rw [e1, List.set_append_right _ _ (by rw [vfl_len14 hs, hn]; omega), vfl_len14 hs, hn, show n * 14 + j - n * 14 = j by omega] at h1
  rw [e2, Array.toList_setIfInBounds]
  exact h1
/-- The row of what is open, its innermost one last. -/
theorem Opn.row {w : World} {lo : Nat} {M : Nat → Prop} {v : Value} {q : List Nst} {x : Nst} {C : List (Array Value)} {K I : Nat → Value} {L : Nat → List (Array Value)} (h : Opn w lo M v (q ++ [x]) C K I L) :
    C = C.take q.length ++ [ncs x (K q.length) (I q.length)] ∧ (C.take q.length).length = q.length ∧ (∀ d ∈ C.take q.length, d.size = 14) ∧ ∃ g cap, v = .slice (some ⟨g, 0, none⟩) (q.length + 1) cap ∧ q.length + 1 ≤ cap ∧ lo ≤ g := by
  have hlen : (q ++ [x]).length = q.length + 1 := by simp
  have hcl : C.length = q.length + 1 := by rw [h.n, hlen]
  have hctop : C[q.length]? = some (ncs x (K q.length) (I q.length)) := h.c q.length x (by simp)
  refine ⟨?_, by rw [List.length_take]; omega, fun d hd => ?_, ?_⟩
  · refine List.ext_getElem? fun i => ?_
    by_cases hi : i < q.length
    · rw [List.getElem?_append_left (by rw [List.length_take]; omega), List.getElem?_take_of_lt hi]
    · by_cases hi2 : i = q.length
      · subst hi2
        rw [List.getElem?_append_right (by rw [List.length_take]; omega), List.length_take, Nat.min_eq_left (by omega), Nat.sub_self]
        exact hctop
      · rw [List.getElem?_eq_none (by omega), List.getElem?_eq_none (by rw [List.length_append, List.length_take, List.length_singleton]; omega)]
  · obtain ⟨i, hi⟩ := List.getElem?_of_mem hd
    have hil : i < q.length := by have := (List.getElem?_eq_some_iff.1 hi).1; rw [List.length_take] at this; omega
    rw [List.getElem?_take_of_lt hil] at hi
    have hx : (q ++ [x])[i]? = some q[i] := by rw [List.getElem?_append_left hil]; exact List.getElem?_eq_getElem hil
    rw [h.c i _ hx] at hi
    injection hi with hi
    rw [← hi]
    rfl
  · have ho := h.o
    rw [hlen] at ho
    rcases ho.2 with ⟨_, h0⟩ | ⟨g, cap, cur, hv, hb, _, h1, _⟩
    · omega
    · exact ⟨g, cap, hv, h1, hb⟩
theorem Opn.cell {w : World} {lo g cap : Nat} {M : Nat → Prop} {q : List Nst} {x : Nst} {C : List (Array Value)} {K I : Nat → Value} {L : Nat → List (Array Value)} (h : Opn w lo M (.slice (some ⟨g, 0, none⟩) (q.length + 1) cap) (q ++ [x]) C K I L) : (∀ j u, (ncs x (K q.length) (I q.length))[j]? = some u → w.cell? ⟨g, q.length * 14 + j, none⟩ = some u) ∧ ∃ cur, w.heap[g]? = some (.cells cur 95 (0, 0)) := by
  obtain ⟨hC, hl, hz, _⟩ := h.row
  have ho := h.o
  rw [show (q ++ [x]).length = q.length + 1 by simp] at ho
  constructor
  · intro j u hu
    have hj := (Array.getElem?_eq_some_iff.1 hu).1
    have e : (vfl C)[q.length * 14 + j]? = some u := by
      rw [hC, vfl_app, List.getElem?_append_right (by rw [vfl_len14 hz, hl]; omega), vfl_len14 hz, hl, show q.length * 14 + j - q.length * 14 = j by omega]
      have e3 : vfl [ncs x (K q.length) (I q.length)] = (ncs x (K q.length) (I q.length)).toList := by simp [vfl]
      rw [e3]
      simpa using hu
    have h1 := ho.cells (g := g) rfl (q.length * 14 + j) u e
    rw [addr_add, Nat.zero_add] at h1
    exact h1
  · rcases ho.2 with ⟨hv, _⟩ | ⟨g', cap', cur, hv, _, hg, _⟩
    · cases hv
    · injection hv with e1 _ _
      injection e1 with e1
      injection e1 with e1 _ _
      subst e1
      exact ⟨cur, hg⟩
/-- One key more. -/
theorem Opn.key {w w7 : World} {lo g cap : Nat} {M : Nat → Prop} {q : List Nst} {x : Nst} {C : List (Array Value)} {K I : Nat → Value} {L : Nat → List (Array Value)} (h : Opn w lo M (.slice (some ⟨g, 0, none⟩) (q.length + 1) cap) (q ++ [x]) C K I L) {vk' : Value} {s : ByteArray} (ho7 : w7.ownsRow lo 9 1 vk' (x.ks.length + 1) (sv (x.ks ++ [s]))) (hg7 : w.grownBy w7 (K q.length).ownBlock) (hv7 : vk'.ownBlock = (K q.length).ownBlock ∨ vk'.ownBlock = some w.heap.size) (hs : s.size ≤ 140737488351232) (hl : x.ks.length < 140737488351232) :
    Opn (w7.setCell ⟨g, q.length * 14 + 11, none⟩ vk') lo M (.slice (some ⟨g, 0, none⟩) (q.length + 1) cap) (q ++ [⟨x.k, x.ks ++ [s], x.is, x.n⟩]) (C.set q.length (ncs ⟨x.k, x.ks ++ [s], x.is, x.n⟩ vk' (I q.length))) (fun i => if i = q.length then vk' else K i) (fun i => if i = q.length then I q.length else I i) (fun i => if i = q.length then L q.length else L i) := by
  have hlen : (q ++ [x]).length = q.length + 1 := by simp
  obtain ⟨hC, hCl, hCz, g', cap', hv', _, hlg⟩ := h.row
  have hx := h.e q.length x (by simp)
  have ht : q.length < (q ++ [x]).length := by omega
  have hk7 : Kp (fun p => (K q.length).ownBlock = some p) w w7 := (Kp.refl _ _).grown hg7 (fun _ _ h => h)
  have hkS : Kp (fun p => p = g) w7 (w7.setCell ⟨g, q.length * 14 + 11, none⟩ vk') := (Kp.refl _ w7).setCell _ _ (fun _ => rfl)
  have hgv : (Value.slice (some ⟨g, 0, none⟩) (q.length + 1) cap).ownBlock = some g := rfl
  have hgs : g < w.heap.size := (h.o.lt g hgv).2
  have hset : (q ++ [x]).set q.length ⟨x.k, x.ks ++ [s], x.is, x.n⟩ = q ++ [⟨x.k, x.ks ++ [s], x.is, x.n⟩] := by
    rw [List.set_append_right _ _ (Nat.le_refl _), Nat.sub_self]
    rfl
  have hCs : C.set q.length (ncs ⟨x.k, x.ks ++ [s], x.is, x.n⟩ vk' (I q.length)) = C.take q.length ++ [ncs ⟨x.k, x.ks ++ [s], x.is, x.n⟩ vk' (I q.length)] := by
    conv => lhs; rw [hC]
    rw [List.set_append_right _ _ (by rw [hCl]; exact Nat.le_refl _), hCl, Nat.sub_self]
    rfl
  have hnk : ∀ p, vk'.ownBlock = some p → p ≠ g := fun p hp e => by
    subst e
    rcases hv7 with e1 | e1
    · exact (h.d q.length ht p (.inl (e1 ▸ hp))).2.1 rfl
    · rw [e1] at hp
      injection hp with hp
      omega
  have hrow := h.o
  rw [hlen, hC] at hrow
  have hrow2 := hk7.owns hrow (fun p hp e => (h.d q.length ht p (.inl e)).2.1 hp)
  have hrow3 := own_topset (j := 11) vk' hCz hCl hrow2
  have hupd := h.upd (w' := w7.setCell ⟨g, q.length * 14 + 11, none⟩ vk') ht (x' := ⟨x.k, x.ks ++ [s], x.is, x.n⟩) (vk' := vk') (vi' := I q.length) (L' := L q.length)
    ((hk7.mono (fun p _ e => .inr (.inl e))).trans hkS (fun p _ e => .inl (by rw [e]; rfl))) (by rw [hlen, hCs]; exact hrow3)
    (by have e : (x.ks ++ [s]).length = x.ks.length + 1 := by simp
        show World.ownsRow _ _ _ _ _ (x.ks ++ [s]).length _
        rw [e]
        exact hkS.owns ho7 (fun p hp e => hnk p hp e))
    (by rcases hv7 with e | e
        · exact .inl e
        · exact .inr (fun p hp => by rw [e] at hp; injection hp with hp; omega))
    (hkS.owns (hk7.owns hx.i (fun p hp e => h.dd q.length ht p e hp)) (fun p hp e => (h.d q.length ht p (.inr hp)).2.1 (by rw [e]; rfl))) (.inl rfl)
    (fun p hp e => by
      rcases hv7 with e1 | e1
      · exact h.dd q.length ht p (e1 ▸ hp) e
      · rw [e1] at hp
        injection hp with hp
        have := (hx.i.lt p e).2
        omega)
    (fun z hz => by
      rcases List.mem_append.1 hz with h1 | h1
      · exact hx.kz z h1
      · simp only [List.mem_singleton] at h1
        rw [h1]; exact hs)
    (by show (x.ks ++ [s]).length ≤ _; simp; omega) hx.il hx.n hx.s hx.z hx.t
  rw [hset] at hupd
  exact hupd
/-- One item more. -/
theorem Opn.item {w w7 : World} {lo g cap : Nat} {M : Nat → Prop} {q : List Nst} {x : Nst} {C : List (Array Value)} {K I : Nat → Value} {L : Nat → List (Array Value)} (h : Opn w lo M (.slice (some ⟨g, 0, none⟩) (q.length + 1) cap) (q ++ [x]) C K I L) {vi' : Value} {u : Tv} {c : Array Value} (hc : c.size = 13) (hu : Tis w (Lvs M (.slice (some ⟨g, 0, none⟩) (q.length + 1) cap) (q ++ [x]).length K I) u c)
    (ho7 : w7.ownsRow lo 61 13 vi' (x.is.length + 1) (vfl (L q.length ++ [c]))) (hg7 : Kp (fun p => (I q.length).ownBlock = some p) w w7) (hv7 : vi'.ownBlock = (I q.length).ownBlock ∨ ∀ p, vi'.ownBlock = some p → w.heap.size ≤ p) (hl : x.is.length < 140737488351232) (m : Nat) (hm : m < 18446744073709551616) :
    Opn ((w7.setCell ⟨g, q.length * 14 + 12, none⟩ vi').setCell ⟨g, q.length * 14 + 13, none⟩ (.int .u64 (m : Nat))) lo M (.slice (some ⟨g, 0, none⟩) (q.length + 1) cap) (q ++ [⟨x.k, x.ks, x.is ++ [u], m⟩]) (C.set q.length (ncs ⟨x.k, x.ks, x.is ++ [u], m⟩ (K q.length) vi')) (fun i => if i = q.length then K q.length else K i) (fun i => if i = q.length then vi' else I i) (fun i => if i = q.length then L q.length ++ [c] else L i) := by
  have hlen : (q ++ [x]).length = q.length + 1 := by simp
  obtain ⟨hC, hCl, hCz, g', cap', hv', _, hlg⟩ := h.row
  have hx := h.e q.length x (by simp)
  have ht : q.length < (q ++ [x]).length := by omega
  have hkS : Kp (fun p => p = g) w7 ((w7.setCell ⟨g, q.length * 14 + 12, none⟩ vi').setCell ⟨g, q.length * 14 + 13, none⟩ (.int .u64 (m : Nat))) := ((Kp.refl (fun p => p = g) w7).setCell ⟨g, q.length * 14 + 12, none⟩ vi' (fun _ => rfl)).setCell ⟨g, q.length * 14 + 13, none⟩ (.int .u64 (m : Nat)) (fun _ => rfl)
  have hgv : (Value.slice (some ⟨g, 0, none⟩) (q.length + 1) cap).ownBlock = some g := rfl
  have hgs : g < w.heap.size := (h.o.lt g hgv).2
  have hset : (q ++ [x]).set q.length ⟨x.k, x.ks, x.is ++ [u], m⟩ = q ++ [⟨x.k, x.ks, x.is ++ [u], m⟩] := by
    rw [List.set_append_right _ _ (Nat.le_refl _), Nat.sub_self]
    rfl
  have hCs : C.set q.length (ncs ⟨x.k, x.ks, x.is ++ [u], m⟩ (K q.length) vi') = C.take q.length ++ [ncs ⟨x.k, x.ks, x.is ++ [u], m⟩ (K q.length) vi'] := by
    conv => lhs; rw [hC]
    rw [List.set_append_right _ _ (by rw [hCl]; exact Nat.le_refl _), hCl, Nat.sub_self]
    rfl
  have hnk : ∀ p, vi'.ownBlock = some p → p ≠ g := fun p hp e => by
    subst e
    rcases hv7 with e1 | e1
    · exact (h.d q.length ht p (.inr (e1 ▸ hp))).2.1 rfl
    · have := e1 p hp
      omega
  have hrow := h.o
  rw [hlen, hC] at hrow
  have hrow2 := hg7.owns hrow (fun p hp e => (h.d q.length ht p (.inr e)).2.1 hp)
  have hrow3 := own_topset (j := 13) (.int .u64 (m : Nat)) hCz hCl (own_topset (j := 12) vi' hCz hCl hrow2)
  have hupd := h.upd (w' := (w7.setCell ⟨g, q.length * 14 + 12, none⟩ vi').setCell ⟨g, q.length * 14 + 13, none⟩ (.int .u64 (m : Nat))) ht (x' := ⟨x.k, x.ks, x.is ++ [u], m⟩) (vk' := K q.length) (vi' := vi') (L' := L q.length ++ [c])
    ((hg7.mono (fun p _ e => .inr (.inr e))).trans hkS (fun p _ e => .inl (by rw [e]; rfl))) (by rw [hlen, hCs]; exact hrow3)
    (hkS.owns (hg7.owns hx.k (fun p hp e => h.dd q.length ht p hp e)) (fun p hp e => (h.d q.length ht p (.inl hp)).2.1 (by rw [e]; rfl))) (.inl rfl)
    (by have e : (x.is ++ [u]).length = x.is.length + 1 := by simp
        show World.ownsRow _ _ _ _ _ (x.is ++ [u]).length _
        rw [e]
        exact hkS.owns ho7 (fun p hp e => hnk p hp e))
    hv7
    (fun p hp e => by
      rcases hv7 with e1 | e1
      · exact h.dd q.length ht p hp (e1 ▸ e)
      · have := e1 p e
        have := (hx.k.lt p hp).2
        omega)
    hx.kz hx.kl (by show (x.is ++ [u]).length ≤ _; simp; omega) (by show _ = (x.is ++ [u]).length; simp [hx.n])
    (fun d hd => by
      rcases List.mem_append.1 hd with h1 | h1
      · exact hx.s d h1
      · simp only [List.mem_singleton] at h1
        rw [h1]; exact hc)
    hm
    (fun j t d e1 e2 => by
      have e1' : (x.is ++ [u])[j]? = some t := e1
      by_cases hj : j < x.is.length
      · rw [List.getElem?_append_left hj] at e1'
        rw [List.getElem?_append_left (by rw [hx.n]; exact hj)] at e2
        exact hx.t j t d e1' e2
      · have hj2 := (List.getElem?_eq_some_iff.1 e1').1
        rw [List.length_append, List.length_singleton] at hj2
        have hj3 : j = x.is.length := by omega
        subst hj3
        have et : t = u := by simpa using e1'.symm
        have ed : d = c := by
          rw [← hx.n] at e2
          simpa using e2.symm
        rw [et, ed]
        exact hu)
  rw [hset] at hupd
  exact hupd
end
section
open Go.RowKit Go
/-- How the one key stands to the other, by its sign. -/
def agn (s t : ByteArray) : Int := if s.size = t.size then Lib.compareBytes s.data.toList t.data.toList else if s.size < t.size then -1 else 1
theorem cmpB_blt : ∀ (x y : List UInt8), x.length = y.length → (Lib.compareBytes x y < 0 ↔ blt (x.map UInt8.toNat) (y.map UInt8.toNat) = true)
  | [], [], _ => by simp [Lib.compareBytes, blt]
  | [], _ :: _, h => by simp at h
  | _ :: _, [], h => by simp at h
  | a :: x, b :: y, h => by
    have ih := cmpB_blt x y (by simpa using h)
    simp only [Lib.compareBytes, List.map_cons, blt]
    by_cases h1 : a < b
    · have h2 : a.toNat < b.toNat := h1
      rw [if_pos h1, if_neg (by omega)]
      simp [h2]
    · rw [if_neg h1]
      by_cases h2 : b < a
      · have h3 : b.toNat < a.toNat := h2
        rw [if_pos h2, if_neg (by omega)]
        simp
        omega
      · have h3 : a.toNat = b.toNat := by
          have e1 : ¬ a.toNat < b.toNat := h1
          have e2 : ¬ b.toNat < a.toNat := h2
          omega
        rw [if_neg h2, if_pos h3]
        exact ih
theorem agn_bfr (s t : ByteArray) : agn s t < 0 ↔ bfr (sl s) (sl t) = true := by
  unfold agn bfr
  rw [sl_len, sl_len]
  by_cases h : s.size = t.size
  · rw [if_pos h, if_pos h]
    exact cmpB_blt _ _ (by rw [Array.length_toList, Array.length_toList]; exact h)
  · rw [if_neg h, if_neg h]
    by_cases h2 : s.size < t.size <;> simp [h2]
set_option maxRecDepth 1000000 in
theorem cmpString_any (a b : ByteArray) (w : World) : Calls Tryz.prog 127 #[.string a, .string b] w fun e w' => e = .returned (.int .i64 (Lib.compareBytes a.data.toList b.data.toList)) ∧ w' = w := by
  go_enter Tryz.func127, Tryz.ntmps127
  go_wp2
  rw [run_callFunc_extern Tryz.func132 (by kernel_rfl) (by kernel_rfl) (by kernel_rfl) (e := Extern.BytealgCompare.compare) (by kernel_rfl), Lib.run_compareString]
  simp only [Result.andThen]
  rw [Oper.upon_value]
  go_wp2
  go_ret
  exact ⟨rfl, rfl⟩
set_option maxRecDepth 1000000 in
theorem strCompare_any (a b : ByteArray) (w : World) : Calls Tryz.prog 119 #[.string a, .string b] w fun e w' => e = .returned (.int .i64 (Lib.compareBytes a.data.toList b.data.toList)) ∧ w' = w := by
  go_enter Tryz.func119, Tryz.ntmps119
  go_wp2_with (go_at_call 127; refine (cmpString_any _ _ _).mono ?_; rintro e w' ⟨rfl, rfl⟩)
  go_ret
  exact ⟨rfl, rfl⟩
set_option maxRecDepth 1000000 in
theorem isNaN_any (x : Int) (w : World) : Calls Tryz.prog 126 #[.int .i64 x] w fun e w' => e = .returned (.bool false) ∧ w' = w := by
  have g0 : (x != x) = false := by simp
  go_enter Tryz.func126, Tryz.ntmps126
  go_wp2_with fail
  go_ret
  exact ⟨rfl, rfl⟩
set_option maxRecDepth 1000000 in
theorem cmpInt_any (x y : Int) (w : World) (h : x ≠ y) : Calls Tryz.prog 118 #[.int .i64 x, .int .i64 y] w fun e w' => e = .returned (.int .i64 (if x < y then -1 else 1)) ∧ w' = w := by
  go_enter Tryz.func118, Tryz.ntmps118
  by_cases hlt : x < y
  · rw [if_pos hlt]
    go_wp2_with (go_at_call 126; refine (isNaN_any _ _).mono ?_; rintro e w' ⟨rfl, rfl⟩)
    go_ret
    exact ⟨rfl, rfl⟩
  · have h2 : y < x := by omega
    rw [if_neg hlt]
    go_wp2_with (go_at_call 126; refine (isNaN_any _ _).mono ?_; rintro e w' ⟨rfl, rfl⟩)
    go_ret
    exact ⟨rfl, rfl⟩
set_option maxRecDepth 1000000 in
theorem against_any (s t : ByteArray) (w : World) : Calls Tryz.prog 111 #[.string s, .string t] w fun e w' => e = .returned (.int .i64 (agn s t)) ∧ w' = w := by
  unfold agn
  go_enter Tryz.func111, Tryz.ntmps111
  by_cases h : s.size = t.size
  · rw [if_pos h]
    have g0 : ((s.size : Int) != (t.size : Int)) = false := by rw [nat_ne]; simp [h]
    clear h
    go_wp2_with (go_at_call 119; refine (strCompare_any _ _ _).mono ?_; rintro e w' ⟨rfl, rfl⟩)
    go_ret
    exact ⟨rfl, rfl⟩
  · rw [if_neg h]
    have g0 : ((s.size : Int) != (t.size : Int)) = true := by rw [nat_ne]; simp [h]
    have HC := hide (cmpInt_any (s.size : Int) (t.size : Int) w (by omega))
    have HE : Hid ((if (s.size : Int) < (t.size : Int) then (-1 : Int) else 1) = if s.size < t.size then -1 else 1) := by
      show _ = _
      by_cases h2 : s.size < t.size
      · rw [if_pos h2, if_pos (by omega)]
      · rw [if_neg h2, if_neg (by omega)]
    rw [HE.out] at HC
    clear h HE
    generalize (if s.size < t.size then (-1 : Int) else 1) = R at *
    go_wp2_with (go_at_call 118; refine HC.out.mono ?_; rintro e w' ⟨rfl, rfl⟩)
    go_ret
    exact ⟨rfl, rfl⟩
set_option maxRecDepth 1000000 in
theorem before_any (s t : ByteArray) (w : World) : Calls Tryz.prog 97 #[.string s, .string t] w fun e w' => e = .returned (.bool (bfr (sl s) (sl t))) ∧ w' = w := by
  have HA := hide (against_any s t w)
  have HE : Hid (decide (agn s t < 0) = bfr (sl s) (sl t)) := by
    show _ = _
    rw [Bool.eq_iff_iff, decide_eq_true_iff]
    exact agn_bfr s t
  go_enter Tryz.func97, Tryz.ntmps97
  go_wp2_with (go_at_call 111; refine HA.out.mono ?_; rintro e w' ⟨rfl, rfl⟩)
  go_ret
  exact ⟨by rw [← HE.out]; rfl, rfl⟩
end
section
open Go.RowKit Go
theorem add0_8 (g j : Nat) : (⟨g, 0, none⟩ : Addr).add j = ⟨g, j, none⟩ := by rw [addr_add, Nat.zero_add]
theorem append_str8 {ops : Array Oper} {rest : List Oper} {o : Oper} {a : Act} {Q : Exit → Act → World → Prop} {w : World} (hgd : o.guard = none) (s x : Operand)
    (ho : o.op = .call { callee := .builtin .append, args := #[s, x], argTypes := #[58, 58] }) (B : Nat) (v : Value) (n : Nat) (ks : List ByteArray) (hs : a.eval s = v) (hown : w.ownsRow B 9 1 v n (sv ks))
    (g : Nat) (str : ByteArray) (hx : a.eval x = .slice (some ⟨g, 0, none⟩) 1 1) (hg : w.heap[g]? = some (.cells #[.string str] 9 (0, 0))) (hlen : n < 1099511627) (hbase : B ≤ w.heap.size)
    (h : ∀ v' w', w'.ownsRow B 9 1 v' (n + 1) (sv (ks ++ [str])) → w.grownBy w' v.ownBlock → (v'.ownBlock = v.ownBlock ∨ v'.ownBlock = some w.heap.size) → wpList Tryz.prog ops Q rest (a.put o.dst v') w') : wpList Tryz.prog ops Q (o :: rest) a w := by
  obtain ⟨i, hi, hz0, hz1, hz2⟩ := info9_ex
  have e : sv (ks ++ [str]) = sv ks ++ [.string str] := by simp [sv]
  refine wpList_append_own_at w hgd s x 58 ho B 9 i _ 1 16 Tryz.underlying58 hi hz0 hz1 hz2 rfl (by decide) v n (sv ks) hs hown ⟨g, 0, none⟩ 1 1 [.string str] hx rfl (fun j u hu => ?_) (fun u hu => by rw [List.mem_singleton.1 hu]; rfl) (by unfold maxLen; omega) (by omega) hbase fun v' w' h1 h2 _ h4 => h v' w' (by rw [e]; exact h1) h2 h4
  rw [add0_8]
  exact blk_cell hg (by simpa using hu)
theorem wpList_str1 {ops : Array Oper} {rest : List Oper} {o : Oper} {a : Act} {w : World} {Q : Exit → Act → World → Prop} {x0 : Operand} (hg : o.guard = none) (ho : o.op = .buildSlice 58 1 #[(0, x0)]) (s : ByteArray) (h0 : a.eval x0 = .string s)
    (h : wpList Tryz.prog ops Q rest (a.put o.dst (.slice (some ⟨w.heap.size, 0, none⟩) 1 1)) (w.alloc (.cells #[.string s] 9))) : wpList Tryz.prog ops Q (o :: rest) a w := by
  obtain ⟨i, hi, hz, hs, _⟩ := info9_ex
  refine wpList_buildSlice hg 58 9 1 _ ho #[.string s] i _ Tryz.underlying58 hi hz (by rw [hs]; decide) (by rw [hs]; decide) ?_ h
  rw [hs]
  have e : ((#[(0, x0)] : Array (Nat × Operand)).map fun (i, x) => (i, a.eval x)).toList = [(0, .string s)] := by simp [h0]
  rw [e]
  simp [Instr.fill, Value.cells]
  rw [show Array.range 1 = #[0] from rfl]
  simp
set_option maxRecDepth 1000000 in
set_option maxHeartbeats 1000000 in
theorem addkey8_any (w : World) (lo M : Nat) (vB : Value) (b : List Nat) (d p : Nat) (vo : Value) (q : List Nst) (x : Nst) (C : List (Array Value)) (K I : Nat → Value) (L : Nat → List (Array Value)) (h : Mac w lo M vB b d p vo (q ++ [x]) C K I L) (hst : q.length ≤ 100000) (s : ByteArray) (hs : s.size ≤ 140737488351232) (hks : x.ks.length ≤ 10000000) :
    Calls Tryz.prog 59 #[.pointer (some ⟨M, 0, none⟩), .string s] w fun e w' => e = .returned (.tuple #[]) ∧ Kp (fun q => lo ≤ q) w w' ∧ ∃ C' K' I' L', Mac w' lo M vB b d p vo (q ++ [⟨x.k, x.ks ++ [s], x.is, x.n⟩]) C' K' I' L' := by
  have HMC := hide h
  obtain ⟨-, -, -, g, cap, hvo, hcap, hlg⟩ := h.o.row
  subst hvo
  have hks2 := (h.o.e q.length x (by simp)).k
  obtain ⟨ak, ck, hvk⟩ := own_slice8 hks2
  have HVK := hide hvk
  have HSS := hide hs
  clear h hks2 hvk
  go_enter Tryz.func59, Tryz.ntmps59
  go_wp2_with fail
  refine (top_any w M g (q.length + 1) cap vB _ _ HMC.out.m (by omega) (by omega)).mono ?_
  rintro e w1 ⟨rfl, hb1, -⟩
  have HM1 := hide (HMC.out.next hb1)
  have HB1 := hide hb1
  rw [Nat.add_sub_cancel]
  have c11 : w1.cell? ⟨g, q.length * 14 + 11, none⟩ = some (.slice ak x.ks.length ck) := HM1.out.o.cell.1 11 _ (by rw [HVK.out]; rfl)
  have HGA := hide (heap_alloc_new w1 (.cells #[.string s] 9))
  have HMA := hide (HM1.out.next (below_alloc4 w1 (.cells #[.string s] 9)))
  have HKA : Hid ((w1.alloc (.cells #[.string s] 9)).ownsRow lo 9 1 (.slice ak x.ks.length ck) x.ks.length (sv x.ks)) := by
    have h := (HMA.out.o.e q.length x (by simp)).k
    rw [HVK.out] at h
    exact h
  have HLB : Hid (lo ≤ (w1.alloc (.cells #[.string s] 9)).heap.size) := by have h1 := HMA.out.l; have h2 := HMA.out.o.mz M HMA.out.lm; show _ ≤ _; omega
  clear hb1
  go_wp2_with (first
    | (refine wpList_str1 rfl rfl s rfl ?_)
    | (at_builtin; refine append_str8 rfl _ _ rfl lo _ x.ks.length x.ks rfl HKA.out w1.heap.size s rfl HGA.out (by omega) HLB.out ?_))
  intro v7 w7 ho7 hg7 hv7
  obtain ⟨a7, c7, hs7⟩ := own_slice8 ho7
  subst hs7
  have hgb : (K q.length).ownBlock = (Value.slice ak x.ks.length ck).ownBlock := by rw [HVK.out]
  have hk7 : Kp (fun p => (Value.slice ak x.ks.length ck).ownBlock = some p) (w1.alloc (.cells #[.string s] 9)) w7 := (Kp.refl _ _).grown hg7 (fun _ _ h => h)
  have hO7 := HMA.out.o.key ho7 (by rw [hgb]; exact hg7) (by rw [hgb]; simpa using hv7) HSS.out (by omega)
  have hd := HMA.out.o.d q.length (by simp)
  have hm7 : w7.heap[M]? = some (.cells #[vB, .int .i64 (p : Nat), .int .i64 (d : Nat), .slice (some ⟨g, 0, none⟩) (q.length + 1) cap] 74 (0, 0)) := (hk7.block _ (blk_lt HMA.out.m) (fun e => (hd M (.inl (hgb.trans e))).1 HMA.out.lm)).trans HMA.out.m
  obtain ⟨cur, hcur⟩ := HMA.out.o.cell.2
  have hcur7 : w7.heap[g]? = some (.cells cur 95 (0, 0)) := (hk7.block _ (blk_lt hcur) (fun e => (hd g (.inl (hgb.trans e))).2.1 rfl)).trans hcur
  have f7 := blk_frozen (q.length * 14 + 11) hcur7
  have c7' : w7.cell? ⟨g, q.length * 14 + 11, none⟩ = some (.slice ak x.ks.length ck) := hk7.cell (HMA.out.o.cell.1 11 _ (by rw [HVK.out]; rfl)) (fun e => (hd g (.inl (hgb.trans e))).2.1 rfl)
  have hgM : M ≠ g := fun e => HMA.out.o.m M HMA.out.lm (by rw [e]; rfl)
  have hkS : Kp (fun q => q = g) w7 (w7.setCell ⟨g, q.length * 14 + 11, none⟩ (.slice a7 (x.ks.length + 1) c7)) := (Kp.refl _ w7).setCell _ _ (fun _ => rfl)
  have HM8 : Hid (Mac (w7.setCell ⟨g, q.length * 14 + 11, none⟩ (.slice a7 (x.ks.length + 1) c7)) lo M vB b d p (.slice (some ⟨g, 0, none⟩) (q.length + 1) cap) (q ++ [⟨x.k, x.ks ++ [s], x.is, x.n⟩]) _ _ _ _) :=
    ⟨(hkS.block _ (blk_lt hm7) hgM).trans hm7, hkS.bsl (hk7.bsl HMA.out.b (fun p hp e => by have := HMA.out.q p hp; have := (HKA.out.lt p e).1; omega)) (fun p hp e => by have := HMA.out.q p hp; omega), HMA.out.q, hO7, HMA.out.lm, Nat.le_trans (Nat.le_trans HMA.out.l hk7.size) hkS.size, by
      obtain ⟨m, h2⟩ := HMA.out.y
      have hkk : Kp (fun r => (Value.slice (some ⟨g, 0, none⟩) (q.length + 1) cap).ownBlock = some r ∨ (K q.length).ownBlock = some r) (w1.alloc (.cells #[.string s] 9)) (w7.setCell ⟨g, q.length * 14 + 11, none⟩ (.slice a7 (x.ks.length + 1) c7)) := (hk7.mono (fun r _ e => .inr (hgb.trans e))).trans hkS (fun r _ e => .inl (by rw [e]; rfl))
      have h3 := h2.key (t := q.length) (x := x) (x' := ⟨x.k, x.ks ++ [s], x.is, x.n⟩) (vk' := .slice a7 (x.ks.length + 1) c7) (by simp) (by simp) rfl hkk (by rw [hgb]; rcases hv7 with e | e; exact .inl e; exact .inr (fun r hr => by rw [e] at hr; injection hr with hr; simp; omega))
      rw [List.set_append_right _ _ (Nat.le_refl _), Nat.sub_self] at h3
      exact ⟨m, h3⟩⟩
  have HK8 : Hid (Kp (fun q => lo ≤ q) w (w7.setCell ⟨g, q.length * 14 + 11, none⟩ (.slice a7 (x.ks.length + 1) c7))) := (((Kp.of_below (S := fun q => lo ≤ q) HB1.out).trans (Kp.of_below (S := fun q => lo ≤ q) (below_alloc4 w1 (.cells #[.string s] 9))) (fun _ _ h => h)).trans hk7 (fun p _ e => (HKA.out.lt p e).1)).trans hkS (fun p _ e => by omega)
  clear ho7 hg7 hv7 hk7 hO7 hm7 hkS c11 hd hcur hcur7 hgb
  go_wp2_with fail
  go_end0
  exact ⟨rfl, HK8.out, _, _, _, _, HM8.out⟩
set_option maxRecDepth 1000000 in
set_option maxHeartbeats 1000000 in
/-- Does a key stand behind the one ahead of it? -/
theorem rises8_any (w : World) (lo M : Nat) (vB : Value) (b : List Nat) (d p : Nat) (vo : Value) (q : List Nst) (x : Nst) (C : List (Array Value)) (K I : Nat → Value) (L : Nat → List (Array Value)) (h : Mac w lo M vB b d p vo (q ++ [x]) C K I L) (hst : q.length ≤ 100000) (s : ByteArray) (hks : x.ks.length ≤ 10000000) :
    Calls Tryz.prog 86 #[.pointer (some ⟨M, 0, none⟩), .string s] w fun e w' => e = .returned (.bool (rrise x.ks s)) ∧ Below w.heap.size w w' := by
  have HMC := hide h
  obtain ⟨-, -, -, g, cap, hvo, hcap, hlg⟩ := h.o.row
  subst hvo
  have hks2 := (h.o.e q.length x (by simp)).k
  obtain ⟨ak, ck, hvk⟩ := own_slice8 hks2
  have HVK := hide hvk
  clear h hks2 hvk
  go_enter Tryz.func86, Tryz.ntmps86
  go_wp2_with fail
  refine (top_any w M g (q.length + 1) cap vB _ _ HMC.out.m (by omega) (by omega)).mono ?_
  rintro e w1 ⟨rfl, hb1, -⟩
  have HM1 := hide (HMC.out.next hb1)
  have HB1 := hide hb1
  rw [Nat.add_sub_cancel]
  have c11 : w1.cell? ⟨g, q.length * 14 + 11, none⟩ = some (.slice ak x.ks.length ck) := HM1.out.o.cell.1 11 _ (by rw [HVK.out]; rfl)
  clear hb1
  by_cases h0 : x.ks = []
  · as_aux_lemma =>
    have g1 : ((x.ks.length : Int) == 0) = true := by rw [h0]; rfl
    have e1 : rrise x.ks s = true := by unfold rrise; rw [h0]; rfl
    have HE := hide e1
    clear h0 e1
    go_wp2_with fail
    go_ret
    exact ⟨by rw [HE.out]; rfl, HB1.out⟩
  · as_aux_lemma =>
    have hl : 0 < x.ks.length := List.length_pos_iff.2 h0
    have g1 : ((x.ks.length : Int) == 0) = false := beq_eq_false_iff_ne.2 (by omega)
    obtain ⟨z, hz⟩ : ∃ z, x.ks[x.ks.length - 1]? = some z := ⟨x.ks[x.ks.length - 1], List.getElem?_eq_getElem (by omega)⟩
    have e1 : rrise x.ks s = bfr (sl z) (sl s) := by
      unfold rrise
      rw [List.getLast?_eq_getElem?, hz]
    have hkr := (HM1.out.o.e q.length x (by simp)).k
    rw [HVK.out] at hkr
    obtain ⟨gk, hak⟩ : ∃ gk, ak = some ⟨gk, 0, none⟩ := by
      rcases hkr.2 with ⟨e, h1⟩ | ⟨g', c', cur, e, _⟩
      · omega
      · injection e with e1 _ _
        exact ⟨g', e1⟩
    subst hak
    have cz : w1.cell? ⟨gk, x.ks.length - 1, none⟩ = some (.string z) := by
      have := hkr.cells (g := gk) rfl (x.ks.length - 1) (.string z) (sv_get hz)
      rw [addr_add, Nat.zero_add] at this
      exact this
    have w2' : IntKind.i64.wrap ((x.ks.length : Int) - 1) = ((x.ks.length - 1 : Nat) : Int) := by rw [IntKind.wrap_i64]; omega
    have g2 : ((x.ks.length - 1 : Nat) : Int) < (x.ks.length : Int) := by omega
    have HE := hide e1
    clear h0 e1 hkr hz hl
    go_wp2_with fail
    refine (before_any z s w1).mono ?_
    rintro e w2 ⟨rfl, hw2⟩
    have hw3 := hw2.symm
    subst hw3
    go_wp2_with fail
    go_ret
    exact ⟨by rw [HE.out]; rfl, HB1.out⟩
end
section
open Go.RowKit Go
/-! ### The reference's many: what it has in hand -/
/-- Its blocks: the want, the head, the answers, the tree that is made. -/
structure My8 (w wx : World) (ws hs c : Array Value) : Prop where
  x : wx.heap[w.heap.size]? = some (.cells ws 79 (0, 0))
  h : wx.heap[w.heap.size + 1]? = some (.cells hs 99 (0, 0))
  r : wx.heap[w.heap.size + 2]? = some (.cells zv 61 (0, 0))
  f : wx.heap[w.heap.size + 3]? = some (.cells zfe 64 (0, 0))
  v : wx.heap[w.heap.size + 4]? = some (.cells c 61 (0, 0))
  b : Below w.heap.size w wx
theorem My8.z {w wx : World} {ws hs c : Array Value} (h : My8 w wx ws hs c) : w.heap.size + 5 ≤ wx.heap.size := blk_lt h.v
theorem My8.kp {w wx wy : World} {ws hs c : Array Value} {S : Nat → Prop} (h : My8 w wx ws hs c) (hk : Kp S wx wy) (hs2 : ∀ q, S q → w.heap.size + 5 ≤ q) : My8 w wy ws hs c :=
  ⟨(hk.block _ (blk_lt h.x) (fun e => by have := hs2 _ e; omega)).trans h.x, (hk.block _ (blk_lt h.h) (fun e => by have := hs2 _ e; omega)).trans h.h, (hk.block _ (blk_lt h.r) (fun e => by have := hs2 _ e; omega)).trans h.r, (hk.block _ (blk_lt h.f) (fun e => by have := hs2 _ e; omega)).trans h.f, (hk.block _ (blk_lt h.v) (fun e => by have := hs2 _ e; omega)).trans h.v, h.b.trans (hk.below h.b.size (fun q e => by have := hs2 _ e; omega))⟩
theorem My8.next {w wx wy : World} {ws hs c : Array Value} (h : My8 w wx ws hs c) (hb : Below wx.heap.size wx wy) : My8 w wy ws hs c := h.kp (Kp.of_below (S := fun _ => False) hb) (fun _ e => e.elim)
theorem My8.setV {w wx : World} {ws hs c : Array Value} (h : My8 w wx ws hs c) (j : Nat) (u : Value) : My8 w (wx.setCell ⟨w.heap.size + 4, j, none⟩ u) ws hs (c.setIfInBounds j u) := by
  have hk : Kp (fun q => q = w.heap.size + 4) wx (wx.setCell ⟨w.heap.size + 4, j, none⟩ u) := (Kp.refl _ _).setCell _ _ (fun _ => rfl)
  exact ⟨(hk.block _ (blk_lt h.x) (by omega)).trans h.x, (hk.block _ (blk_lt h.h) (by omega)).trans h.h, (hk.block _ (blk_lt h.r) (by omega)).trans h.r, (hk.block _ (blk_lt h.f) (by omega)).trans h.f, blk_set j u h.v, h.b.trans (hk.below h.b.size (fun q e => by omega))⟩
theorem My8.start (w : World) (ws hs c : Array Value) : My8 w ((((((w.alloc (.cells ws 79)).alloc (.cells hs 99)).alloc (.cells zv 61)).alloc (.cells zfe 64)).alloc (.cells zv 61)).setRow (w.heap.size + 4) c) ws hs c := by
  have h0 := heap_alloc_new w (.cells ws 79)
  have h1 := heap_alloc_new (w.alloc (.cells ws 79)) (.cells hs 99)
  have h2 := heap_alloc_new ((w.alloc (.cells ws 79)).alloc (.cells hs 99)) (.cells zv 61)
  have h3 := heap_alloc_new (((w.alloc (.cells ws 79)).alloc (.cells hs 99)).alloc (.cells zv 61)) (.cells zfe 64)
  have h4 := heap_alloc_new ((((w.alloc (.cells ws 79)).alloc (.cells hs 99)).alloc (.cells zv 61)).alloc (.cells zfe 64)) (.cells zv 61)
  have e1 : (w.alloc (.cells ws 79)).heap.size = w.heap.size + 1 := by simp
  have e2 : ((w.alloc (.cells ws 79)).alloc (.cells hs 99)).heap.size = w.heap.size + 2 := by simp
  have e3 : (((w.alloc (.cells ws 79)).alloc (.cells hs 99)).alloc (.cells zv 61)).heap.size = w.heap.size + 3 := by simp
  have e4 : ((((w.alloc (.cells ws 79)).alloc (.cells hs 99)).alloc (.cells zv 61)).alloc (.cells zfe 64)).heap.size = w.heap.size + 4 := by simp
  rw [e1] at h1
  rw [e2] at h2
  rw [e3] at h3
  rw [e4] at h4
  have hk := row_kp (((((w.alloc (.cells ws 79)).alloc (.cells hs 99)).alloc (.cells zv 61)).alloc (.cells zfe 64)).alloc (.cells zv 61)) (w.heap.size + 4) c
  have a0 := blk_alloc (.cells zv 61) (blk_alloc (.cells zfe 64) (blk_alloc (.cells zv 61) (blk_alloc (.cells hs 99) h0)))
  have a1 := blk_alloc (.cells zv 61) (blk_alloc (.cells zfe 64) (blk_alloc (.cells zv 61) h1))
  have a2 := blk_alloc (.cells zv 61) (blk_alloc (.cells zfe 64) h2)
  have a3 := blk_alloc (.cells zv 61) h3
  have b1 := below_alloc4 w (.cells ws 79)
  have b2 := b1.alloc (by omega) (.cells hs 99)
  have b3 := b2.alloc (by omega) (.cells zv 61)
  have b4 := b3.alloc (by omega) (.cells zfe 64)
  have b5 := b4.alloc (by omega) (.cells zv 61)
  exact ⟨(hk.block _ (blk_lt a0) (by omega)).trans a0, (hk.block _ (blk_lt a1) (by omega)).trans a1, (hk.block _ (blk_lt a2) (by omega)).trans a2, (hk.block _ (blk_lt a3) (by omega)).trans a3, row_same h4, b5.trans (hk.below b5.size (fun q e => by omega))⟩
theorem My8.vx {w wx : World} {ws hs c : Array Value} (h : My8 w wx ws hs c) : ∀ j u, c[j]? = some u → wx.cell? ⟨w.heap.size + 4, 0 + j, none⟩ = some u := fun j u hu => by rw [Nat.zero_add]; exact blk_cell h.v hu
/-- The blocks that are written to. -/
def Eb8 (B : Nat) (vk vi : Value) (q : Nat) : Prop := q < B ∨ vk.ownBlock = some q ∨ vi.ownBlock = some q
/-- Its keys and items. -/
structure En8 (wx : World) (B : Nat) (x : Nst) (vk vi : Value) (L : List (Array Value)) : Prop where
  e : Ent8 wx B (Eb8 B vk vi) x vk vi L
  d : ∀ q, vk.ownBlock = some q → vi.ownBlock ≠ some q
  l : B ≤ wx.heap.size
theorem En8.kp {wx wy : World} {B : Nat} {x : Nst} {vk vi : Value} {L : List (Array Value)} (h : En8 wx B x vk vi L) (hk : Kp (fun q => q < B) wx wy) : En8 wy B x vk vi L := by
  obtain ⟨a1, a2, a3, a4, a5, a6, a7, a8, a9⟩ := h.e
  exact ⟨⟨hk.owns a1 (fun q hq e => by have := (a1.lt q hq).1; omega), hk.owns a2 (fun q hq e => by have := (a2.lt q hq).1; omega), a3, a4, a5, a6, a7, fun j u c e1 e2 => (a8 j u c e1 e2).kp (hk.mono (fun _ _ e => .inl e)), a9⟩, h.d, Nat.le_trans h.l hk.size⟩
theorem En8.next {wx wy : World} {B : Nat} {x : Nst} {vk vi : Value} {L : List (Array Value)} (h : En8 wx B x vk vi L) (hb : Below wx.heap.size wx wy) : En8 wy B x vk vi L := h.kp (Kp.of_below hb)
theorem En8.empty (wx : World) {B : Nat} (hB : B ≤ wx.heap.size) {k : Int} {n : Nat} (hn : n < 18446744073709551616) : En8 wx B ⟨k, [], [], n⟩ (.slice none 0 0) (.slice none 0 0) [] :=
  ⟨⟨World.ownsRow_nil _ _ _ _, World.ownsRow_nil _ _ _ _, by simp, by simp, by simp, rfl, by simp, fun j u c e1 _ => by simp at e1, hn⟩, (fun q e => by cases e), hB⟩
theorem En8.key {wx wy : World} {B : Nat} {x : Nst} {vk vk' vi : Value} {L : List (Array Value)} (h : En8 wx B x vk vi L) {s : ByteArray} (ho : wy.ownsRow B 9 1 vk' (x.ks.length + 1) (sv (x.ks ++ [s]))) (hg : wx.grownBy wy vk.ownBlock) (hv : vk'.ownBlock = vk.ownBlock ∨ vk'.ownBlock = some wx.heap.size) (hs : s.size ≤ 140737488351232) (hl : x.ks.length + 1 ≤ 140737488351232) : En8 wy B ⟨x.k, x.ks ++ [s], x.is, x.n⟩ vk' vi L := by
  obtain ⟨a1, a2, a3, a4, a5, a6, a7, a8, a9⟩ := h.e
  have hk : Kp (fun q => vk.ownBlock = some q) wx wy := (Kp.refl _ _).grown hg (fun k _ h => h)
  have hT : ∀ q, Eb8 B vk' vi q → Eb8 B vk vi q ∨ wx.heap.size ≤ q := fun q e => by
    rcases e with e | e | e
    · exact .inl (.inl e)
    · rcases hv with hv | hv
      · exact .inl (.inr (.inl (hv ▸ e)))
      · rw [hv] at e
        injection e with e
        exact .inr (by omega)
    · exact .inl (.inr (.inr e))
  refine ⟨⟨by rw [List.length_append]; exact ho, hk.owns a2 (fun q hq e => h.d q e hq), fun t ht => ?_, by rw [List.length_append]; exact hl, a5, a6, a7, fun j u c e1 e2 => (a8 j u c e1 e2).live (hk.mono (fun _ _ e => .inr (.inl e))) hT, a9⟩, fun q e e2 => ?_, Nat.le_trans h.l hk.size⟩
  · rcases List.mem_append.1 ht with ht | ht
    · exact a3 t ht
    · rw [List.mem_singleton.1 ht]
      exact hs
  · rcases hv with hv | hv
    · exact h.d q (hv ▸ e) e2
    · rw [hv] at e
      injection e with e
      have := (a2.lt q e2).2
      omega
theorem En8.item {wx wy : World} {B : Nat} {x : Nst} {vk vi vi' : Value} {L : List (Array Value)} (h : En8 wx B x vk vi L) {u : Tv} {c : Array Value} (hc : c.size = 13) (ht : Tis wx (Eb8 B vk vi) u c) (ho : wy.ownsRow B 61 13 vi' (L.length + 1) (vfl L ++ c.toList)) (hg : wx.grownBy wy vi.ownBlock) (hv : vi'.ownBlock = vi.ownBlock ∨ vi'.ownBlock = some wx.heap.size) (hl : x.is.length + 1 ≤ 140737488351232) : En8 wy B ⟨x.k, x.ks, x.is ++ [u], x.n - 1⟩ vk vi' (L ++ [c]) := by
  obtain ⟨a1, a2, a3, a4, a5, a6, a7, a8, a9⟩ := h.e
  have hk : Kp (fun q => vi.ownBlock = some q) wx wy := (Kp.refl _ _).grown hg (fun k _ h => h)
  have hT : ∀ q, Eb8 B vk vi' q → Eb8 B vk vi q ∨ wx.heap.size ≤ q := fun q e => by
    rcases e with e | e | e
    · exact .inl (.inl e)
    · exact .inl (.inr (.inl e))
    · rcases hv with hv | hv
      · exact .inl (.inr (.inr (hv ▸ e)))
      · rw [hv] at e
        injection e with e
        exact .inr (by omega)
  have hkm : Kp (Eb8 B vk vi) wx wy := hk.mono (fun _ _ e => .inr (.inr e))
  refine ⟨⟨hk.owns a1 (fun q hq e => h.d q hq e), ?_, a3, a4, by rw [List.length_append]; exact hl, by rw [List.length_append, List.length_append, a6]; rfl, fun t ht => ?_, fun j v c' e1 e2 => ?_, by show x.n - 1 < _; omega⟩, fun q e e2 => ?_, Nat.le_trans h.l hk.size⟩
  · have e : vfl [c] = c.toList := by simp [vfl]
    rw [List.length_append, vfl_app, e, ← a6]
    exact ho
  · rcases List.mem_append.1 ht with ht | ht
    · exact a7 t ht
    · rw [List.mem_singleton.1 ht]
      exact hc
  · rcases Nat.lt_or_ge j L.length with hj | hj
    · rw [List.getElem?_append_left hj] at e2
      rw [List.getElem?_append_left (by omega)] at e1
      exact (a8 j v c' e1 e2).live hkm hT
    · rw [List.getElem?_append_right hj] at e2
      rw [List.getElem?_append_right (by omega)] at e1
      have e3 := (List.getElem?_eq_some_iff.1 e2).1
      simp at e3
      have e4 : j - L.length = 0 := by omega
      have e5 : j - x.is.length = 0 := by omega
      rw [e4] at e2
      rw [e5] at e1
      simp at e1 e2
      rw [← e1, ← e2]
      exact ht.live hkm hT
  · rcases hv with hv | hv
    · exact h.d q e (hv ▸ e2)
    · rw [hv] at e2
      injection e2 with e2
      have := (a1.lt q e).2
      omega
theorem En8.val {wx : World} {B : Nat} {x : Nst} {vk vi : Value} {L : List (Array Value)} (h : En8 wx B x vk vi L) : Tis wx (fun q => q < B) x.val (vcs x.val (.slice none 0 0) vk vi) := by
  obtain ⟨a1, a2, a3, a4, a5, a6, a7, a8, a9⟩ := h.e
  exact Tis.of (val_tbd x) (bsl_none wx) (fun h => absurd rfl h) (SSl.own a1 rfl a4 a3) (fun _ p hp e => by have := (a1.lt p hp).1; omega) a2 (fun _ p hp e => by have := (a2.lt p hp).1; omega) a5 a6 a7 (fun j u c e1 e2 => (a8 j u c e1 e2).mono (fun _ e => .inl e))
theorem results_ctcE {fn : Func} {p u q : Tmp} {ty ty' : TypeId} (h : fn.results = #[.cell p ty, .tmp u, .cell q ty']) (tmps : Array Value) (P : Program) (w : World) :
    (results fn tmps).run P w = ((asAddr (tmps.getD p undef)).run P w).andThen fun a w₁ => ((loadVar ty a).run P w₁).andThen fun v w₂ => ((asAddr (tmps.getD q undef)).run P w₂).andThen fun b w₃ => ((loadVar ty' b).run P w₃).andThen fun x w₄ => .ok (.tuple #[v, tmps.getD u undef, x]) w₄ := by
  simp only [results, h]
  simp [Sem.run_bind, Result.andThen]
theorem end_many {wx : World} {R F : Nat} {c f : Array Value} {n : Int} {tmps : Array Value} (hn : c.size = 13) (hr : wx.heap[R]? = some (.cells c 61 (0, 0))) (hf : f.size = 2) (hfr : wx.heap[F]? = some (.cells f 64 (0, 0))) (hp : tmps.getD 10 undef = .pointer (some ⟨R, 0, none⟩)) (hm : tmps.getD 11 undef = .int .i64 n) (hq : tmps.getD 12 undef = .pointer (some ⟨F, 0, none⟩)) : (results Tryz.f63 tmps).run Tryz.prog wx = .ok (.tuple #[.agg c, .int .i64 n, .agg f]) wx := by
  have h1 := run_loadVar_row (P := Tryz.prog) wx R 61 61 c (0, 0) _ hr Tryz.underlying61 rfl (by rw [hn]; exact infoV)
  have h2 := run_loadVar_row (P := Tryz.prog) wx F 64 64 f (0, 0) _ hfr Tryz.underlying64 rfl (by rw [hf]; exact infoFE)
  refine (results_ctcE rfl _ _ _).trans ?_
  rw [hp, hm, hq]
  simp [asAddr, h1, h2, Result.andThen]
theorem end_item {wx : World} {R F : Nat} {c f : Array Value} {n : Int} {tmps : Array Value} (hn : c.size = 13) (hr : wx.heap[R]? = some (.cells c 61 (0, 0))) (hf : f.size = 2) (hfr : wx.heap[F]? = some (.cells f 64 (0, 0))) (hp : tmps.getD 6 undef = .pointer (some ⟨R, 0, none⟩)) (hm : tmps.getD 7 undef = .int .i64 n) (hq : tmps.getD 8 undef = .pointer (some ⟨F, 0, none⟩)) : (results Tryz.f23 tmps).run Tryz.prog wx = .ok (.tuple #[.agg c, .int .i64 n, .agg f]) wx := by
  have h1 := run_loadVar_row (P := Tryz.prog) wx R 61 61 c (0, 0) _ hr Tryz.underlying61 rfl (by rw [hn]; exact infoV)
  have h2 := run_loadVar_row (P := Tryz.prog) wx F 64 64 f (0, 0) _ hfr Tryz.underlying64 rfl (by rw [hf]; exact infoFE)
  refine (results_ctcE rfl _ _ _).trans ?_
  rw [hp, hm, hq]
  simp [asAddr, h1, h2, Result.andThen]
end
section
open Go.RowKit Go
theorem nat_succ_cast (q : Nat) : ((q + 1 : Nat) : Int) = (q : Int) + 1 := by omega
/-- What stands at the head of many's round. -/
structure Rd (b : List Nat) (d p q : Nat) (kk : Int) (n i at_ : Nat) (ah : ByteArray) (x : Nst) : Prop where
  k : x.k = kk
  nn : x.n = n - i
  l : x.is.length = i
  a1 : p + i ≤ at_
  a2 : at_ ≤ b.length
  ks : (kk = 8 ∧ x.ks = []) ∨ (kk = 9 ∧ x.ks.length = i ∧ (i ≠ 0 → x.ks.getLast? = some ah))
  s : ah.size ≤ 140737488351232
  g : ∀ st : List Nst, st.length = q → Gos b d ⟨.inside, p, ⟨kk, [], [], n⟩ :: st⟩ ⟨.inside, at_, x :: st⟩
/-- The same behind the key. -/
structure Re (b : List Nat) (d p q : Nat) (kk : Int) (n i at_ : Nat) (ah : ByteArray) (x : Nst) : Prop where
  k : x.k = kk
  nn : x.n = n - i
  l : x.is.length = i
  a1 : p + i ≤ at_
  a2 : at_ ≤ b.length
  ks : (kk = 8 ∧ x.ks = []) ∨ (kk = 9 ∧ x.ks.length = i + 1 ∧ x.ks.getLast? = some ah)
  s : ah.size ≤ 140737488351232
  g : ∀ st : List Nst, st.length = q → Gos b d ⟨.inside, p, ⟨kk, [], [], n⟩ :: st⟩ ⟨.plain, at_, x :: st⟩
theorem Rd.list {b : List Nat} {d p q n i at_ : Nat} {ah : ByteArray} {x : Nst} (h : Rd b d p q 8 n i at_ ah x) (hi : i < n) : Re b d p q 8 n i at_ ah x := by
  have hk := h.k
  have hn := h.nn
  exact ⟨hk, hn, h.l, h.a1, h.a2, .inl ⟨rfl, (h.ks.resolve_right (fun e => by omega)).2⟩, h.s, fun st hs => (h.g st hs).trans (gos_in8 (by omega) hk)⟩
theorem Rd.key {b : List Nat} {d p q n i at_ : Nat} {ah : ByteArray} {x : Nst} (h : Rd b d p q 9 n i at_ ah x) (hi : i < n) (hq : q + 1 ≤ d) (ht : rtake 1 (decide (d ≤ q + 1)) x.ks (b.drop at_) = 0) (hl : at_ + rused (b.drop at_) ≤ b.length) (hs : (nstr (rbody (b.drop at_))).size ≤ 140737488351232) : Re b d p q 9 n i (at_ + rused (b.drop at_)) (nstr (rbody (b.drop at_))) ⟨x.k, x.ks ++ [nstr (rbody (b.drop at_))], x.is, x.n⟩ := by
  have hk := h.k
  have hn := h.nn
  have hks := h.ks.resolve_left (fun e => by omega)
  refine ⟨hk, hn, h.l, by have := h.a1; omega, hl, .inr ⟨rfl, by simp [hks.2.1], by simp⟩, hs, fun st hst => (h.g st hst).trans (gos_key (by omega) (by rw [hk]; decide) ?_)⟩
  rw [List.length_cons, hst, full_eq hq]
  exact ht
theorem Rd.bad {b : List Nat} {d p q n i at_ e : Nat} {ah : ByteArray} {x : Nst} (h : Rd b d p q 9 n i at_ ah x) (hi : i < n) (hq : q + 1 ≤ d) (ht : rtake 1 (decide (d ≤ q + 1)) x.ks (b.drop at_) = e) (he : e ≠ 0) : MaE b d p q 9 n e at_ := fun st hst => by
  have hk := h.k
  have hn := h.nn
  refine (h.g st hst).eds (eds_key (by omega) (by rw [hk]; decide) ?_ he)
  rw [List.length_cons, hst, full_eq hq]
  exact ht
theorem Re.item {b : List Nat} {d p q n i at_ m : Nat} {kk : Int} {ah : ByteArray} {x : Nst} {v : Tv} (h : Re b d p q kk n i at_ ah x) (hi : i < n) (hg : ItG b d at_ (q + 1) 0 [] v m) : Rd b d p q kk n (i + 1) m ah ⟨x.k, x.ks, x.is ++ [v], x.n - 1⟩ := by
  have hn := h.nn
  refine ⟨h.k, by show x.n - 1 = _; omega, by simp [h.l], by have := h.a1; have := hg.1; omega, hg.2.1, ?_, h.s, fun st hst => ((h.g st hst).trans (hg.2.2.2 rfl (x :: st) (by rw [List.length_cons, hst]))).trans (gos_done v)⟩
  rcases h.ks with ⟨h1, h2⟩ | ⟨h1, h2, h3⟩
  · exact .inl ⟨h1, h2⟩
  · exact .inr ⟨h1, h2, fun _ => h3⟩
theorem Re.bad {b : List Nat} {d p q n i at_ e1 p1 : Nat} {kk : Int} {ah : ByteArray} {x : Nst} (h : Re b d p q kk n i at_ ah x) (hg : ItE b d at_ (q + 1) 0 [] e1 p1) : MaE b d p q kk n e1 p1 := fun st hst => (h.g st hst).eds (hg.2 rfl (x :: st) (by rw [List.length_cons, hst]))
theorem Rd.whole {b : List Nat} {d p q n i at_ : Nat} {kk : Int} {ah : ByteArray} {x : Nst} (h : Rd b d p q kk n i at_ ah x) (hi : i = n) : MaG b d p q kk n x.val at_ :=
  ⟨by have := h.a1; omega, h.a2, fun st hst => (h.g st hst).trans (gos_end (by have := h.nn; omega))⟩
theorem Rd.ahd {b : List Nat} {d p q n i at_ : Nat} {ah : ByteArray} {x : Nst} (h : Rd b d p q 9 n i at_ ah x) : Ahd 1 x.ks ah ((i : Int) == 0) := fun _ => by
  have hks := h.ks.resolve_left (fun e => by omega)
  by_cases h0 : i = 0
  · exact .inl ⟨by simp [h0], List.length_eq_zero_iff.1 (by omega)⟩
  · exact .inr ⟨by simp [h0], hks.2.2 h0, h.s⟩
end
end Go.Proofs.YtdejcapbggjjgaaGreatDoor
