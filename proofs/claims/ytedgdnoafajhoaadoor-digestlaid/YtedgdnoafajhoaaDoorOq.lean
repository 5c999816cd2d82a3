import Derived.Test.YtedgdnoafajhoaaDoorQh
import Derived.Test.YtedgdnoafajhoaaDoorStp
import Derived.Test.YtedgdnoafajhoaaDoorWa
import Derived.Test.YtedgdnoafajhoaaDoorRu
import Derived.Test.YtedgdnoafajhoaaDoorLnt
import Derived.Test.YtedgdnoafajhoaaDoorOpen
import Derived.Lib.SmallJoins
import Derived.Deep.QuietTactic
namespace Go.Proofs.YtedgdnoafajhoaaDoor
section
open Go.ChangeShapes Go.WideShapes Go.ChangeAt Go.RowKit Go.Deep Go.Joins

/-- A slice of rows of bytes, all within the reach. -/
structure RowsIn (w : World) (v : Value) (len : Nat) : Prop where
  form : ∃ a cap, v = .slice a len cap ∧ len ≤ cap ∧ (len = 0 ∨ ∃ b off, a = some ⟨b, off, none⟩ ∧ ∀ i, i < len → ∃ u xs, w.cell? ⟨b, off + i, none⟩ = some u ∧ BSl w u xs ∧ xs.length ≤ 140737488351232)
  max : len ≤ 9223372036854775807

theorem rows_open {H : Type} {enc : TypeId × Value → H} {W : World} {base fuel : Nat} {held : Bool} {v : Value} {y : DataW H × List MemPlace} (h : DataW.trod enc Tryd.prog W base (fun _ => true) held fuel 22 [v] = some y)
    {ts : List TypeId} {ds : List (DataW H)} (hsz : (DataW.weightsEach Tryd.prog ts ds).all (· ≤ reachBytes) = true) {j : Nat} (ht : ts[j]? = some 22) (hd : ds[j]? = some y.1) : ∃ len, RowsIn W v len := by
  rcases open_int_rows Tryd.underlying22 Tryd.underlying27 Tryd.underlying5 Tryd.cells_bytes Tryd.cells5 h with ⟨hcs, _⟩ | ⟨a, len, cap, A, L, C, Z, hcs, _, hl, hm, hx, hcell⟩
  · injection hcs with hcs _
    subst hcs
    exact ⟨0, ⟨none, 0, rfl, Nat.le_refl _, .inl rfl⟩, by omega⟩
  · injection hcs with hcs _
    subst hcs
    refine ⟨len, ⟨some a, cap, rfl, hl, ?_⟩, by unfold maxLen at hm; omega⟩
    by_cases hz : len = 0
    · exact .inl hz
    · obtain ⟨b, off, spot⟩ := a
      have h1 := (hcell 0 (by omega)).1
      have hspot : spot = none := by simpa [Addr.add] using World.cell?_spot h1
      subst hspot
      refine .inr ⟨b, off, rfl, fun i hi => ?_⟩
      obtain ⟨c1, c2, c3, c4, c5, c6, c7⟩ := hcell i (by omega)
      have hadd : (⟨b, off, none⟩ : Addr).add i = ⟨b, off + i, none⟩ := by unfold Addr.add; split <;> simp_all
      rw [hadd] at c1
      refine ⟨_, _, c1, bsl_of_row (A i) (L i) (C i) (Z i) c2 c3 c4 c5 c6 (fun a' h => (c7 a' h).2), ?_⟩
      have hlen : (((Z i).take (L i)).map Int.toNat).length = L i := by simp; omega
      rw [hlen]
      cases hAi : A i with
      | none => have := c6 hAi; omega
      | some a' =>
        have hd1 := congrArg Prod.fst hx
        simp only at hd1
        rw [hd1] at hd
        have h2 := rows_reach hsz (j := j) ht hd (d := intRow .u8 (A i) (L i) (Z i)) (List.mem_map.2 ⟨i, List.mem_range.2 hi, rfl⟩) (n := C i) (by rw [hAi]; exact row_weight a' _ _ _ c4)
        unfold reachBytes at h2
        omega
end
section
open Go.RowKit Go

/-- Rows of bytes of the call's own, each under a number, no two in one block. -/
structure Own (w : World) (B : Nat) (f : Nat → Option (Value × List Nat)) : Prop where
  row : ∀ i v xs, f i = some (v, xs) → w.ownsRow B 5 1 v xs.length (bv xs) ∧ ∀ x ∈ xs, x < 256
  apart : ∀ i j v xs u ys k, i ≠ j → f i = some (v, xs) → f j = some (u, ys) → v.ownBlock = some k → u.ownBlock ≠ some k
def upd (f : Nat → Option (Value × List Nat)) (i : Nat) (p : Value × List Nat) : Nat → Option (Value × List Nat) := fun j => if j = i then some p else f j
def noRows : Nat → Option (Value × List Nat) := fun _ => none
theorem Own.none (w : World) (B : Nat) : Own w B noRows := ⟨fun _ _ _ h => (by cases h), fun _ _ _ _ _ _ _ _ h => (by cases h)⟩
theorem Own.below {w w' : World} {B : Nat} {f} (h : Own w B f) (hb : Below w.heap.size w w') : Own w' B f :=
  ⟨fun i v xs e => ⟨own_below (h.row i v xs e).1 hb (rfl : 0 = 0), (h.row i v xs e).2⟩, h.apart⟩
theorem Own.bsl {w : World} {B : Nat} {f} (h : Own w B f) (i : Nat) {v : Value} {xs : List Nat} (e : f i = some (v, xs)) : BSl w v xs := BSl.own (h.row i v xs e).1 (h.row i v xs e).2
/-- A new row, in a block that was not there. -/
theorem Own.push {w w' : World} {B : Nat} {f} (h : Own w B f) (i : Nat) {v : Value} {xs : List Nat} (hb : Below w.heap.size w w') (hB : B ≤ w.heap.size) (ho : w'.ownsRow w.heap.size 5 1 v xs.length (bv xs)) (hx : ∀ x ∈ xs, x < 256) : Own w' B (upd f i (v, xs)) := by
  have h2 := h.below hb
  have lo : ∀ j u ys k, f j = some (u, ys) → u.ownBlock = some k → k < w.heap.size := fun j u ys k e hk => ((h.row j u ys e).1.lt k hk).2
  refine ⟨fun j u ys e => ?_, fun j l u ys u' ys' k hne e e' hk hk' => ?_⟩
  · unfold upd at e
    split at e
    · injection e with e
      injection e with e1 e2
      subst e1
      subst e2
      exact ⟨own_mono ho hB, hx⟩
    · exact h2.row j u ys e
  · unfold upd at e e'
    split at e
    · injection e with e
      injection e with e1 e2
      subst e1
      rw [if_neg (by omega)] at e'
      have h3 := lo l u' ys' k e' hk'
      have h4 := (ho.lt k hk).1
      omega
    · split at e'
      · injection e' with e'
        injection e' with e1 e2
        subst e1
        have h3 := lo j u ys k e hk
        have h4 := (ho.lt k hk').1
        omega
      · exact h.apart j l u ys u' ys' k hne e e' hk hk'
/-- One row has grown. -/
theorem Own.app {w w' : World} {B : Nat} {f} (h : Own w B f) (i : Nat) {v v' : Value} {xs zs : List Nat} (e0 : f i = some (v, xs)) (hg : w.grownBy w' v.ownBlock) (ho : w'.ownsRow B 5 1 v' zs.length (bv zs)) (hn : v'.ownBlock = v.ownBlock ∨ v'.ownBlock = some w.heap.size) (hz : ∀ x ∈ zs, x < 256) : Own w' B (upd f i (v', zs)) := by
  have lo : ∀ j u ys k, f j = some (u, ys) → u.ownBlock = some k → k < w.heap.size := fun j u ys k e hk => ((h.row j u ys e).1.lt k hk).2
  have hk0 : Kp (fun q => v.ownBlock = some q) w w' := (Kp.refl _ _).grown hg (fun k _ h => h)
  have far : ∀ j u ys k, j ≠ i → f j = some (u, ys) → u.ownBlock = some k → v'.ownBlock ≠ some k := fun j u ys k hne e hk hk' => by
    rcases hn with hn | hn
    · rw [hn] at hk'
      exact h.apart j i u ys v xs k hne e e0 hk hk'
    · rw [hn] at hk'
      injection hk' with hk'
      have := lo j u ys k e hk
      omega
  refine ⟨fun j u ys e => ?_, fun j l u ys u' ys' k hne e e' hk hk' => ?_⟩
  · unfold upd at e
    split at e
    · injection e with e
      injection e with e1 e2
      subst e1
      subst e2
      exact ⟨ho, hz⟩
    · rename_i hne
      exact ⟨hk0.owns (h.row j u ys e).1 (fun k hk hk' => h.apart j i u ys v xs k hne e e0 hk hk'), (h.row j u ys e).2⟩
  · unfold upd at e e'
    split at e
    · injection e with e
      injection e with e1 e2
      subst e1
      rw [if_neg (by omega)] at e'
      exact far l u' ys' k (by omega) e' hk' hk
    · split at e'
      · injection e' with e'
        injection e' with e1 e2
        subst e1
        exact far j u ys k (by omega) e hk hk'
      · exact h.apart j l u ys u' ys' k hne e e' hk hk'
/-- A literal of one byte. -/
theorem lit_row (w : World) (x : Nat) : (w.alloc (.cells #[.int .u8 ((x : Nat) : Int)] 5)).ownsRow w.heap.size 5 1 (.slice (some ⟨w.heap.size, 0, none⟩) 1 1) ([x] : List Nat).length (bv [x]) :=
  ⟨rfl, .inr ⟨w.heap.size, 1, _, rfl, Nat.le_refl _, heap_alloc_new w _, Nat.le_refl _, by unfold maxLen; omega, rfl, rfl⟩⟩
/-- append of bytes within a region that draws, and where they lie. -/
theorem step_append_bsl_at {ops : Array Oper} {o : Oper} {a : Act} {w : World} {K : Act → World → Prop} {Q : Exit → Act → World → Prop} {E : Prop} (hgd : o.guard = none) (s x : Operand)
    (ho : o.op = .call { callee := .builtin .append, args := #[s, x], argTypes := #[27, 27] }) (B : Nat) (v : Value) (n : Nat) (ds : List Nat) (hs : a.eval s = v) (hown : w.ownsRow B 5 1 v n (bv ds))
    (u : Value) (xs : List Nat) (hx : a.eval x = u) (hsl : BSl w u xs) (hlen : n + xs.length ≤ 140737488355328) (hbase : B ≤ w.heap.size)
    (hK : ∀ v' w', w'.ownsRow B 5 1 v' (n + xs.length) (bv (ds ++ xs)) → w.grownBy w' v.ownBlock → (v'.ownBlock = v.ownBlock ∨ v'.ownBlock = some w.heap.size) → K (a.put o.dst v') w') :
    if Region.wanted o (yielded ops a.tmps) = true then Oper.wp Tryd.prog o a w K Q else E := by
  have hw : Region.wanted o (yielded ops a.tmps) = true := by simp [Region.wanted, hgd]
  rw [if_pos hw]
  obtain ⟨i5, hi, hz0, hz1, hz2⟩ := info5_ex
  obtain ⟨⟨ad, cap, rfl, hn, hc⟩, hmax, hb⟩ := id hsl
  cases ad with
  | none =>
    rcases hc with rfl | ⟨_, _, e, _⟩
    · have := hn.2 rfl
      subst this
      have hrun := run_append_owned_none (P := Tryd.prog) (w := w) B 27 o.type 5 i5 1 Tryd.underlying27 hi v n (bv ds) hown
      unfold Oper.wp
      simp only [List.length_nil] at hx
      simp [execOp, ho, resolve, invoke, builtin, hs, hx, hrun, Result.andThen]
      exact hK v w (by simpa using hown) ⟨rfl, rfl, rfl, Nat.le_refl _, fun _ _ _ => rfl⟩ (.inl rfl)
    · cases e
  | some ad =>
    obtain ⟨v', w', hrun, r1, r2, _, r4⟩ := run_append_own_at (P := Tryd.prog) w B 27 o.type 5 i5 (.int .u8 0) 1 1 Tryd.underlying27 hi hz0 hz1 hz2 rfl (by decide) v n (bv ds) hown ad xs.length cap (bv xs) (by simp [bv]) hsl.src.2 (bv_one xs) (by unfold maxLen; omega) (by omega) hbase
    unfold Oper.wp
    simp [execOp, ho, resolve, invoke, builtin, hs, hx, hrun, Result.andThen]
    exact hK v' w' (by rw [bv_app]; exact r1) r2 r4

section
variable {P : Program} {Q : Exit → Act → World → Prop} {S : World → Prop} {l : List Oper} {fuel : Nat} {listed : Array Bool} {a : Act} {w : World}
/-- Begin, the number of operations a numeral. -/
theorem heldStartN {id : Nat} (n : Nat) (hn : l.length = n) (hm : P.follows .mixedOrders = true) (h : wpAnyH P .any l.toArray Q S n (Array.replicate n false) a w.drew) : (Code.region id l.toArray true).wp P Q a w := by
  subst hn
  exact heldStart hm h
/-- Two may come up. -/
theorem heldStep2 (i j : Nat) {oi oj : Oper} (hi : l[i]? = some oi) (hj : l[j]? = some oj) (hr : Region.ready .any l.toArray listed = [i, j])
    (h : ∀ K : Act → World → Prop, Hid (∀ a w, S w → (S w → wpAnyH P .any l.toArray Q S fuel (listed.setIfInBounds i true) a w) → K a w) → if Region.wanted oi (yielded l.toArray a.tmps) = true then Oper.wp P oi a w K Q else K (a.put oi.dst undef) w)
    (h2 : ∀ K : Act → World → Prop, Hid (∀ a w, S w → (S w → wpAnyH P .any l.toArray Q S fuel (listed.setIfInBounds j true) a w) → K a w) → if Region.wanted oj (yielded l.toArray a.tmps) = true then Oper.wp P oj a w K Q else K (a.put oj.dst undef) w) : wpAnyH P .any l.toArray Q S (fuel + 1) listed a w :=
  wpAnyH_ready hr (by simp) (AllReadyH.cons (by simpa using hi) (fun K hK => h K hK) (AllReadyH.cons (by simpa using hj) (fun K hK => h2 K hK) AllReadyH.nil))
/-- Three may come up. -/
theorem heldStep3 (i j k : Nat) {oi oj ok : Oper} (hi : l[i]? = some oi) (hj : l[j]? = some oj) (hk : l[k]? = some ok) (hr : Region.ready .any l.toArray listed = [i, j, k])
    (h : ∀ K : Act → World → Prop, Hid (∀ a w, S w → (S w → wpAnyH P .any l.toArray Q S fuel (listed.setIfInBounds i true) a w) → K a w) → if Region.wanted oi (yielded l.toArray a.tmps) = true then Oper.wp P oi a w K Q else K (a.put oi.dst undef) w)
    (h2 : ∀ K : Act → World → Prop, Hid (∀ a w, S w → (S w → wpAnyH P .any l.toArray Q S fuel (listed.setIfInBounds j true) a w) → K a w) → if Region.wanted oj (yielded l.toArray a.tmps) = true then Oper.wp P oj a w K Q else K (a.put oj.dst undef) w)
    (h3 : ∀ K : Act → World → Prop, Hid (∀ a w, S w → (S w → wpAnyH P .any l.toArray Q S fuel (listed.setIfInBounds k true) a w) → K a w) → if Region.wanted ok (yielded l.toArray a.tmps) = true then Oper.wp P ok a w K Q else K (a.put ok.dst undef) w) : wpAnyH P .any l.toArray Q S (fuel + 1) listed a w :=
  wpAnyH_ready hr (by simp) (AllReadyH.cons (by simpa using hi) (fun K hK => h K hK) (AllReadyH.cons (by simpa using hj) (fun K hK => h2 K hK) (AllReadyH.cons (by simpa using hk) (fun K hK => h3 K hK) AllReadyH.nil)))
end
end
section
open Go.RowKit Go

/-- 'append(rows, x)' within a region that draws, and where the rows lie. -/
theorem step_append_row_at {ops : Array Oper} {o : Oper} {a : Act} {w : World} {K : Act → World → Prop} {Q : Exit → Act → World → Prop} {E : Prop} (hgd : o.guard = none) (s x : Operand)
    (ho : o.op = .call { callee := .builtin .append, args := #[s, x], argTypes := #[22, 22] }) (B : Nat) (v : Value) (n : Nat) (ds : List Value) (hs : a.eval s = v) (hown : w.ownsRow B 27 1 v n ds)
    (y : Value) (g : Nat) (hx : a.eval x = .slice (some ⟨g, 0, none⟩) 1 1) (hy : w.cell? ⟨g, 0, none⟩ = some y) (hone : y.oneCell' = true) (hlen : n < 1099511627776) (hbase : B ≤ w.heap.size)
    (hK : ∀ v' w', w'.ownsRow B 27 1 v' (n + 1) (ds ++ [y]) → w.grownBy w' v.ownBlock → (v'.ownBlock = v.ownBlock ∨ v'.ownBlock = some w.heap.size) → K (a.put o.dst v') w') :
    if Region.wanted o (yielded ops a.tmps) = true then Oper.wp Tryd.prog o a w K Q else E := by
  have hw : Region.wanted o (yielded ops a.tmps) = true := by simp [Region.wanted, hgd]
  rw [if_pos hw]
  obtain ⟨i, hi, hz0, hz1, hz2⟩ := info50_ex
  have hnews : ∀ j u, [y][j]? = some u → w.cell? ((⟨g, 0, none⟩ : Addr).add j) = some u := fun j u hu => by
    rcases j with _ | j
    · simp at hu
      subst hu
      have hadd : (⟨g, 0, none⟩ : Addr).add 0 = ⟨g, 0, none⟩ := by simp [Addr.add]
      rw [hadd]
      exact hy
    · simp at hu
  obtain ⟨v', w', hrun, r1, r2, _, r4⟩ := run_append_own_at (P := Tryd.prog) w B 22 o.type 27 i (.slice none 0 0) 1 24 Tryd.underlying22 hi hz0 hz1 hz2 rfl (by decide) v n ds hown ⟨g, 0, none⟩ 1 1 [y] rfl hnews (fun u hu => by simp at hu; subst hu; exact hone) (by unfold maxLen; omega) (by omega) hbase
  unfold Oper.wp
  simp [execOp, ho, resolve, invoke, builtin, hs, hx, hrun, Result.andThen]
  exact hK v' w' r1 r2 r4
/-- One byte of one row is written. -/
theorem ownl_set {w : World} {B : Nat} {f} (h : Own w B f) (i g n c j z : Nat) {xs : List Nat} (e0 : f i = some (.slice (some ⟨g, 0, none⟩) n c, xs)) (hz : z < 256) : Own (w.setCell ⟨g, j, none⟩ (.int .u8 ((z : Nat) : Int))) B (upd f i (.slice (some ⟨g, 0, none⟩) n c, xs.set j z)) := by
  have hk : Kp (fun q => q = g) w (w.setCell ⟨g, j, none⟩ (.int .u8 ((z : Nat) : Int))) := (Kp.refl _ _).setCell _ _ (fun _ => rfl)
  have h0 := h.row i _ _ e0
  have hn : n = xs.length := by
    have := own_form h0.1
    obtain ⟨a', c', e, _⟩ := this
    injection e
  refine ⟨fun k u ys e => ?_, fun k l u ys u' ys' q hne e e' hq hq' => ?_⟩
  · unfold upd at e
    split at e
    · injection e with e
      injection e with e1 e2
      subst e1
      subst e2
      subst hn
      refine ⟨?_, fun x hx => ?_⟩
      · have h1 := own_set (j := j) (.int .u8 ((z : Nat) : Int)) h0.1
        rw [List.length_set, ← bv_set]
        exact h1
      · rcases List.mem_or_eq_of_mem_set hx with h2 | h2
        · exact h0.2 x h2
        · omega
    · rename_i hne
      exact ⟨hk.owns (h.row k u ys e).1 (fun q hq e' => h.apart k i u ys _ xs q hne e e0 hq (by rw [e']; rfl)), (h.row k u ys e).2⟩
  · unfold upd at e e'
    split at e
    · injection e with e
      injection e with e1 e2
      subst e1
      rw [if_neg (by omega)] at e'
      rename_i hki
      exact h.apart i l _ xs u' ys' q (by omega) e0 e' hq hq'
    · split at e'
      · injection e' with e'
        injection e' with e1 e2
        subst e1
        exact h.apart k i u ys _ xs q (by omega) e e0 hq hq'
      · exact h.apart k l u ys u' ys' q hne e e' hq hq'
end
section
open Go.RowKit Go

section
variable {ops : Array Oper} {o : Oper} {a : Act} {w : World} {K : Act → World → Prop} {Q : Exit → Act → World → Prop} {E : Prop}
/-- A call of a Go function of one argument, as one step of a region that draws, the frame a letter. -/
theorem step_call1 (hgd : o.guard = none) (f : FuncId) (t : Nat) (ts : Array TypeId) (ho : o.op = .call { callee := .value (.func f), args := #[.tmp t], argTypes := ts }) (u : Value) (hx : a.eval (.tmp t) = u)
    (hf : Sem.run Tryd.prog (callFunc f #[u]) w = .ok (.enter f #[u]) w) (hK : Calls Tryd.prog f #[u] w fun e w' => ∃ v, e = .returned v ∧ K (a.put o.dst v) w') :
    if Region.wanted o (yielded ops a.tmps) = true then Oper.wp Tryd.prog o a w K Q else E := by
  have hw : Region.wanted o (yielded ops a.tmps) = true := by simp [Region.wanted, hgd]
  rw [if_pos hw]
  have hx2 : a.tmps[t]?.getD undef = u := by simpa [Act.eval] using hx
  obtain ⟨dst, op, ty, pos, after, guard⟩ := o
  simp only at ho hgd hK
  subst ho
  have HK := hide hK
  have HF := hide hf
  clear hw hgd hK hx hf
  go_simp
  rw [HF.out]
  refine HK.out.mono ?_
  rintro e w' ⟨v, rfl, h⟩
  exact h
/-- A literal of one byte. -/
theorem step_lit1 (hgd : o.guard = none) (ho : o.op = .buildSlice 27 1 #[(0, .const (.int .u8 0))])
    (hK : K (a.put o.dst (.slice (some ⟨w.heap.size, 0, none⟩) 1 1)) (w.alloc (.cells #[.int .u8 0] 5))) :
    if Region.wanted o (yielded ops a.tmps) = true then Oper.wp Tryd.prog o a w K Q else E := by
  have hw : Region.wanted o (yielded ops a.tmps) = true := by simp [Region.wanted, hgd]
  rw [if_pos hw]
  obtain ⟨dst, op, ty, pos, after, guard⟩ := o
  simp only at ho hgd
  subst ho
  have HK := hide hK
  clear hK hw hgd
  go_simp
  exact HK.out
end
theorem copy_enters (u : Value) (w : World) : Sem.run Tryd.prog (callFunc 32 #[u]) w = .ok (.enter 32 #[u]) w := by go_simp
end
section
open Go.RowKit Go

theorem upd_same (f : Nat → Option (Value × List Nat)) (i : Nat) (p : Value × List Nat) : upd f i p i = some p := by simp [upd]
theorem upd_ne (f : Nat → Option (Value × List Nat)) (i : Nat) (p : Value × List Nat) {j : Nat} (h : j ≠ i) : upd f i p j = f j := by simp [upd, h]
/-- The operations of 'rows := [][]byte{..}' (DigestHolds). -/
def ops11 : List Oper := [{ dst := some 43, op := Op.slice 28 (Operand.tmp 6) none none none, type := 27, pos := "law.go:210", after := #[], guard := none }, { dst := some 44, op := Op.slice 28 (Operand.tmp 6) none none none, type := 27, pos := "law.go:210", after := #[], guard := none }, { dst := some 45, op := Op.call { callee := Callee.value (Operand.func 32), args := #[Operand.tmp 44], argTypes := #[27] }, type := 27, pos := "law.go:210", after := #[{ on := 1, ground := Ground.data }], guard := none }, { dst := some 46, op := Op.move (Operand.tmp 5), type := 27, pos := "law.go:210", after := #[], guard := none }, { dst := some 47, op := Op.call { callee := Callee.value (Operand.func 32), args := #[Operand.tmp 46], argTypes := #[27] }, type := 27, pos := "law.go:210", after := #[{ on := 3, ground := Ground.data }, { on := 2, ground := Ground.chain }], guard := none }, { dst := some 48, op := Op.move (Operand.tmp 5), type := 27, pos := "law.go:210", after := #[], guard := none }, { dst := some 49, op := Op.call { callee := Callee.value (Operand.func 32), args := #[Operand.tmp 48], argTypes := #[27] }, type := 27, pos := "law.go:210", after := #[{ on := 5, ground := Ground.data }, { on := 4, ground := Ground.chain }], guard := none }, { dst := some 50, op := Op.buildSlice 27 1 #[(0, Operand.const (Value.int IntKind.u8 0))], type := 27, pos := "law.go:210", after := #[], guard := none }, { dst := some 51, op := Op.call { callee := Callee.builtin Builtin.append, args := #[Operand.tmp 49, Operand.tmp 50], argTypes := #[27, 27] }, type := 27, pos := "law.go:210", after := #[{ on := 6, ground := Ground.data }, { on := 7, ground := Ground.data }, { on := 6, ground := Ground.chain }], guard := none }, { dst := some 52, op := Op.slice 28 (Operand.tmp 6) none (some (Operand.const (Value.int IntKind.i64 31))) none, type := 27, pos := "law.go:210", after := #[], guard := none }, { dst := some 53, op := Op.slice 28 (Operand.tmp 6) none none none, type := 27, pos := "law.go:210", after := #[], guard := none }, { dst := some 54, op := Op.call { callee := Callee.value (Operand.func 32), args := #[Operand.tmp 53], argTypes := #[27] }, type := 27, pos := "law.go:210", after := #[{ on := 10, ground := Ground.data }, { on := 8, ground := Ground.chain }], guard := none }, { dst := some 55, op := Op.buildSlice 27 1 #[(0, Operand.const (Value.int IntKind.u8 0))], type := 27, pos := "law.go:210", after := #[], guard := none }, { dst := some 56, op := Op.call { callee := Callee.builtin Builtin.append, args := #[Operand.tmp 54, Operand.tmp 55], argTypes := #[27, 27] }, type := 27, pos := "law.go:210", after := #[{ on := 11, ground := Ground.data }, { on := 12, ground := Ground.data }, { on := 11, ground := Ground.chain }], guard := none }, { dst := some 57, op := Op.buildSlice 22 6 #[(0, Operand.tmp 43), (1, Operand.tmp 45), (2, Operand.tmp 47), (3, Operand.tmp 51), (4, Operand.tmp 52), (5, Operand.tmp 56)], type := 22, pos := "law.go:210", after := #[{ on := 0, ground := Ground.data }, { on := 2, ground := Ground.data }, { on := 4, ground := Ground.data }, { on := 8, ground := Ground.data }, { on := 9, ground := Ground.data }, { on := 13, ground := Ground.data }], guard := none }, { dst := some 7, op := Op.assign (Operand.tmp 57), type := 22, pos := "law.go:210", after := #[{ on := 14, ground := Ground.data }, { on := 13, ground := Ground.chain }, { on := 0, ground := Ground.phase }, { on := 1, ground := Ground.phase }, { on := 2, ground := Ground.phase }, { on := 3, ground := Ground.phase }, { on := 4, ground := Ground.phase }, { on := 5, ground := Ground.phase }, { on := 6, ground := Ground.phase }, { on := 7, ground := Ground.phase }, { on := 8, ground := Ground.phase }, { on := 9, ground := Ground.phase }, { on := 10, ground := Ground.phase }, { on := 11, ground := Ground.phase }, { on := 12, ground := Ground.phase }, { on := 13, ground := Ground.phase }, { on := 14, ground := Ground.phase }], guard := none }]

set_option maxRecDepth 1000000 in
set_option maxHeartbeats 2000000 in
/-- The six rows, in whatever order they come to be. -/
theorem reg11 {Q : Exit → Act → World → Prop} {w5 : World} {dd : Nat} {D xs : List Nat} {vu : Value} (mk : Value → Value → Value → Value → Value → Value → Value → Value → Act) (u45 u47 u49 u50 u51 u54 u55 u56 : Value)
    (h44 : ∀ p q r s t u v x, (mk p q r s t u v x).eval (.tmp 44) = .slice (some ⟨dd, 0, none⟩) 32 32) (h53 : ∀ p q r s t u v x, (mk p q r s t u v x).eval (.tmp 53) = .slice (some ⟨dd, 0, none⟩) 32 32) (h46 : ∀ p q r s t u v x, (mk p q r s t u v x).eval (.tmp 46) = vu) (h48 : ∀ p q r s t u v x, (mk p q r s t u v x).eval (.tmp 48) = vu) (h49 : ∀ p q r s t u v x, (mk p q r s t u v x).eval (.tmp 49) = r) (h50 : ∀ p q r s t u v x, (mk p q r s t u v x).eval (.tmp 50) = s) (h54 : ∀ p q r s t u v x, (mk p q r s t u v x).eval (.tmp 54) = u) (h55 : ∀ p q r s t u v x, (mk p q r s t u v x).eval (.tmp 55) = v)
    (p45 : ∀ p q r s t u v x y, (mk p q r s t u v x).put (some 45) y = mk y q r s t u v x) (p47 : ∀ p q r s t u v x y, (mk p q r s t u v x).put (some 47) y = mk p y r s t u v x) (p49 : ∀ p q r s t u v x y, (mk p q r s t u v x).put (some 49) y = mk p q y s t u v x) (p50 : ∀ p q r s t u v x y, (mk p q r s t u v x).put (some 50) y = mk p q r y t u v x) (p51 : ∀ p q r s t u v x y, (mk p q r s t u v x).put (some 51) y = mk p q r s y u v x) (p54 : ∀ p q r s t u v x y, (mk p q r s t u v x).put (some 54) y = mk p q r s t y v x) (p55 : ∀ p q r s t u v x y, (mk p q r s t u v x).put (some 55) y = mk p q r s t u y x) (p56 : ∀ p q r s t u v x y, (mk p q r s t u v x).put (some 56) y = mk p q r s t u v y)
    (HDB : ∀ wx, Below w5.heap.size w5 wx → BSl wx (.slice (some ⟨dd, 0, none⟩) 32 32) D) (HXB : ∀ wx, Below w5.heap.size w5 wx → BSl wx vu xs) (HDL : D.length ≤ 140737488351232) (HXL : xs.length ≤ 140737488351232) (HSB : ∀ x ∈ D, x < 256) (HXY : ∀ x ∈ xs, x < 256)
    (HLA : xs.length + ([0] : List Nat).length ≤ 140737488355328) (HLB : D.length + ([0] : List Nat).length ≤ 140737488355328) (HYA : ∀ x ∈ xs ++ [0], x < 256) (HYB : ∀ x ∈ D ++ [0], x < 256)
    (hLeaf : ∀ (v45 v47 v49 v50 v51 v54 v55 v56 : Value) (wn : World) (f : Nat → Option (Value × List Nat)), Below w5.heap.size w5 wn → Own wn w5.heap.size f → f 1 = some (v45, D) → f 2 = some (v47, xs) → f 3 = some (v51, xs ++ [0]) → f 5 = some (v56, D ++ [0]) → f 7 = some (v50, [0]) → f 12 = some (v55, [0]) → wpAnyH Tryd.prog .any ops11.toArray Q (fun w' => Below w5.heap.size w5 w') 2 #[true, true, true, true, true, true, true, true, true, true, true, true, true, true, false, false] (mk v45 v47 v49 v50 v51 v54 v55 v56) wn)
    {listed : Array Bool} (hl0 : listed = #[true, true, false, true, false, true, false, false, false, true, true, false, false, false, false, false]) {wn : World} (hS : Below w5.heap.size w5 wn) : wpAnyH Tryd.prog .any ops11.toArray Q (fun w' => Below w5.heap.size w5 w') 10 listed (mk u45 u47 u49 u50 u51 u54 u55 u56) wn := by
  subst hl0
  have st_2_4_6_7_8_11_12 : ∀ (v45 v47 v49 v50 v51 v54 v55 : Value) (wn : World) (f : Nat → Option (Value × List Nat)), Below w5.heap.size w5 wn → Own wn w5.heap.size f → f 1 = some (v45, D) → f 2 = some (v47, xs) → f 3 = some (v51, xs ++ [0]) → f 5 = some (v54, D) → f 7 = some (v50, [0]) → f 12 = some (v55, [0]) → wpAnyH Tryd.prog .any ops11.toArray Q (fun w' => Below w5.heap.size w5 w') 3 #[true, true, true, true, true, true, true, true, true, true, true, true, true, false, false, false] (mk v45 v47 v49 v50 v51 v54 v55 u56) wn := by
    intro v45 v47 v49 v50 v51 v54 v55 wn f hS HO e1 e2 e3 e5 e7 e12
    refine heldStep 13 rfl (by kernel_rfl) (fun K hK => ?_)
    · refine step_append_bsl_at rfl (.tmp 54) (.tmp 55) rfl w5.heap.size v54 _ D (h54 _ _ _ _ _ _ _ _) (HO.row 5 _ _ e5).1 v55 [0] (h55 _ _ _ _ _ _ _ _) (HO.bsl 12 e12) HLB hS.size ?_
      intro v wm h1 h2 h3
      refine hK.out _ _ (hS.trans (((Kp.refl _ _).grown h2 (fun k _ h => h)).below hS.size (fun k hk => ((HO.row 5 _ _ e5).1.lt k hk).1))) (fun hS2 => ?_)
      have hl : (#[true, true, true, true, true, true, true, true, true, true, true, true, true, false, false, false] : Array Bool).setIfInBounds 13 true = #[true, true, true, true, true, true, true, true, true, true, true, true, true, true, false, false] := by kernel_rfl
      rw [hl]
      refine cast (congrArg (fun a => wpAnyH Tryd.prog .any ops11.toArray Q _ _ _ a _) (p56 _ _ _ _ _ _ _ _ _).symm) ?_
      exact hLeaf _ _ _ _ _ _ _ _ _ _ hS2 (HO.app 5 (zs := D ++ [0]) e5 h2 (by rw [List.length_append]; exact h1) h3 HYB) ((upd_ne _ _ _ (by decide)).trans e1) ((upd_ne _ _ _ (by decide)).trans e2) ((upd_ne _ _ _ (by decide)).trans e3) (upd_same _ _ _) ((upd_ne _ _ _ (by decide)).trans e7) ((upd_ne _ _ _ (by decide)).trans e12)
  have st_2_4_6_7_8_11 : ∀ (v45 v47 v49 v50 v51 v54 : Value) (wn : World) (f : Nat → Option (Value × List Nat)), Below w5.heap.size w5 wn → Own wn w5.heap.size f → f 1 = some (v45, D) → f 2 = some (v47, xs) → f 3 = some (v51, xs ++ [0]) → f 5 = some (v54, D) → f 7 = some (v50, [0]) → wpAnyH Tryd.prog .any ops11.toArray Q (fun w' => Below w5.heap.size w5 w') 4 #[true, true, true, true, true, true, true, true, true, true, true, true, false, false, false, false] (mk v45 v47 v49 v50 v51 v54 u55 u56) wn := by
    intro v45 v47 v49 v50 v51 v54 wn f hS HO e1 e2 e3 e5 e7
    refine heldStep 12 rfl (by kernel_rfl) (fun K hK => ?_)
    · refine step_lit1 rfl rfl ?_
      refine hK.out _ _ (hS.trans ((below_alloc _ _).mono hS.size)) (fun hS2 => ?_)
      have hl : (#[true, true, true, true, true, true, true, true, true, true, true, true, false, false, false, false] : Array Bool).setIfInBounds 12 true = #[true, true, true, true, true, true, true, true, true, true, true, true, true, false, false, false] := by kernel_rfl
      rw [hl]
      refine cast (congrArg (fun a => wpAnyH Tryd.prog .any ops11.toArray Q _ _ _ a _) (p55 _ _ _ _ _ _ _ _ _).symm) ?_
      exact st_2_4_6_7_8_11_12 _ _ _ _ _ _ _ _ _ hS2 (HO.push 12 (below_alloc _ _) hS.size (lit_row _ 0) (by simp)) ((upd_ne _ _ _ (by decide)).trans e1) ((upd_ne _ _ _ (by decide)).trans e2) ((upd_ne _ _ _ (by decide)).trans e3) ((upd_ne _ _ _ (by decide)).trans e5) ((upd_ne _ _ _ (by decide)).trans e7) (upd_same _ _ _)
  have st_2_4_6_7_8_12 : ∀ (v45 v47 v49 v50 v51 v55 : Value) (wn : World) (f : Nat → Option (Value × List Nat)), Below w5.heap.size w5 wn → Own wn w5.heap.size f → f 1 = some (v45, D) → f 2 = some (v47, xs) → f 3 = some (v51, xs ++ [0]) → f 7 = some (v50, [0]) → f 12 = some (v55, [0]) → wpAnyH Tryd.prog .any ops11.toArray Q (fun w' => Below w5.heap.size w5 w') 4 #[true, true, true, true, true, true, true, true, true, true, true, false, true, false, false, false] (mk v45 v47 v49 v50 v51 u54 v55 u56) wn := by
    intro v45 v47 v49 v50 v51 v55 wn f hS HO e1 e2 e3 e7 e12
    refine heldStep 11 rfl (by kernel_rfl) (fun K hK => ?_)
    · refine step_call1 rfl _ 53 _ rfl _ (h53 _ _ _ _ _ _ _ _) (copy_enters _ _) ?_
      refine (copy_any _ _ D (HDB _ hS) HDL).mono ?_
      rintro e wm ⟨v, rfl, ho, hbn⟩
      refine ⟨v, rfl, hK.out _ _ (hS.trans (hbn.mono hS.size)) (fun hS2 => ?_)⟩
      have hl : (#[true, true, true, true, true, true, true, true, true, true, true, false, true, false, false, false] : Array Bool).setIfInBounds 11 true = #[true, true, true, true, true, true, true, true, true, true, true, true, true, false, false, false] := by kernel_rfl
      rw [hl]
      refine cast (congrArg (fun a => wpAnyH Tryd.prog .any ops11.toArray Q _ _ _ a _) (p54 _ _ _ _ _ _ _ _ _).symm) ?_
      exact st_2_4_6_7_8_11_12 _ _ _ _ _ _ _ _ _ hS2 (HO.push 5 hbn hS.size ho HSB) ((upd_ne _ _ _ (by decide)).trans e1) ((upd_ne _ _ _ (by decide)).trans e2) ((upd_ne _ _ _ (by decide)).trans e3) (upd_same _ _ _) ((upd_ne _ _ _ (by decide)).trans e7) ((upd_ne _ _ _ (by decide)).trans e12)
  have st_2_4_6_7_8 : ∀ (v45 v47 v49 v50 v51 : Value) (wn : World) (f : Nat → Option (Value × List Nat)), Below w5.heap.size w5 wn → Own wn w5.heap.size f → f 1 = some (v45, D) → f 2 = some (v47, xs) → f 3 = some (v51, xs ++ [0]) → f 7 = some (v50, [0]) → wpAnyH Tryd.prog .any ops11.toArray Q (fun w' => Below w5.heap.size w5 w') 5 #[true, true, true, true, true, true, true, true, true, true, true, false, false, false, false, false] (mk v45 v47 v49 v50 v51 u54 u55 u56) wn := by
    intro v45 v47 v49 v50 v51 wn f hS HO e1 e2 e3 e7
    refine heldStep2 11 12 rfl rfl (by kernel_rfl) (fun K hK => ?_) (fun K hK => ?_)
    · refine step_call1 rfl _ 53 _ rfl _ (h53 _ _ _ _ _ _ _ _) (copy_enters _ _) ?_
      refine (copy_any _ _ D (HDB _ hS) HDL).mono ?_
      rintro e wm ⟨v, rfl, ho, hbn⟩
      refine ⟨v, rfl, hK.out _ _ (hS.trans (hbn.mono hS.size)) (fun hS2 => ?_)⟩
      have hl : (#[true, true, true, true, true, true, true, true, true, true, true, false, false, false, false, false] : Array Bool).setIfInBounds 11 true = #[true, true, true, true, true, true, true, true, true, true, true, true, false, false, false, false] := by kernel_rfl
      rw [hl]
      refine cast (congrArg (fun a => wpAnyH Tryd.prog .any ops11.toArray Q _ _ _ a _) (p54 _ _ _ _ _ _ _ _ _).symm) ?_
      exact st_2_4_6_7_8_11 _ _ _ _ _ _ _ _ hS2 (HO.push 5 hbn hS.size ho HSB) ((upd_ne _ _ _ (by decide)).trans e1) ((upd_ne _ _ _ (by decide)).trans e2) ((upd_ne _ _ _ (by decide)).trans e3) (upd_same _ _ _) ((upd_ne _ _ _ (by decide)).trans e7)
    · refine step_lit1 rfl rfl ?_
      refine hK.out _ _ (hS.trans ((below_alloc _ _).mono hS.size)) (fun hS2 => ?_)
      have hl : (#[true, true, true, true, true, true, true, true, true, true, true, false, false, false, false, false] : Array Bool).setIfInBounds 12 true = #[true, true, true, true, true, true, true, true, true, true, true, false, true, false, false, false] := by kernel_rfl
      rw [hl]
      refine cast (congrArg (fun a => wpAnyH Tryd.prog .any ops11.toArray Q _ _ _ a _) (p55 _ _ _ _ _ _ _ _ _).symm) ?_
      exact st_2_4_6_7_8_12 _ _ _ _ _ _ _ _ hS2 (HO.push 12 (below_alloc _ _) hS.size (lit_row _ 0) (by simp)) ((upd_ne _ _ _ (by decide)).trans e1) ((upd_ne _ _ _ (by decide)).trans e2) ((upd_ne _ _ _ (by decide)).trans e3) ((upd_ne _ _ _ (by decide)).trans e7) (upd_same _ _ _)
  have st_2_4_6_7_12 : ∀ (v45 v47 v49 v50 v55 : Value) (wn : World) (f : Nat → Option (Value × List Nat)), Below w5.heap.size w5 wn → Own wn w5.heap.size f → f 1 = some (v45, D) → f 2 = some (v47, xs) → f 3 = some (v49, xs) → f 7 = some (v50, [0]) → f 12 = some (v55, [0]) → wpAnyH Tryd.prog .any ops11.toArray Q (fun w' => Below w5.heap.size w5 w') 5 #[true, true, true, true, true, true, true, true, false, true, true, false, true, false, false, false] (mk v45 v47 v49 v50 u51 u54 v55 u56) wn := by
    intro v45 v47 v49 v50 v55 wn f hS HO e1 e2 e3 e7 e12
    refine heldStep 8 rfl (by kernel_rfl) (fun K hK => ?_)
    · refine step_append_bsl_at rfl (.tmp 49) (.tmp 50) rfl w5.heap.size v49 _ xs (h49 _ _ _ _ _ _ _ _) (HO.row 3 _ _ e3).1 v50 [0] (h50 _ _ _ _ _ _ _ _) (HO.bsl 7 e7) HLA hS.size ?_
      intro v wm h1 h2 h3
      refine hK.out _ _ (hS.trans (((Kp.refl _ _).grown h2 (fun k _ h => h)).below hS.size (fun k hk => ((HO.row 3 _ _ e3).1.lt k hk).1))) (fun hS2 => ?_)
      have hl : (#[true, true, true, true, true, true, true, true, false, true, true, false, true, false, false, false] : Array Bool).setIfInBounds 8 true = #[true, true, true, true, true, true, true, true, true, true, true, false, true, false, false, false] := by kernel_rfl
      rw [hl]
      refine cast (congrArg (fun a => wpAnyH Tryd.prog .any ops11.toArray Q _ _ _ a _) (p51 _ _ _ _ _ _ _ _ _).symm) ?_
      exact st_2_4_6_7_8_12 _ _ _ _ _ _ _ _ hS2 (HO.app 3 (zs := xs ++ [0]) e3 h2 (by rw [List.length_append]; exact h1) h3 HYA) ((upd_ne _ _ _ (by decide)).trans e1) ((upd_ne _ _ _ (by decide)).trans e2) (upd_same _ _ _) ((upd_ne _ _ _ (by decide)).trans e7) ((upd_ne _ _ _ (by decide)).trans e12)
  have st_2_4_6_7 : ∀ (v45 v47 v49 v50 : Value) (wn : World) (f : Nat → Option (Value × List Nat)), Below w5.heap.size w5 wn → Own wn w5.heap.size f → f 1 = some (v45, D) → f 2 = some (v47, xs) → f 3 = some (v49, xs) → f 7 = some (v50, [0]) → wpAnyH Tryd.prog .any ops11.toArray Q (fun w' => Below w5.heap.size w5 w') 6 #[true, true, true, true, true, true, true, true, false, true, true, false, false, false, false, false] (mk v45 v47 v49 v50 u51 u54 u55 u56) wn := by
    intro v45 v47 v49 v50 wn f hS HO e1 e2 e3 e7
    refine heldStep2 8 12 rfl rfl (by kernel_rfl) (fun K hK => ?_) (fun K hK => ?_)
    · refine step_append_bsl_at rfl (.tmp 49) (.tmp 50) rfl w5.heap.size v49 _ xs (h49 _ _ _ _ _ _ _ _) (HO.row 3 _ _ e3).1 v50 [0] (h50 _ _ _ _ _ _ _ _) (HO.bsl 7 e7) HLA hS.size ?_
      intro v wm h1 h2 h3
      refine hK.out _ _ (hS.trans (((Kp.refl _ _).grown h2 (fun k _ h => h)).below hS.size (fun k hk => ((HO.row 3 _ _ e3).1.lt k hk).1))) (fun hS2 => ?_)
      have hl : (#[true, true, true, true, true, true, true, true, false, true, true, false, false, false, false, false] : Array Bool).setIfInBounds 8 true = #[true, true, true, true, true, true, true, true, true, true, true, false, false, false, false, false] := by kernel_rfl
      rw [hl]
      refine cast (congrArg (fun a => wpAnyH Tryd.prog .any ops11.toArray Q _ _ _ a _) (p51 _ _ _ _ _ _ _ _ _).symm) ?_
      exact st_2_4_6_7_8 _ _ _ _ _ _ _ hS2 (HO.app 3 (zs := xs ++ [0]) e3 h2 (by rw [List.length_append]; exact h1) h3 HYA) ((upd_ne _ _ _ (by decide)).trans e1) ((upd_ne _ _ _ (by decide)).trans e2) (upd_same _ _ _) ((upd_ne _ _ _ (by decide)).trans e7)
    · refine step_lit1 rfl rfl ?_
      refine hK.out _ _ (hS.trans ((below_alloc _ _).mono hS.size)) (fun hS2 => ?_)
      have hl : (#[true, true, true, true, true, true, true, true, false, true, true, false, false, false, false, false] : Array Bool).setIfInBounds 12 true = #[true, true, true, true, true, true, true, true, false, true, true, false, true, false, false, false] := by kernel_rfl
      rw [hl]
      refine cast (congrArg (fun a => wpAnyH Tryd.prog .any ops11.toArray Q _ _ _ a _) (p55 _ _ _ _ _ _ _ _ _).symm) ?_
      exact st_2_4_6_7_12 _ _ _ _ _ _ _ hS2 (HO.push 12 (below_alloc _ _) hS.size (lit_row _ 0) (by simp)) ((upd_ne _ _ _ (by decide)).trans e1) ((upd_ne _ _ _ (by decide)).trans e2) ((upd_ne _ _ _ (by decide)).trans e3) ((upd_ne _ _ _ (by decide)).trans e7) (upd_same _ _ _)
  have st_2_4_6_12 : ∀ (v45 v47 v49 v55 : Value) (wn : World) (f : Nat → Option (Value × List Nat)), Below w5.heap.size w5 wn → Own wn w5.heap.size f → f 1 = some (v45, D) → f 2 = some (v47, xs) → f 3 = some (v49, xs) → f 12 = some (v55, [0]) → wpAnyH Tryd.prog .any ops11.toArray Q (fun w' => Below w5.heap.size w5 w') 6 #[true, true, true, true, true, true, true, false, false, true, true, false, true, false, false, false] (mk v45 v47 v49 u50 u51 u54 v55 u56) wn := by
    intro v45 v47 v49 v55 wn f hS HO e1 e2 e3 e12
    refine heldStep 7 rfl (by kernel_rfl) (fun K hK => ?_)
    · refine step_lit1 rfl rfl ?_
      refine hK.out _ _ (hS.trans ((below_alloc _ _).mono hS.size)) (fun hS2 => ?_)
      have hl : (#[true, true, true, true, true, true, true, false, false, true, true, false, true, false, false, false] : Array Bool).setIfInBounds 7 true = #[true, true, true, true, true, true, true, true, false, true, true, false, true, false, false, false] := by kernel_rfl
      rw [hl]
      refine cast (congrArg (fun a => wpAnyH Tryd.prog .any ops11.toArray Q _ _ _ a _) (p50 _ _ _ _ _ _ _ _ _).symm) ?_
      exact st_2_4_6_7_12 _ _ _ _ _ _ _ hS2 (HO.push 7 (below_alloc _ _) hS.size (lit_row _ 0) (by simp)) ((upd_ne _ _ _ (by decide)).trans e1) ((upd_ne _ _ _ (by decide)).trans e2) ((upd_ne _ _ _ (by decide)).trans e3) (upd_same _ _ _) ((upd_ne _ _ _ (by decide)).trans e12)
  have st_2_4_7_12 : ∀ (v45 v47 v50 v55 : Value) (wn : World) (f : Nat → Option (Value × List Nat)), Below w5.heap.size w5 wn → Own wn w5.heap.size f → f 1 = some (v45, D) → f 2 = some (v47, xs) → f 7 = some (v50, [0]) → f 12 = some (v55, [0]) → wpAnyH Tryd.prog .any ops11.toArray Q (fun w' => Below w5.heap.size w5 w') 6 #[true, true, true, true, true, true, false, true, false, true, true, false, true, false, false, false] (mk v45 v47 u49 v50 u51 u54 v55 u56) wn := by
    intro v45 v47 v50 v55 wn f hS HO e1 e2 e7 e12
    refine heldStep 6 rfl (by kernel_rfl) (fun K hK => ?_)
    · refine step_call1 rfl _ 48 _ rfl _ (h48 _ _ _ _ _ _ _ _) (copy_enters _ _) ?_
      refine (copy_any _ _ xs (HXB _ hS) HXL).mono ?_
      rintro e wm ⟨v, rfl, ho, hbn⟩
      refine ⟨v, rfl, hK.out _ _ (hS.trans (hbn.mono hS.size)) (fun hS2 => ?_)⟩
      have hl : (#[true, true, true, true, true, true, false, true, false, true, true, false, true, false, false, false] : Array Bool).setIfInBounds 6 true = #[true, true, true, true, true, true, true, true, false, true, true, false, true, false, false, false] := by kernel_rfl
      rw [hl]
      refine cast (congrArg (fun a => wpAnyH Tryd.prog .any ops11.toArray Q _ _ _ a _) (p49 _ _ _ _ _ _ _ _ _).symm) ?_
      exact st_2_4_6_7_12 _ _ _ _ _ _ _ hS2 (HO.push 3 hbn hS.size ho HXY) ((upd_ne _ _ _ (by decide)).trans e1) ((upd_ne _ _ _ (by decide)).trans e2) (upd_same _ _ _) ((upd_ne _ _ _ (by decide)).trans e7) ((upd_ne _ _ _ (by decide)).trans e12)
  have st_2_4_6 : ∀ (v45 v47 v49 : Value) (wn : World) (f : Nat → Option (Value × List Nat)), Below w5.heap.size w5 wn → Own wn w5.heap.size f → f 1 = some (v45, D) → f 2 = some (v47, xs) → f 3 = some (v49, xs) → wpAnyH Tryd.prog .any ops11.toArray Q (fun w' => Below w5.heap.size w5 w') 7 #[true, true, true, true, true, true, true, false, false, true, true, false, false, false, false, false] (mk v45 v47 v49 u50 u51 u54 u55 u56) wn := by
    intro v45 v47 v49 wn f hS HO e1 e2 e3
    refine heldStep2 7 12 rfl rfl (by kernel_rfl) (fun K hK => ?_) (fun K hK => ?_)
    · refine step_lit1 rfl rfl ?_
      refine hK.out _ _ (hS.trans ((below_alloc _ _).mono hS.size)) (fun hS2 => ?_)
      have hl : (#[true, true, true, true, true, true, true, false, false, true, true, false, false, false, false, false] : Array Bool).setIfInBounds 7 true = #[true, true, true, true, true, true, true, true, false, true, true, false, false, false, false, false] := by kernel_rfl
      rw [hl]
      refine cast (congrArg (fun a => wpAnyH Tryd.prog .any ops11.toArray Q _ _ _ a _) (p50 _ _ _ _ _ _ _ _ _).symm) ?_
      exact st_2_4_6_7 _ _ _ _ _ _ hS2 (HO.push 7 (below_alloc _ _) hS.size (lit_row _ 0) (by simp)) ((upd_ne _ _ _ (by decide)).trans e1) ((upd_ne _ _ _ (by decide)).trans e2) ((upd_ne _ _ _ (by decide)).trans e3) (upd_same _ _ _)
    · refine step_lit1 rfl rfl ?_
      refine hK.out _ _ (hS.trans ((below_alloc _ _).mono hS.size)) (fun hS2 => ?_)
      have hl : (#[true, true, true, true, true, true, true, false, false, true, true, false, false, false, false, false] : Array Bool).setIfInBounds 12 true = #[true, true, true, true, true, true, true, false, false, true, true, false, true, false, false, false] := by kernel_rfl
      rw [hl]
      refine cast (congrArg (fun a => wpAnyH Tryd.prog .any ops11.toArray Q _ _ _ a _) (p55 _ _ _ _ _ _ _ _ _).symm) ?_
      exact st_2_4_6_12 _ _ _ _ _ _ hS2 (HO.push 12 (below_alloc _ _) hS.size (lit_row _ 0) (by simp)) ((upd_ne _ _ _ (by decide)).trans e1) ((upd_ne _ _ _ (by decide)).trans e2) ((upd_ne _ _ _ (by decide)).trans e3) (upd_same _ _ _)
  have st_2_4_7 : ∀ (v45 v47 v50 : Value) (wn : World) (f : Nat → Option (Value × List Nat)), Below w5.heap.size w5 wn → Own wn w5.heap.size f → f 1 = some (v45, D) → f 2 = some (v47, xs) → f 7 = some (v50, [0]) → wpAnyH Tryd.prog .any ops11.toArray Q (fun w' => Below w5.heap.size w5 w') 7 #[true, true, true, true, true, true, false, true, false, true, true, false, false, false, false, false] (mk v45 v47 u49 v50 u51 u54 u55 u56) wn := by
    intro v45 v47 v50 wn f hS HO e1 e2 e7
    refine heldStep2 6 12 rfl rfl (by kernel_rfl) (fun K hK => ?_) (fun K hK => ?_)
    · refine step_call1 rfl _ 48 _ rfl _ (h48 _ _ _ _ _ _ _ _) (copy_enters _ _) ?_
      refine (copy_any _ _ xs (HXB _ hS) HXL).mono ?_
      rintro e wm ⟨v, rfl, ho, hbn⟩
      refine ⟨v, rfl, hK.out _ _ (hS.trans (hbn.mono hS.size)) (fun hS2 => ?_)⟩
      have hl : (#[true, true, true, true, true, true, false, true, false, true, true, false, false, false, false, false] : Array Bool).setIfInBounds 6 true = #[true, true, true, true, true, true, true, true, false, true, true, false, false, false, false, false] := by kernel_rfl
      rw [hl]
      refine cast (congrArg (fun a => wpAnyH Tryd.prog .any ops11.toArray Q _ _ _ a _) (p49 _ _ _ _ _ _ _ _ _).symm) ?_
      exact st_2_4_6_7 _ _ _ _ _ _ hS2 (HO.push 3 hbn hS.size ho HXY) ((upd_ne _ _ _ (by decide)).trans e1) ((upd_ne _ _ _ (by decide)).trans e2) (upd_same _ _ _) ((upd_ne _ _ _ (by decide)).trans e7)
    · refine step_lit1 rfl rfl ?_
      refine hK.out _ _ (hS.trans ((below_alloc _ _).mono hS.size)) (fun hS2 => ?_)
      have hl : (#[true, true, true, true, true, true, false, true, false, true, true, false, false, false, false, false] : Array Bool).setIfInBounds 12 true = #[true, true, true, true, true, true, false, true, false, true, true, false, true, false, false, false] := by kernel_rfl
      rw [hl]
      refine cast (congrArg (fun a => wpAnyH Tryd.prog .any ops11.toArray Q _ _ _ a _) (p55 _ _ _ _ _ _ _ _ _).symm) ?_
      exact st_2_4_7_12 _ _ _ _ _ _ hS2 (HO.push 12 (below_alloc _ _) hS.size (lit_row _ 0) (by simp)) ((upd_ne _ _ _ (by decide)).trans e1) ((upd_ne _ _ _ (by decide)).trans e2) ((upd_ne _ _ _ (by decide)).trans e7) (upd_same _ _ _)
  have st_2_4_12 : ∀ (v45 v47 v55 : Value) (wn : World) (f : Nat → Option (Value × List Nat)), Below w5.heap.size w5 wn → Own wn w5.heap.size f → f 1 = some (v45, D) → f 2 = some (v47, xs) → f 12 = some (v55, [0]) → wpAnyH Tryd.prog .any ops11.toArray Q (fun w' => Below w5.heap.size w5 w') 7 #[true, true, true, true, true, true, false, false, false, true, true, false, true, false, false, false] (mk v45 v47 u49 u50 u51 u54 v55 u56) wn := by
    intro v45 v47 v55 wn f hS HO e1 e2 e12
    refine heldStep2 6 7 rfl rfl (by kernel_rfl) (fun K hK => ?_) (fun K hK => ?_)
    · refine step_call1 rfl _ 48 _ rfl _ (h48 _ _ _ _ _ _ _ _) (copy_enters _ _) ?_
      refine (copy_any _ _ xs (HXB _ hS) HXL).mono ?_
      rintro e wm ⟨v, rfl, ho, hbn⟩
      refine ⟨v, rfl, hK.out _ _ (hS.trans (hbn.mono hS.size)) (fun hS2 => ?_)⟩
      have hl : (#[true, true, true, true, true, true, false, false, false, true, true, false, true, false, false, false] : Array Bool).setIfInBounds 6 true = #[true, true, true, true, true, true, true, false, false, true, true, false, true, false, false, false] := by kernel_rfl
      rw [hl]
      refine cast (congrArg (fun a => wpAnyH Tryd.prog .any ops11.toArray Q _ _ _ a _) (p49 _ _ _ _ _ _ _ _ _).symm) ?_
      exact st_2_4_6_12 _ _ _ _ _ _ hS2 (HO.push 3 hbn hS.size ho HXY) ((upd_ne _ _ _ (by decide)).trans e1) ((upd_ne _ _ _ (by decide)).trans e2) (upd_same _ _ _) ((upd_ne _ _ _ (by decide)).trans e12)
    · refine step_lit1 rfl rfl ?_
      refine hK.out _ _ (hS.trans ((below_alloc _ _).mono hS.size)) (fun hS2 => ?_)
      have hl : (#[true, true, true, true, true, true, false, false, false, true, true, false, true, false, false, false] : Array Bool).setIfInBounds 7 true = #[true, true, true, true, true, true, false, true, false, true, true, false, true, false, false, false] := by kernel_rfl
      rw [hl]
      refine cast (congrArg (fun a => wpAnyH Tryd.prog .any ops11.toArray Q _ _ _ a _) (p50 _ _ _ _ _ _ _ _ _).symm) ?_
      exact st_2_4_7_12 _ _ _ _ _ _ hS2 (HO.push 7 (below_alloc _ _) hS.size (lit_row _ 0) (by simp)) ((upd_ne _ _ _ (by decide)).trans e1) ((upd_ne _ _ _ (by decide)).trans e2) (upd_same _ _ _) ((upd_ne _ _ _ (by decide)).trans e12)
  have st_2_7_12 : ∀ (v45 v50 v55 : Value) (wn : World) (f : Nat → Option (Value × List Nat)), Below w5.heap.size w5 wn → Own wn w5.heap.size f → f 1 = some (v45, D) → f 7 = some (v50, [0]) → f 12 = some (v55, [0]) → wpAnyH Tryd.prog .any ops11.toArray Q (fun w' => Below w5.heap.size w5 w') 7 #[true, true, true, true, false, true, false, true, false, true, true, false, true, false, false, false] (mk v45 u47 u49 v50 u51 u54 v55 u56) wn := by
    intro v45 v50 v55 wn f hS HO e1 e7 e12
    refine heldStep 4 rfl (by kernel_rfl) (fun K hK => ?_)
    · refine step_call1 rfl _ 46 _ rfl _ (h46 _ _ _ _ _ _ _ _) (copy_enters _ _) ?_
      refine (copy_any _ _ xs (HXB _ hS) HXL).mono ?_
      rintro e wm ⟨v, rfl, ho, hbn⟩
      refine ⟨v, rfl, hK.out _ _ (hS.trans (hbn.mono hS.size)) (fun hS2 => ?_)⟩
      have hl : (#[true, true, true, true, false, true, false, true, false, true, true, false, true, false, false, false] : Array Bool).setIfInBounds 4 true = #[true, true, true, true, true, true, false, true, false, true, true, false, true, false, false, false] := by kernel_rfl
      rw [hl]
      refine cast (congrArg (fun a => wpAnyH Tryd.prog .any ops11.toArray Q _ _ _ a _) (p47 _ _ _ _ _ _ _ _ _).symm) ?_
      exact st_2_4_7_12 _ _ _ _ _ _ hS2 (HO.push 2 hbn hS.size ho HXY) ((upd_ne _ _ _ (by decide)).trans e1) (upd_same _ _ _) ((upd_ne _ _ _ (by decide)).trans e7) ((upd_ne _ _ _ (by decide)).trans e12)
  have st_2_4 : ∀ (v45 v47 : Value) (wn : World) (f : Nat → Option (Value × List Nat)), Below w5.heap.size w5 wn → Own wn w5.heap.size f → f 1 = some (v45, D) → f 2 = some (v47, xs) → wpAnyH Tryd.prog .any ops11.toArray Q (fun w' => Below w5.heap.size w5 w') 8 #[true, true, true, true, true, true, false, false, false, true, true, false, false, false, false, false] (mk v45 v47 u49 u50 u51 u54 u55 u56) wn := by
    intro v45 v47 wn f hS HO e1 e2
    refine heldStep3 6 7 12 rfl rfl rfl (by kernel_rfl) (fun K hK => ?_) (fun K hK => ?_) (fun K hK => ?_)
    · refine step_call1 rfl _ 48 _ rfl _ (h48 _ _ _ _ _ _ _ _) (copy_enters _ _) ?_
      refine (copy_any _ _ xs (HXB _ hS) HXL).mono ?_
      rintro e wm ⟨v, rfl, ho, hbn⟩
      refine ⟨v, rfl, hK.out _ _ (hS.trans (hbn.mono hS.size)) (fun hS2 => ?_)⟩
      have hl : (#[true, true, true, true, true, true, false, false, false, true, true, false, false, false, false, false] : Array Bool).setIfInBounds 6 true = #[true, true, true, true, true, true, true, false, false, true, true, false, false, false, false, false] := by kernel_rfl
      rw [hl]
      refine cast (congrArg (fun a => wpAnyH Tryd.prog .any ops11.toArray Q _ _ _ a _) (p49 _ _ _ _ _ _ _ _ _).symm) ?_
      exact st_2_4_6 _ _ _ _ _ hS2 (HO.push 3 hbn hS.size ho HXY) ((upd_ne _ _ _ (by decide)).trans e1) ((upd_ne _ _ _ (by decide)).trans e2) (upd_same _ _ _)
    · refine step_lit1 rfl rfl ?_
      refine hK.out _ _ (hS.trans ((below_alloc _ _).mono hS.size)) (fun hS2 => ?_)
      have hl : (#[true, true, true, true, true, true, false, false, false, true, true, false, false, false, false, false] : Array Bool).setIfInBounds 7 true = #[true, true, true, true, true, true, false, true, false, true, true, false, false, false, false, false] := by kernel_rfl
      rw [hl]
      refine cast (congrArg (fun a => wpAnyH Tryd.prog .any ops11.toArray Q _ _ _ a _) (p50 _ _ _ _ _ _ _ _ _).symm) ?_
      exact st_2_4_7 _ _ _ _ _ hS2 (HO.push 7 (below_alloc _ _) hS.size (lit_row _ 0) (by simp)) ((upd_ne _ _ _ (by decide)).trans e1) ((upd_ne _ _ _ (by decide)).trans e2) (upd_same _ _ _)
    · refine step_lit1 rfl rfl ?_
      refine hK.out _ _ (hS.trans ((below_alloc _ _).mono hS.size)) (fun hS2 => ?_)
      have hl : (#[true, true, true, true, true, true, false, false, false, true, true, false, false, false, false, false] : Array Bool).setIfInBounds 12 true = #[true, true, true, true, true, true, false, false, false, true, true, false, true, false, false, false] := by kernel_rfl
      rw [hl]
      refine cast (congrArg (fun a => wpAnyH Tryd.prog .any ops11.toArray Q _ _ _ a _) (p55 _ _ _ _ _ _ _ _ _).symm) ?_
      exact st_2_4_12 _ _ _ _ _ hS2 (HO.push 12 (below_alloc _ _) hS.size (lit_row _ 0) (by simp)) ((upd_ne _ _ _ (by decide)).trans e1) ((upd_ne _ _ _ (by decide)).trans e2) (upd_same _ _ _)
  have st_2_7 : ∀ (v45 v50 : Value) (wn : World) (f : Nat → Option (Value × List Nat)), Below w5.heap.size w5 wn → Own wn w5.heap.size f → f 1 = some (v45, D) → f 7 = some (v50, [0]) → wpAnyH Tryd.prog .any ops11.toArray Q (fun w' => Below w5.heap.size w5 w') 8 #[true, true, true, true, false, true, false, true, false, true, true, false, false, false, false, false] (mk v45 u47 u49 v50 u51 u54 u55 u56) wn := by
    intro v45 v50 wn f hS HO e1 e7
    refine heldStep2 4 12 rfl rfl (by kernel_rfl) (fun K hK => ?_) (fun K hK => ?_)
    · refine step_call1 rfl _ 46 _ rfl _ (h46 _ _ _ _ _ _ _ _) (copy_enters _ _) ?_
      refine (copy_any _ _ xs (HXB _ hS) HXL).mono ?_
      rintro e wm ⟨v, rfl, ho, hbn⟩
      refine ⟨v, rfl, hK.out _ _ (hS.trans (hbn.mono hS.size)) (fun hS2 => ?_)⟩
      have hl : (#[true, true, true, true, false, true, false, true, false, true, true, false, false, false, false, false] : Array Bool).setIfInBounds 4 true = #[true, true, true, true, true, true, false, true, false, true, true, false, false, false, false, false] := by kernel_rfl
      rw [hl]
      refine cast (congrArg (fun a => wpAnyH Tryd.prog .any ops11.toArray Q _ _ _ a _) (p47 _ _ _ _ _ _ _ _ _).symm) ?_
      exact st_2_4_7 _ _ _ _ _ hS2 (HO.push 2 hbn hS.size ho HXY) ((upd_ne _ _ _ (by decide)).trans e1) (upd_same _ _ _) ((upd_ne _ _ _ (by decide)).trans e7)
    · refine step_lit1 rfl rfl ?_
      refine hK.out _ _ (hS.trans ((below_alloc _ _).mono hS.size)) (fun hS2 => ?_)
      have hl : (#[true, true, true, true, false, true, false, true, false, true, true, false, false, false, false, false] : Array Bool).setIfInBounds 12 true = #[true, true, true, true, false, true, false, true, false, true, true, false, true, false, false, false] := by kernel_rfl
      rw [hl]
      refine cast (congrArg (fun a => wpAnyH Tryd.prog .any ops11.toArray Q _ _ _ a _) (p55 _ _ _ _ _ _ _ _ _).symm) ?_
      exact st_2_7_12 _ _ _ _ _ hS2 (HO.push 12 (below_alloc _ _) hS.size (lit_row _ 0) (by simp)) ((upd_ne _ _ _ (by decide)).trans e1) ((upd_ne _ _ _ (by decide)).trans e7) (upd_same _ _ _)
  have st_2_12 : ∀ (v45 v55 : Value) (wn : World) (f : Nat → Option (Value × List Nat)), Below w5.heap.size w5 wn → Own wn w5.heap.size f → f 1 = some (v45, D) → f 12 = some (v55, [0]) → wpAnyH Tryd.prog .any ops11.toArray Q (fun w' => Below w5.heap.size w5 w') 8 #[true, true, true, true, false, true, false, false, false, true, true, false, true, false, false, false] (mk v45 u47 u49 u50 u51 u54 v55 u56) wn := by
    intro v45 v55 wn f hS HO e1 e12
    refine heldStep2 4 7 rfl rfl (by kernel_rfl) (fun K hK => ?_) (fun K hK => ?_)
    · refine step_call1 rfl _ 46 _ rfl _ (h46 _ _ _ _ _ _ _ _) (copy_enters _ _) ?_
      refine (copy_any _ _ xs (HXB _ hS) HXL).mono ?_
      rintro e wm ⟨v, rfl, ho, hbn⟩
      refine ⟨v, rfl, hK.out _ _ (hS.trans (hbn.mono hS.size)) (fun hS2 => ?_)⟩
      have hl : (#[true, true, true, true, false, true, false, false, false, true, true, false, true, false, false, false] : Array Bool).setIfInBounds 4 true = #[true, true, true, true, true, true, false, false, false, true, true, false, true, false, false, false] := by kernel_rfl
      rw [hl]
      refine cast (congrArg (fun a => wpAnyH Tryd.prog .any ops11.toArray Q _ _ _ a _) (p47 _ _ _ _ _ _ _ _ _).symm) ?_
      exact st_2_4_12 _ _ _ _ _ hS2 (HO.push 2 hbn hS.size ho HXY) ((upd_ne _ _ _ (by decide)).trans e1) (upd_same _ _ _) ((upd_ne _ _ _ (by decide)).trans e12)
    · refine step_lit1 rfl rfl ?_
      refine hK.out _ _ (hS.trans ((below_alloc _ _).mono hS.size)) (fun hS2 => ?_)
      have hl : (#[true, true, true, true, false, true, false, false, false, true, true, false, true, false, false, false] : Array Bool).setIfInBounds 7 true = #[true, true, true, true, false, true, false, true, false, true, true, false, true, false, false, false] := by kernel_rfl
      rw [hl]
      refine cast (congrArg (fun a => wpAnyH Tryd.prog .any ops11.toArray Q _ _ _ a _) (p50 _ _ _ _ _ _ _ _ _).symm) ?_
      exact st_2_7_12 _ _ _ _ _ hS2 (HO.push 7 (below_alloc _ _) hS.size (lit_row _ 0) (by simp)) ((upd_ne _ _ _ (by decide)).trans e1) (upd_same _ _ _) ((upd_ne _ _ _ (by decide)).trans e12)
  have st_7_12 : ∀ (v50 v55 : Value) (wn : World) (f : Nat → Option (Value × List Nat)), Below w5.heap.size w5 wn → Own wn w5.heap.size f → f 7 = some (v50, [0]) → f 12 = some (v55, [0]) → wpAnyH Tryd.prog .any ops11.toArray Q (fun w' => Below w5.heap.size w5 w') 8 #[true, true, false, true, false, true, false, true, false, true, true, false, true, false, false, false] (mk u45 u47 u49 v50 u51 u54 v55 u56) wn := by
    intro v50 v55 wn f hS HO e7 e12
    refine heldStep 2 rfl (by kernel_rfl) (fun K hK => ?_)
    · refine step_call1 rfl _ 44 _ rfl _ (h44 _ _ _ _ _ _ _ _) (copy_enters _ _) ?_
      refine (copy_any _ _ D (HDB _ hS) HDL).mono ?_
      rintro e wm ⟨v, rfl, ho, hbn⟩
      refine ⟨v, rfl, hK.out _ _ (hS.trans (hbn.mono hS.size)) (fun hS2 => ?_)⟩
      have hl : (#[true, true, false, true, false, true, false, true, false, true, true, false, true, false, false, false] : Array Bool).setIfInBounds 2 true = #[true, true, true, true, false, true, false, true, false, true, true, false, true, false, false, false] := by kernel_rfl
      rw [hl]
      refine cast (congrArg (fun a => wpAnyH Tryd.prog .any ops11.toArray Q _ _ _ a _) (p45 _ _ _ _ _ _ _ _ _).symm) ?_
      exact st_2_7_12 _ _ _ _ _ hS2 (HO.push 1 hbn hS.size ho HSB) (upd_same _ _ _) ((upd_ne _ _ _ (by decide)).trans e7) ((upd_ne _ _ _ (by decide)).trans e12)
  have st_2 : ∀ (v45 : Value) (wn : World) (f : Nat → Option (Value × List Nat)), Below w5.heap.size w5 wn → Own wn w5.heap.size f → f 1 = some (v45, D) → wpAnyH Tryd.prog .any ops11.toArray Q (fun w' => Below w5.heap.size w5 w') 9 #[true, true, true, true, false, true, false, false, false, true, true, false, false, false, false, false] (mk v45 u47 u49 u50 u51 u54 u55 u56) wn := by
    intro v45 wn f hS HO e1
    refine heldStep3 4 7 12 rfl rfl rfl (by kernel_rfl) (fun K hK => ?_) (fun K hK => ?_) (fun K hK => ?_)
    · refine step_call1 rfl _ 46 _ rfl _ (h46 _ _ _ _ _ _ _ _) (copy_enters _ _) ?_
      refine (copy_any _ _ xs (HXB _ hS) HXL).mono ?_
      rintro e wm ⟨v, rfl, ho, hbn⟩
      refine ⟨v, rfl, hK.out _ _ (hS.trans (hbn.mono hS.size)) (fun hS2 => ?_)⟩
      have hl : (#[true, true, true, true, false, true, false, false, false, true, true, false, false, false, false, false] : Array Bool).setIfInBounds 4 true = #[true, true, true, true, true, true, false, false, false, true, true, false, false, false, false, false] := by kernel_rfl
      rw [hl]
      refine cast (congrArg (fun a => wpAnyH Tryd.prog .any ops11.toArray Q _ _ _ a _) (p47 _ _ _ _ _ _ _ _ _).symm) ?_
      exact st_2_4 _ _ _ _ hS2 (HO.push 2 hbn hS.size ho HXY) ((upd_ne _ _ _ (by decide)).trans e1) (upd_same _ _ _)
    · refine step_lit1 rfl rfl ?_
      refine hK.out _ _ (hS.trans ((below_alloc _ _).mono hS.size)) (fun hS2 => ?_)
      have hl : (#[true, true, true, true, false, true, false, false, false, true, true, false, false, false, false, false] : Array Bool).setIfInBounds 7 true = #[true, true, true, true, false, true, false, true, false, true, true, false, false, false, false, false] := by kernel_rfl
      rw [hl]
      refine cast (congrArg (fun a => wpAnyH Tryd.prog .any ops11.toArray Q _ _ _ a _) (p50 _ _ _ _ _ _ _ _ _).symm) ?_
      exact st_2_7 _ _ _ _ hS2 (HO.push 7 (below_alloc _ _) hS.size (lit_row _ 0) (by simp)) ((upd_ne _ _ _ (by decide)).trans e1) (upd_same _ _ _)
    · refine step_lit1 rfl rfl ?_
      refine hK.out _ _ (hS.trans ((below_alloc _ _).mono hS.size)) (fun hS2 => ?_)
      have hl : (#[true, true, true, true, false, true, false, false, false, true, true, false, false, false, false, false] : Array Bool).setIfInBounds 12 true = #[true, true, true, true, false, true, false, false, false, true, true, false, true, false, false, false] := by kernel_rfl
      rw [hl]
      refine cast (congrArg (fun a => wpAnyH Tryd.prog .any ops11.toArray Q _ _ _ a _) (p55 _ _ _ _ _ _ _ _ _).symm) ?_
      exact st_2_12 _ _ _ _ hS2 (HO.push 12 (below_alloc _ _) hS.size (lit_row _ 0) (by simp)) ((upd_ne _ _ _ (by decide)).trans e1) (upd_same _ _ _)
  have st_7 : ∀ (v50 : Value) (wn : World) (f : Nat → Option (Value × List Nat)), Below w5.heap.size w5 wn → Own wn w5.heap.size f → f 7 = some (v50, [0]) → wpAnyH Tryd.prog .any ops11.toArray Q (fun w' => Below w5.heap.size w5 w') 9 #[true, true, false, true, false, true, false, true, false, true, true, false, false, false, false, false] (mk u45 u47 u49 v50 u51 u54 u55 u56) wn := by
    intro v50 wn f hS HO e7
    refine heldStep2 2 12 rfl rfl (by kernel_rfl) (fun K hK => ?_) (fun K hK => ?_)
    · refine step_call1 rfl _ 44 _ rfl _ (h44 _ _ _ _ _ _ _ _) (copy_enters _ _) ?_
      refine (copy_any _ _ D (HDB _ hS) HDL).mono ?_
      rintro e wm ⟨v, rfl, ho, hbn⟩
      refine ⟨v, rfl, hK.out _ _ (hS.trans (hbn.mono hS.size)) (fun hS2 => ?_)⟩
      have hl : (#[true, true, false, true, false, true, false, true, false, true, true, false, false, false, false, false] : Array Bool).setIfInBounds 2 true = #[true, true, true, true, false, true, false, true, false, true, true, false, false, false, false, false] := by kernel_rfl
      rw [hl]
      refine cast (congrArg (fun a => wpAnyH Tryd.prog .any ops11.toArray Q _ _ _ a _) (p45 _ _ _ _ _ _ _ _ _).symm) ?_
      exact st_2_7 _ _ _ _ hS2 (HO.push 1 hbn hS.size ho HSB) (upd_same _ _ _) ((upd_ne _ _ _ (by decide)).trans e7)
    · refine step_lit1 rfl rfl ?_
      refine hK.out _ _ (hS.trans ((below_alloc _ _).mono hS.size)) (fun hS2 => ?_)
      have hl : (#[true, true, false, true, false, true, false, true, false, true, true, false, false, false, false, false] : Array Bool).setIfInBounds 12 true = #[true, true, false, true, false, true, false, true, false, true, true, false, true, false, false, false] := by kernel_rfl
      rw [hl]
      refine cast (congrArg (fun a => wpAnyH Tryd.prog .any ops11.toArray Q _ _ _ a _) (p55 _ _ _ _ _ _ _ _ _).symm) ?_
      exact st_7_12 _ _ _ _ hS2 (HO.push 12 (below_alloc _ _) hS.size (lit_row _ 0) (by simp)) ((upd_ne _ _ _ (by decide)).trans e7) (upd_same _ _ _)
  have st_12 : ∀ (v55 : Value) (wn : World) (f : Nat → Option (Value × List Nat)), Below w5.heap.size w5 wn → Own wn w5.heap.size f → f 12 = some (v55, [0]) → wpAnyH Tryd.prog .any ops11.toArray Q (fun w' => Below w5.heap.size w5 w') 9 #[true, true, false, true, false, true, false, false, false, true, true, false, true, false, false, false] (mk u45 u47 u49 u50 u51 u54 v55 u56) wn := by
    intro v55 wn f hS HO e12
    refine heldStep2 2 7 rfl rfl (by kernel_rfl) (fun K hK => ?_) (fun K hK => ?_)
    · refine step_call1 rfl _ 44 _ rfl _ (h44 _ _ _ _ _ _ _ _) (copy_enters _ _) ?_
      refine (copy_any _ _ D (HDB _ hS) HDL).mono ?_
      rintro e wm ⟨v, rfl, ho, hbn⟩
      refine ⟨v, rfl, hK.out _ _ (hS.trans (hbn.mono hS.size)) (fun hS2 => ?_)⟩
      have hl : (#[true, true, false, true, false, true, false, false, false, true, true, false, true, false, false, false] : Array Bool).setIfInBounds 2 true = #[true, true, true, true, false, true, false, false, false, true, true, false, true, false, false, false] := by kernel_rfl
      rw [hl]
      refine cast (congrArg (fun a => wpAnyH Tryd.prog .any ops11.toArray Q _ _ _ a _) (p45 _ _ _ _ _ _ _ _ _).symm) ?_
      exact st_2_12 _ _ _ _ hS2 (HO.push 1 hbn hS.size ho HSB) (upd_same _ _ _) ((upd_ne _ _ _ (by decide)).trans e12)
    · refine step_lit1 rfl rfl ?_
      refine hK.out _ _ (hS.trans ((below_alloc _ _).mono hS.size)) (fun hS2 => ?_)
      have hl : (#[true, true, false, true, false, true, false, false, false, true, true, false, true, false, false, false] : Array Bool).setIfInBounds 7 true = #[true, true, false, true, false, true, false, true, false, true, true, false, true, false, false, false] := by kernel_rfl
      rw [hl]
      refine cast (congrArg (fun a => wpAnyH Tryd.prog .any ops11.toArray Q _ _ _ a _) (p50 _ _ _ _ _ _ _ _ _).symm) ?_
      exact st_7_12 _ _ _ _ hS2 (HO.push 7 (below_alloc _ _) hS.size (lit_row _ 0) (by simp)) (upd_same _ _ _) ((upd_ne _ _ _ (by decide)).trans e12)
  have st : ∀ (wn : World) (f : Nat → Option (Value × List Nat)), Below w5.heap.size w5 wn → Own wn w5.heap.size f → wpAnyH Tryd.prog .any ops11.toArray Q (fun w' => Below w5.heap.size w5 w') 10 #[true, true, false, true, false, true, false, false, false, true, true, false, false, false, false, false] (mk u45 u47 u49 u50 u51 u54 u55 u56) wn := by
    intro  wn f hS HO 
    refine heldStep3 2 7 12 rfl rfl rfl (by kernel_rfl) (fun K hK => ?_) (fun K hK => ?_) (fun K hK => ?_)
    · refine step_call1 rfl _ 44 _ rfl _ (h44 _ _ _ _ _ _ _ _) (copy_enters _ _) ?_
      refine (copy_any _ _ D (HDB _ hS) HDL).mono ?_
      rintro e wm ⟨v, rfl, ho, hbn⟩
      refine ⟨v, rfl, hK.out _ _ (hS.trans (hbn.mono hS.size)) (fun hS2 => ?_)⟩
      have hl : (#[true, true, false, true, false, true, false, false, false, true, true, false, false, false, false, false] : Array Bool).setIfInBounds 2 true = #[true, true, true, true, false, true, false, false, false, true, true, false, false, false, false, false] := by kernel_rfl
      rw [hl]
      refine cast (congrArg (fun a => wpAnyH Tryd.prog .any ops11.toArray Q _ _ _ a _) (p45 _ _ _ _ _ _ _ _ _).symm) ?_
      exact st_2 _ _ _ hS2 (HO.push 1 hbn hS.size ho HSB) (upd_same _ _ _)
    · refine step_lit1 rfl rfl ?_
      refine hK.out _ _ (hS.trans ((below_alloc _ _).mono hS.size)) (fun hS2 => ?_)
      have hl : (#[true, true, false, true, false, true, false, false, false, true, true, false, false, false, false, false] : Array Bool).setIfInBounds 7 true = #[true, true, false, true, false, true, false, true, false, true, true, false, false, false, false, false] := by kernel_rfl
      rw [hl]
      refine cast (congrArg (fun a => wpAnyH Tryd.prog .any ops11.toArray Q _ _ _ a _) (p50 _ _ _ _ _ _ _ _ _).symm) ?_
      exact st_7 _ _ _ hS2 (HO.push 7 (below_alloc _ _) hS.size (lit_row _ 0) (by simp)) (upd_same _ _ _)
    · refine step_lit1 rfl rfl ?_
      refine hK.out _ _ (hS.trans ((below_alloc _ _).mono hS.size)) (fun hS2 => ?_)
      have hl : (#[true, true, false, true, false, true, false, false, false, true, true, false, false, false, false, false] : Array Bool).setIfInBounds 12 true = #[true, true, false, true, false, true, false, false, false, true, true, false, true, false, false, false] := by kernel_rfl
      rw [hl]
      refine cast (congrArg (fun a => wpAnyH Tryd.prog .any ops11.toArray Q _ _ _ a _) (p55 _ _ _ _ _ _ _ _ _).symm) ?_
      exact st_12 _ _ _ hS2 (HO.push 12 (below_alloc _ _) hS.size (lit_row _ 0) (by simp)) (upd_same _ _ _)
  exact st wn noRows hS (Own.none _ _)
theorem put_same (a : Act) (i : Nat) (v u : Value) : (a.put (some i) v).put (some i) u = a.put (some i) u := by simp [Act.put]
theorem put_comm (a : Act) {i j : Nat} (h : i ≠ j) (v u : Value) : (a.put (some i) v).put (some j) u = (a.put (some j) u).put (some i) v := by
  simp only [Act.put]
  rw [Array.setIfInBounds_comm _ _ h]
theorem size_put (a : Act) (i : Nat) (v : Value) : (a.put (some i) v).tmps.size = a.tmps.size := by simp [Act.put]
theorem eval_put_ne (a : Act) {i j : Nat} (h : i ≠ j) (v : Value) : (a.put (some i) v).eval (.tmp j) = a.eval (.tmp j) := by
  simp only [Act.put, Act.eval, Array.getD_eq_getD_getElem?]
  rw [Array.getElem?_setIfInBounds_ne h]
theorem eval_put_same (a : Act) {i : Nat} (h : i < a.tmps.size) (v : Value) : (a.put (some i) v).eval (.tmp i) = v := by
  simp [Act.put, Act.eval, h]
theorem put_self (a : Act) {i : Nat} (h : i < a.tmps.size) : a.put (some i) (a.eval (.tmp i)) = a := by
  obtain ⟨l, t⟩ := a
  have e : l.setIfInBounds i (l.getD i undef) = l := by
    refine Array.ext (by simp) fun k h1 h2 => ?_
    by_cases hk : i = k
    · subst hk
      simp [h2]
    · exact Array.getElem_setIfInBounds_ne h2 hk
  simp only [Act.put, Act.eval, e]
/-- The eight slots of the region. -/
def put8 (a : Act) (p q r s t u v x : Value) : Act := (((((((a.put (some 45) p).put (some 47) q).put (some 49) r).put (some 50) s).put (some 51) t).put (some 54) u).put (some 55) v).put (some 56) x
theorem put8_self (a : Act) (h : 57 ≤ a.tmps.size) : put8 a (a.eval (.tmp 45)) (a.eval (.tmp 47)) (a.eval (.tmp 49)) (a.eval (.tmp 50)) (a.eval (.tmp 51)) (a.eval (.tmp 54)) (a.eval (.tmp 55)) (a.eval (.tmp 56)) = a := by
  unfold put8
  rw [put_self a (by omega), put_self a (by omega), put_self a (by omega), put_self a (by omega), put_self a (by omega), put_self a (by omega), put_self a (by omega), put_self a (by omega)]
theorem put8_eval (a : Act) (p q r s t u v x : Value) {j : Nat} (h : j = 44 ∨ j = 53 ∨ j = 46 ∨ j = 48) : (put8 a p q r s t u v x).eval (.tmp j) = a.eval (.tmp j) := by
  unfold put8
  rcases h with rfl | rfl | rfl | rfl
  all_goals rw [eval_put_ne _ (by decide), eval_put_ne _ (by decide), eval_put_ne _ (by decide), eval_put_ne _ (by decide), eval_put_ne _ (by decide), eval_put_ne _ (by decide), eval_put_ne _ (by decide), eval_put_ne _ (by decide)]

/-- The six rows, over a frame that is a letter. -/
theorem reg11a {Q : Exit → Act → World → Prop} {w5 : World} {dd : Nat} {D xs : List Nat} {vu : Value} {a : Act} (hsz : 57 ≤ a.tmps.size)
    (h44 : a.eval (.tmp 44) = .slice (some ⟨dd, 0, none⟩) 32 32) (h53 : a.eval (.tmp 53) = .slice (some ⟨dd, 0, none⟩) 32 32) (h46 : a.eval (.tmp 46) = vu) (h48 : a.eval (.tmp 48) = vu)
    (HDB : ∀ wx, Below w5.heap.size w5 wx → BSl wx (.slice (some ⟨dd, 0, none⟩) 32 32) D) (HXB : ∀ wx, Below w5.heap.size w5 wx → BSl wx vu xs) (HDL : D.length ≤ 140737488351232) (HXL : xs.length ≤ 140737488351232) (HSB : ∀ x ∈ D, x < 256) (HXY : ∀ x ∈ xs, x < 256)
    (hLeaf : ∀ (v45 v47 v49 v50 v51 v54 v55 v56 : Value) (wn : World) (f : Nat → Option (Value × List Nat)), Below w5.heap.size w5 wn → Own wn w5.heap.size f → f 1 = some (v45, D) → f 2 = some (v47, xs) → f 3 = some (v51, xs ++ [0]) → f 5 = some (v56, D ++ [0]) → wpAnyH Tryd.prog .any ops11.toArray Q (fun w' => Below w5.heap.size w5 w') 2 #[true, true, true, true, true, true, true, true, true, true, true, true, true, true, false, false] (put8 a v45 v47 v49 v50 v51 v54 v55 v56) wn)
    {listed : Array Bool} (hl0 : listed = #[true, true, false, true, false, true, false, false, false, true, true, false, false, false, false, false]) {wn : World} (hS : Below w5.heap.size w5 wn) : wpAnyH Tryd.prog .any ops11.toArray Q (fun w' => Below w5.heap.size w5 w') 10 listed a wn := by
  have hb1 : ∀ x ∈ xs ++ [0], x < 256 := fun x hx => by
    rcases List.mem_append.1 hx with h | h
    · exact HXY x h
    · simp at h
      omega
  have hb2 : ∀ x ∈ D ++ [0], x < 256 := fun x hx => by
    rcases List.mem_append.1 hx with h | h
    · exact HSB x h
    · simp at h
      omega
  have key := reg11 (Q := Q) (w5 := w5) (dd := dd) (D := D) (xs := xs) (vu := vu) (put8 a) (a.eval (.tmp 45)) (a.eval (.tmp 47)) (a.eval (.tmp 49)) (a.eval (.tmp 50)) (a.eval (.tmp 51)) (a.eval (.tmp 54)) (a.eval (.tmp 55)) (a.eval (.tmp 56))
    (fun _ _ _ _ _ _ _ _ => (put8_eval a _ _ _ _ _ _ _ _ (by decide)).trans h44) (fun _ _ _ _ _ _ _ _ => (put8_eval a _ _ _ _ _ _ _ _ (by decide)).trans h53) (fun _ _ _ _ _ _ _ _ => (put8_eval a _ _ _ _ _ _ _ _ (by decide)).trans h46) (fun _ _ _ _ _ _ _ _ => (put8_eval a _ _ _ _ _ _ _ _ (by decide)).trans h48)
    (fun p q r s t u v x => by unfold put8; rw [eval_put_ne _ (by decide), eval_put_ne _ (by decide), eval_put_ne _ (by decide), eval_put_ne _ (by decide), eval_put_ne _ (by decide), eval_put_same _ (by simp only [size_put]; omega)])
    (fun p q r s t u v x => by unfold put8; rw [eval_put_ne _ (by decide), eval_put_ne _ (by decide), eval_put_ne _ (by decide), eval_put_ne _ (by decide), eval_put_same _ (by simp only [size_put]; omega)])
    (fun p q r s t u v x => by unfold put8; rw [eval_put_ne _ (by decide), eval_put_ne _ (by decide), eval_put_same _ (by simp only [size_put]; omega)])
    (fun p q r s t u v x => by unfold put8; rw [eval_put_ne _ (by decide), eval_put_same _ (by simp only [size_put]; omega)])
    (fun p q r s t u v x y => by unfold put8; rw [put_comm (i := 56) (j := 45) _ (by decide), put_comm (i := 55) (j := 45) _ (by decide), put_comm (i := 54) (j := 45) _ (by decide), put_comm (i := 51) (j := 45) _ (by decide), put_comm (i := 50) (j := 45) _ (by decide), put_comm (i := 49) (j := 45) _ (by decide), put_comm (i := 47) (j := 45) _ (by decide), put_same])
    (fun p q r s t u v x y => by unfold put8; rw [put_comm (i := 56) (j := 47) _ (by decide), put_comm (i := 55) (j := 47) _ (by decide), put_comm (i := 54) (j := 47) _ (by decide), put_comm (i := 51) (j := 47) _ (by decide), put_comm (i := 50) (j := 47) _ (by decide), put_comm (i := 49) (j := 47) _ (by decide), put_same])
    (fun p q r s t u v x y => by unfold put8; rw [put_comm (i := 56) (j := 49) _ (by decide), put_comm (i := 55) (j := 49) _ (by decide), put_comm (i := 54) (j := 49) _ (by decide), put_comm (i := 51) (j := 49) _ (by decide), put_comm (i := 50) (j := 49) _ (by decide), put_same])
    (fun p q r s t u v x y => by unfold put8; rw [put_comm (i := 56) (j := 50) _ (by decide), put_comm (i := 55) (j := 50) _ (by decide), put_comm (i := 54) (j := 50) _ (by decide), put_comm (i := 51) (j := 50) _ (by decide), put_same])
    (fun p q r s t u v x y => by unfold put8; rw [put_comm (i := 56) (j := 51) _ (by decide), put_comm (i := 55) (j := 51) _ (by decide), put_comm (i := 54) (j := 51) _ (by decide), put_same])
    (fun p q r s t u v x y => by unfold put8; rw [put_comm (i := 56) (j := 54) _ (by decide), put_comm (i := 55) (j := 54) _ (by decide), put_same])
    (fun p q r s t u v x y => by unfold put8; rw [put_comm (i := 56) (j := 55) _ (by decide), put_same])
    (fun p q r s t u v x y => by unfold put8; rw [put_same])
    HDB HXB HDL HXL HSB HXY (by simp only [List.length_singleton]; omega) (by simp only [List.length_singleton]; omega) hb1 hb2
    (fun v45 v47 v49 v50 v51 v54 v55 v56 wn f h1 h2 h3 h4 h5 h6 _ _ => hLeaf v45 v47 v49 v50 v51 v54 v55 v56 wn f h1 h2 h3 h4 h5 h6) hl0 hS
  rw [put8_self a hsz] at key
  exact key
end
section
open Go.RowKit Go

/-- A slice of uint64. -/
structure U64In (w : World) (v : Value) (hs : List Nat) : Prop where
  form : ∃ a c, v = .slice a hs.length c ∧ (hs = [] ∨ ∃ b off, a = some ⟨b, off, none⟩ ∧ ∀ j, j < hs.length → w.cell? ⟨b, off + j, none⟩ = some (.int .u64 ((hs.getD j 0 : Nat) : Int)))
  lt : ∀ x ∈ hs, x < 18446744073709551616
  max : hs.length ≤ 9223372036854775807
theorem U64In.move {w w' : World} {v : Value} {hs : List Nat} (h : U64In w v hs) (hm : ∀ p u, w.cell? p = some u → w'.cell? p = some u) : U64In w' v hs := by
  obtain ⟨⟨a, c, hv, hc⟩, h1, h2⟩ := h
  refine ⟨⟨a, c, hv, ?_⟩, h1, h2⟩
  rcases hc with hc | ⟨b, off, ha, hc⟩
  · exact .inl hc
  · exact .inr ⟨b, off, ha, fun j hj => hm _ _ (hc j hj)⟩
/-- The hash of a place. -/
def hashOf (hs : List Nat) (i : Nat) : Nat := if hs = [] then 18 else hs.getD (i % hs.length) 0
theorem hashOf_lt {hs : List Nat} (h : ∀ x ∈ hs, x < 18446744073709551616) (i : Nat) : hashOf hs i < 18446744073709551616 := by
  unfold hashOf
  split
  · omega
  · rename_i hne
    have hl : i % hs.length < hs.length := Nat.mod_lt _ (List.length_pos_iff.2 hne)
    have : hs.getD (i % hs.length) 0 = hs[i % hs.length] := by simp [List.getD, hl]
    rw [this]
    exact h _ (List.getElem_mem hl)

set_option maxRecDepth 1000000 in
set_option maxHeartbeats 400000 in
theorem hash_any (w : World) (vh vd vb : Value) (hs : List Nat) (i : Nat) (h : U64In w vh hs) (hi : i ≤ 9223372036854775807) :
    Calls Tryd.prog 24 #[.agg #[vh, vd, vb], .int .i64 (i : Nat)] w fun e w' => e = .returned (.int .u64 (hashOf hs i : Nat)) ∧ Below w.heap.size w w' := by
  have HLT := hide h.lt
  have hmx := h.max
  obtain ⟨a, c, rfl, hc⟩ := h.form
  have HC := hide hc
  clear h hc
  by_cases h0 : hs = []
  · subst h0
    have HR : Hid (hashOf [] i = 18) := rfl
    clear HC HLT hmx
    go_enter Tryd.func24, Tryd.ntmps24
    go_wp2_with fail
    go_ret
    exact ⟨by rw [HR.out]; rfl, below_alloc w _⟩
  · have hpos : 0 < hs.length := List.length_pos_iff.2 h0
    have hl : i % hs.length < hs.length := Nat.mod_lt _ hpos
    have HR : Hid (hashOf hs i = hs.getD (i % hs.length) 0) := by unfold hashOf; show _ = _; rw [if_neg h0]
    obtain ⟨b, off, rfl, hcell⟩ := HC.out.resolve_left h0
    have c0 : (w.alloc (.cells #[.slice (some ⟨b, off, none⟩) hs.length c, vd, vb] 47)).cell? ⟨b, off + i % hs.length, none⟩ = some (.int .u64 ((hs.getD (i % hs.length) 0 : Nat) : Int)) := keep_below (below_alloc w _) _ _ (hcell _ hl)
    have hp1 : ¬ hs.length = 0 := by omega
    clear HC hcell h0 HLT
    generalize hs.getD (i % hs.length) 0 = q at *
    generalize hs.length = n at *
    have hn0 : ¬ (n : Int) = 0 := by omega
    have hmi : (i : Int) % (n : Int) = ((i % n : Nat) : Int) := by omega
    have hml : ((i % n : Nat) : Int) < (n : Int) := by omega
    clear hl hp1 hpos
    generalize i % n = im at *
    go_enter Tryd.func24, Tryd.ntmps24
    go_wp2_with fail
    go_quiet (fail)
    go_wp2_with fail
    go_ret
    exact ⟨by rw [HR.out]; rfl, (((Kp.of_below (S := fun _ => False) (below_alloc w _)).drewN _).below (Nat.le_refl _) (fun _ h => h.elim))⟩
end
section
open Go.RowKit Go
theorem cell_one (w : World) (v : Value) (t : TypeId) : (w.alloc (.cells #[v] t)).cell? ⟨w.heap.size, 0, none⟩ = some v := blk_cell (by show (w.heap.push _)[w.heap.size]? = _; rw [Array.getElem?_push_size]) rfl
theorem Lnt.belowq {w w' : World} {base g cap : Nat} {xs : List Nat} (h : Lnt w base g cap xs) (hb : Below w.heap.size w w') : Lnt w' base g cap xs := h.kp (Kp.of_below (S := fun _ => False) hb) (fun h => h)
theorem intactq {w : World} {base g cap : Nat} {xs : List Nat} (h : Lnt w base g cap xs) (vb : Value) (hb : BSl w vb xs) :
    Calls Tryd.prog 14 #[.slice (some ⟨g, 0, none⟩) xs.length cap, vb] w fun e w' => e = .returned (.bool true) ∧ Below w.heap.size w w' :=
  (intact_any h vb hb).mono fun _ _ ⟨he, hk⟩ => ⟨he, hk.below (Nat.le_refl _) (fun _ h => h.elim)⟩
end
end Go.Proofs.YtedgdnoafajhoaaDoor
