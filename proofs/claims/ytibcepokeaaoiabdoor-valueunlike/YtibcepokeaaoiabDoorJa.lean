import Derived.Test.YtibcepokeaaoiabDoorRows
import Derived.WalkKit
import Derived.WalkSpells
import Derived.WalkLawsBesides
import Derived.ScopeJumps
import Derived.Laws.BytesArg
import Derived.Laws.AppendOwnNone
import Derived.ProofKit
import Derived.OpenShut
import Derived.SizedLaws
import Derived.Deep.Matrix
import Derived.Lib.SmallJoins
import Derived.WalkSmall
import Derived.Lib.ConvBytes
import Derived.Laws.AppendOwn
import Derived.Deep.QuietTactic
import Derived.BigQuiet
import Derived.Maps.AppendAt
import Derived.Deep.RegionWith
import Derived.Deep.WholeRow
import Derived.StillTailTactics
import Derived.Deep.LoopGhost
import Derived.Deep.DeepCutAuto
namespace Go.Proofs.YtibcepokeaaoiabDoor
section
open Go.RowKit
theorem hide {p : Prop} (h : p) : Hid p := h

/-- A scope whose run jumps back to one label: as 'wp_scope_jumps', but what is proved of a pass from the label serves the first arrival too. -/
theorem scope_again {P : Program} {a : Act} {w : World} {Q : Exit → Act → World → Prop} {c rest : Code} (l : Nat) (J : Act → World → Prop) (μ : Act → World → Nat) (hf : findLabel c l = some (Code.skip.seq rest))
    (pass : ∀ a w, J a w → rest.wp P (Exit.jump l (fun a' w' => J a' w' ∧ μ a' w' < μ a w) Q) a w)
    (first : Hid (∀ a w, J a w → rest.wp P (Exit.jump l J Q) a w) → c.wp P (Exit.jump l J Q) a w) : (Code.scope c).wp P Q a w :=
  wp_scope_jumps l J μ hf (first (fun a w h => Code.wp_mono (fun e a' w' hq => by
    cases e with
    | goto l' => exact ⟨hq.1, hq.2.1⟩
    | normal => exact hq
    | exit id => exact hq
    | ret => exact hq
    | panic ch => exact hq
    | outgrown => exact hq) (pass a w h))) (fun a w h => wp_seq (wp_skip (pass a w h)))

/-- Bytes as cells. -/
def bv (l : List Nat) : List Value := l.map fun x => Value.int .u8 ((x : Nat) : Int)

theorem bv_app (a b : List Nat) : bv (a ++ b) = bv a ++ bv b := by simp [bv]

theorem Tryd.info5 : (Tryd.prog.info? 5).map (fun i => (i.zero, i.size, i.bytes)) = some (some (.int .u8 0), 1, 1) := by kernel_rfl

theorem info5_ex : ∃ i, Tryd.prog.info? 5 = some i ∧ i.zero = some (.int .u8 0) ∧ i.size = 1 ∧ i.bytes = 1 := by
  have h := Tryd.info5
  cases hi : Tryd.prog.info? 5 with
  | none => rw [hi] at h; cases h
  | some i => rw [hi] at h; simp at h; exact ⟨i, rfl, h.1, h.2.1, h.2.2⟩

theorem own_one (w : World) (x : Nat) : (w.alloc (.cells #[.int .u8 ((x : Nat) : Int)] 5)).ownsRow w.heap.size 5 1 (.slice (some ⟨w.heap.size, 0, none⟩) 1 1) 1 (bv [x]) :=
  ⟨rfl, .inr ⟨w.heap.size, 1, _, rfl, Nat.le_refl _, heap_alloc_new w _, Nat.le_refl _, by decide, rfl, rfl⟩⟩

theorem own_mono {w : World} {base base' : Nat} {e : TypeId} {size : Nat} {v : Value} {n : Nat} {xs : List Value} (h : w.ownsRow base e size v n xs) (hb : base' ≤ base) : w.ownsRow base' e size v n xs := by
  refine ⟨h.1, ?_⟩
  rcases h.2 with hn | ⟨g, cap, cur, hv, hg, r⟩
  · exact .inl hn
  · exact .inr ⟨g, cap, cur, hv, Nat.le_trans hb hg, r⟩

theorem own_empty (w : World) : ((w.alloc (.cells #[] 5)).drew).ownsRow w.heap.size 5 1 (.slice (some ⟨w.heap.size, 0, none⟩) 0 0) 0 (bv []) :=
  World.ownsRow_made w #[] 0 (Nat.le_refl _) (by decide) rfl

theorem below_first {w w2 : World} (hg : ((w.alloc (.cells #[] 5)).drew).grownBy w2 (Value.ownBlock (.slice (some ⟨w.heap.size, 0, none⟩) 0 0))) : Below w.heap.size w w2 :=
  ((Below.refl w.heap.size w).alloc (Nat.le_refl _) _).drew.grown hg (by simp) (fun q hq => by simp [Value.ownBlock] at hq; omega)

theorem below_next {w w2 w3 : World} {v : Value} {n : Nat} {xs : List Value} (h : Below w.heap.size w w2) (ho : w2.ownsRow w.heap.size 5 1 v n xs) (hg : w2.grownBy w3 v.ownBlock) : Below w.heap.size w w3 :=
  h.grown hg h.size (fun q hq => (ho.lt q hq).1)
end
section
open Go.RowKit
/-- The slice value v reads, in w, as the bytes xs. -/
structure BSl (w : World) (v : Value) (xs : List Nat) : Prop where
  form : ∃ a cap, v = .slice a xs.length cap ∧ (xs.length ≤ cap ∧ (a = none → cap = 0)) ∧ (xs = [] ∨ ∃ b off, a = some ⟨b, off, none⟩ ∧ ∀ j, j < xs.length → w.cell? ⟨b, off + j, none⟩ = some (.int .u8 ((xs.getD j 0 : Nat) : Int)))
  max : xs.length ≤ 9223372036854775807
  byte : ∀ x ∈ xs, x < 256

theorem getD_lt {xs : List Nat} (h : ∀ x ∈ xs, x < 256) (j : Nat) : xs.getD j 0 < 256 := by
  by_cases hj : j < xs.length
  · rw [List.getD_eq_getElem?_getD, List.getElem?_eq_getElem hj]; exact h _ (List.getElem_mem hj)
  · rw [List.getD_eq_getElem?_getD, List.getElem?_eq_none (by omega)]; decide

theorem BSl.move {w w' : World} {v : Value} {xs : List Nat} (h : BSl w v xs) (hm : ∀ a u, w.cell? a = some u → w'.cell? a = some u) : BSl w' v xs := by
  obtain ⟨⟨a, cap, rfl, hn, hc⟩, hmax, hb⟩ := h
  refine ⟨⟨a, cap, rfl, hn, ?_⟩, hmax, hb⟩
  rcases hc with hc | ⟨b, off, rfl, hc⟩
  · exact .inl hc
  · exact .inr ⟨b, off, rfl, fun j hj => hm _ _ (hc j hj)⟩

theorem keep_alloc (w : World) (o : Obj) : ∀ a u, w.cell? a = some u → (w.alloc o).cell? a = some u := by
  intro a u h
  exact (World.cell?_of_block (Below.heap_alloc w o a.block (World.block_lt_of_cell? w a h))).trans h

theorem keep_below {w w' : World} (hb : Below w.heap.size w w') : ∀ a u, w.cell? a = some u → w'.cell? a = some u := by
  intro a u h
  rw [hb.cell (World.block_lt_of_cell? w a h)]; exact h

/-- Bytes as a string's. -/
def nstr (xs : List Nat) : ByteArray := strOfNums (xs.map fun x => ((x : Nat) : Int))

theorem nstr_inj {xs ys : List Nat} (hx : ∀ x ∈ xs, x < 256) (hy : ∀ x ∈ ys, x < 256) (h : (nstr xs).toList = (nstr ys).toList) : xs = ys := by
  have key : ∀ l : List Nat, (∀ x ∈ l, x < 256) → (nstr l).data.toList.map UInt8.toNat = l := by
    intro l hl
    simp only [nstr, strOfNums_data, List.map_map]
    conv => rhs; rw [← List.map_id l]
    apply List.map_congr_left
    intro x hx
    have := hl x hx
    simp; omega
  rw [ByteArray.toList_eq, ByteArray.toList_eq] at h
  rw [← key xs hx, ← key ys hy, h]

theorem BSl.text {w : World} {v : Value} {xs : List Nat} (h : BSl w v xs) : (convert 23 9 v).run Tryd.prog w = .ok (.string (nstr xs)) w := by
  obtain ⟨⟨a, cap, rfl, _, hc⟩, hmax, hb⟩ := h
  rcases hc with rfl | ⟨b, off, rfl, hc⟩
  · cases a with
    | none => exact run_convert_bytes_nil w 23 5 Tryd.underlying23 Tryd.underlying5 _ _ 9 Tryd.underlying9
    | some a =>
      rw [run_convert_bytes_string w 23 9 5 _ _ _ Tryd.underlying23 Tryd.underlying5 Tryd.underlying9]
      exact run_bytesToString w a 0 cap [] rfl
  · exact run_convert_bytes_arg w 23 5 Tryd.underlying23 Tryd.underlying5 b off xs.length cap (xs.map fun x => ((x : Nat) : Int)) (by simp) (fun i hi => by
      rw [hc i hi]; simp [List.getD, hi]) 9 Tryd.underlying9

theorem bv_get {xs : List Nat} {j : Nat} (h : j < xs.length) : (bv xs)[j]? = some (.int .u8 ((xs.getD j 0 : Nat) : Int)) := by
  simp [bv, h, List.getD]

theorem BSl.own {w : World} {B n : Nat} {v : Value} {xs : List Nat} (h : w.ownsRow B 5 1 v n (bv xs)) (hb : ∀ x ∈ xs, x < 256) : BSl w v xs := by
  have hn : n = xs.length := by have := h.1; simp [bv] at this; omega
  subst hn
  refine ⟨?_, ?_, hb⟩
  · rcases h.2 with ⟨rfl, h0⟩ | ⟨g, cap, cur, rfl, _, hg, h1, h2, h3, h4⟩
    · exact ⟨none, 0, by rw [h0], ⟨by omega, fun _ => rfl⟩, .inl (List.length_eq_zero_iff.1 h0)⟩
    · refine ⟨some ⟨g, 0, none⟩, cap, rfl, ⟨h1, fun h => by (cases h)⟩, .inr ⟨g, 0, rfl, fun j hj => ?_⟩⟩
      have := h.cells (g := g) rfl j _ (bv_get hj)
      have hadd : (⟨g, 0, none⟩ : Addr).add j = ⟨g, 0 + j, none⟩ := by unfold Addr.add; split <;> simp_all
      rw [hadd] at this
      exact this
  · rcases h.2 with ⟨rfl, h0⟩ | ⟨g, cap, cur, rfl, _, hg, h1, h2, h3, h4⟩
    · omega
    · unfold maxLen at h2; omega

/-- What an append takes of it. -/
theorem BSl.src {w : World} {ad : Addr} {n cap : Nat} {xs : List Nat} (h : BSl w (.slice (some ad) n cap) xs) : n = xs.length ∧ ∀ j u, (bv xs)[j]? = some u → w.cell? (ad.add j) = some u := by
  obtain ⟨⟨a, cap', e, _, hc⟩, _, _⟩ := h
  injection e with e1 e2 e3
  subst e1
  refine ⟨e2, ?_⟩
  rcases hc with rfl | ⟨b, off, e, hc⟩
  · intro j u hu; simp [bv] at hu
  · injection e with e
    subst e
    intro j u hu
    have hj : j < xs.length := by
      rcases Nat.lt_or_ge j xs.length with h | h
      · exact h
      · simp [bv, List.getElem?_eq_none h] at hu
    rw [bv_get hj] at hu
    injection hu with hu
    have hadd : (⟨b, off, none⟩ : Addr).add j = ⟨b, off + j, none⟩ := by unfold Addr.add; split <;> simp_all
    rw [hadd, hc j hj, hu]

theorem bv_one (xs : List Nat) : ∀ u ∈ bv xs, u.oneCell' = true := by
  intro u hu
  simp [bv] at hu
  obtain ⟨x, _, rfl⟩ := hu
  rfl

theorem bv_len (xs : List Nat) : (bv xs).length = xs.length := by simp [bv]

/-- 'append(l, x...)' at bytes: l a slice of the call's own, x whatever reads as bytes. -/
theorem append_bsl {ops : Array Oper} {rest : List Oper} {o : Oper} {a : Act} {Q : Exit → Act → World → Prop} {w : World} (hgd : o.guard = none) (s x : Operand)
    (ho : o.op = .call { callee := .builtin .append, args := #[s, x], argTypes := #[23, 23] }) (B : Nat) (v : Value) (n : Nat) (ds : List Nat) (hs : a.eval s = v) (hown : w.ownsRow B 5 1 v n (bv ds))
    (u : Value) (xs : List Nat) (hx : a.eval x = u) (hsl : BSl w u xs) (hlen : n + xs.length ≤ 140737488355328) (hbase : B ≤ w.heap.size)
    (h : ∀ v' w', w'.ownsRow B 5 1 v' (n + xs.length) (bv (ds ++ xs)) → w.grownBy w' v.ownBlock → wpList Tryd.prog ops Q rest (a.put o.dst v') w') : wpList Tryd.prog ops Q (o :: rest) a w := by
  obtain ⟨i5, hi, hz0, hz1, hz2⟩ := info5_ex
  obtain ⟨⟨ad, cap, rfl, hn, hc⟩, hmax, hb⟩ := id hsl
  cases ad with
  | none =>
    rcases hc with rfl | ⟨_, _, e, _⟩
    · have := hn.2 rfl
      subst this
      refine wpList_append_own_none hgd s x 23 ho B 5 i5 1 Tryd.underlying23 hi v n (bv ds) hs hown hx (h v w ?_ ⟨rfl, rfl, rfl, Nat.le_refl _, fun _ _ _ => rfl⟩)
      simpa using hown
    · cases e
  | some ad =>
    refine wpList_append_own w hgd s x 23 ho B 5 i5 (.int .u8 0) 1 1 Tryd.underlying23 hi hz0 hz1 hz2 rfl (by decide) v n (bv ds) hs hown ad xs.length cap (bv xs) hx (by simp [bv]) hsl.src.2 (bv_one xs) (by unfold maxLen; omega) (by omega) hbase fun v' w' h1 h2 _ => ?_
    exact h v' w' (by rw [bv_app]; exact h1) h2

/-- A beginning of it. -/
theorem BSl.take {w : World} {a : Option Addr} {n cap : Nat} {xs : List Nat} (h : BSl w (.slice a n cap) xs) (k : Nat) (hk : k ≤ xs.length) : BSl w (.slice a k cap) (xs.take k) := by
  obtain ⟨⟨a', cap', e, hn, hc⟩, hm, hb⟩ := h
  injection e with e1 e2 e3
  subst e1
  subst e3
  have hl : (xs.take k).length = k := by rw [List.length_take]; omega
  refine ⟨⟨a, cap, by rw [hl], ⟨by rw [hl]; have := hn.1; omega, hn.2⟩, ?_⟩, by rw [hl]; omega, fun x hx => hb x (List.mem_of_mem_take hx)⟩
  rcases hc with rfl | ⟨b, off, e, hc⟩
  · exact .inl (by simp)
  · refine .inr ⟨b, off, e, fun j hj => ?_⟩
    rw [hl] at hj
    rw [hc j (by omega)]
    simp [List.getD, hj]

theorem one_bsl (w : World) (x : Nat) (hx : x < 256) : BSl (w.alloc (.cells #[.int .u8 ((x : Nat) : Int)] 5)) (.slice (some ⟨w.heap.size, 0, none⟩) 1 1) [x] := by
  refine ⟨⟨_, 1, rfl, ⟨by simp, fun h => by (cases h)⟩, .inr ⟨_, 0, rfl, fun j hj => ?_⟩⟩, by simp, by simpa using hx⟩
  match j, hj with
  | 0, _ => simp

/-! ### Walks -/
theorem BSl.take3 {w : World} {a : Option Addr} {n cap : Nat} {xs : List Nat} (h : BSl w (.slice a n cap) xs) (k : Nat) (hk : k ≤ xs.length) : BSl w (.slice a k k) (xs.take k) := by
  obtain ⟨⟨a', cap', e, hn, hc⟩, hm, hb⟩ := h
  injection e with e1 e2 e3
  subst e1
  subst e3
  have hl : (xs.take k).length = k := by rw [List.length_take]; omega
  refine ⟨⟨a, k, by rw [hl], ⟨by rw [hl]; omega, fun h => by have := hn.2 h; have := hn.1; omega⟩, ?_⟩, by rw [hl]; omega, fun x hx => hb x (List.mem_of_mem_take hx)⟩
  rcases hc with rfl | ⟨b, off, e, hc⟩
  · exact .inl (by simp)
  · refine .inr ⟨b, off, e, fun j hj => ?_⟩
    rw [hl] at hj
    rw [hc j (by omega)]
    simp [List.getD, hj]
end
section
open Go.ChangeShapes Go.WideShapes Go.ChangeAt Go.RowKit Go.Deep
theorem Tryd.own : ownKnob Tryd.prog.godebug = none := by kernel_rfl

theorem Tryd.laidOut : laidOutB Tryd.prog = true := by kernel_rfl

theorem Tryd.cells5 : Tryd.prog.cellsOf 5 = 1 := by kernel_rfl

theorem Tryd.cells_bytes : Tryd.prog.cellsOf 23 = 1 := by kernel_rfl

theorem Tryd.bytes5 : Tryd.prog.bytesOf 5 = 1 := by kernel_rfl

theorem wf_u8 {n : Int} (h : (Lit.int .u8 n).wf = true) : 0 ≤ n ∧ n ≤ 255 := bounds_u8 h

/-- A row of bytes that was read as data, as BSl says it. -/
theorem bsl_of_row {w : World} (A : Option Addr) (L C : Nat) (Z : List Int) (hl : L ≤ C) (hm : C ≤ maxLen) (hz : Z.length = C) (hwf : ∀ n ∈ Z, (Lit.int .u8 n).wf = true) (hn : A = none → C = 0)
    (hc : ∀ a', A = some a' → ∀ c, c < C → w.cell? (a'.add c) = some (.int .u8 (Z.getD c 0))) : BSl w (.slice A L C) ((Z.take L).map Int.toNat) := by
  have hlen : ((Z.take L).map Int.toNat).length = L := by simp; omega
  refine ⟨⟨A, C, by rw [hlen], ⟨by rw [hlen]; exact hl, hn⟩, ?_⟩, by rw [hlen]; unfold maxLen at hm; omega, ?_⟩
  · by_cases h0 : L = 0
    · left; subst h0; simp
    · right
      cases A with
      | none => have := hn rfl; omega
      | some a =>
        obtain ⟨b, off, spot⟩ := a
        have h1 := hc _ rfl 0 (by omega)
        have hspot : spot = none := by simpa [Addr.add] using World.cell?_spot h1
        subst hspot
        refine ⟨b, off, rfl, fun j hj => ?_⟩
        rw [hlen] at hj
        have h2 := hc _ rfl j (by omega)
        have hadd : (⟨b, off, none⟩ : Addr).add j = ⟨b, off + j, none⟩ := by unfold Addr.add; split <;> simp_all
        rw [hadd] at h2
        rw [h2]
        have hjz : j < Z.length := by omega
        have hb := wf_u8 (hwf Z[j] (List.getElem_mem hjz))
        simp [List.getD, hj, hjz]
        omega
  · intro x hx
    simp only [List.mem_map] at hx
    obtain ⟨n, hn', rfl⟩ := hx
    have := wf_u8 (hwf n (List.mem_of_mem_take hn'))
    omega

/-- What a row weighs, inside a slice of rows. -/
theorem weights_all {H : Type} {P : Program} {e : TypeId} {d : DataW H} : ∀ {l : List (DataW H)}, d ∈ l → ∀ n ∈ d.weights P e, n ∈ DataW.weightsAll P e l
  | [], h, _, _ => by cases h
  | x :: r, h, n, hn => by
    simp only [DataW.weightsAll, List.mem_append]
    rcases List.mem_cons.1 h with h | h
    · subst h; exact .inl hn
    · exact .inr (weights_all h n hn)

theorem row_weight {H : Type} (a' : Addr) (L C : Nat) (Z : List Int) (hz : Z.length = C) : C ∈ (intRow (H := H) .u8 (some a') L Z).weights Tryd.prog 23 := by
  have e : (intRow (H := H) .u8 (some a') L Z) = .slice (lits .u8 (Z.take L)) (lits .u8 (Z.drop L)) := rfl
  rw [e]
  simp only [DataW.weights, Tryd.underlying23, Tryd.bytes5]
  refine List.mem_cons.2 (.inl ?_)
  simp [lits]
  omega
end
section
open Go.ChangeShapes Go.WideShapes Go.ChangeAt Go.RowKit Go.Deep Go.Joins
/-- A slice of rows of bytes, all within the reach. -/
structure RowsIn (w : World) (v : Value) (len : Nat) : Prop where
  form : ∃ a cap, v = .slice a len cap ∧ len ≤ cap ∧ (len = 0 ∨ ∃ b off, a = some ⟨b, off, none⟩ ∧ ∀ i, i < len → ∃ u xs, w.cell? ⟨b, off + i, none⟩ = some u ∧ BSl w u xs ∧ xs.length ≤ 140737488351232)
  max : len ≤ 9223372036854775807
end
section
open Go.RowKit
def marks : List Nat := (List.range 70).map fun i => 165 - i

theorem marks_snoc (k : Nat) (h : k < 70) : marks.take (k + 1) = marks.take k ++ [165 - k] := by
  rw [List.take_succ_eq_append_getElem (by simpa [marks] using h)]
  simp [marks]

/-- What Lend gives reads as what was lent. -/
theorem BSl.lent {w : World} {B g n cap : Nat} {xs : List Nat} (h : w.ownsRow B 5 1 (.slice (some ⟨g, 0, none⟩) (n + 70) cap) (n + 70) (bv (xs ++ marks))) (hn : n = xs.length) (hb : ∀ x ∈ xs, x < 256) :
    BSl w (.slice (some ⟨g, 0, none⟩) xs.length cap) xs := by
  have hm : ∀ x ∈ xs ++ marks, x < 256 := by
    intro x hx
    rcases List.mem_append.1 hx with hx | hx
    · exact hb x hx
    · simp [marks] at hx; omega
  have hall := BSl.own h hm
  obtain ⟨⟨a, cap', e, hcp, hc⟩, hmax, _⟩ := hall
  injection e with e1 e2 e3
  subst e1
  subst e3
  refine ⟨⟨_, cap, rfl, ⟨by have := hcp.1; simp at this; omega, fun h => by (cases h)⟩, ?_⟩, ?_, hb⟩
  · rcases hc with hc | ⟨b, off, e, hc⟩
    · simp [marks] at hc
    · refine .inr ⟨b, off, e, fun j hj => ?_⟩
      rw [hc j (by simp; omega)]
      simp [List.getD, List.getElem?_append_left hj]
  · simp at hmax; omega
end
section
open Go.RowKit
/-! ### What stays -/
/-- What was there stays as it was, but for the blocks S. -/
structure Kp (S : Nat → Prop) (w w' : World) : Prop where
  os : w'.os = w.os
  tape : w'.tape = w.tape
  output : w'.output = w.output
  size : w.heap.size ≤ w'.heap.size
  block : ∀ k, k < w.heap.size → ¬ S k → w'.heap[k]? = w.heap[k]?

theorem Kp.refl (S : Nat → Prop) (w : World) : Kp S w w := ⟨rfl, rfl, rfl, Nat.le_refl _, fun _ _ _ => rfl⟩
theorem Kp.trans {S T : Nat → Prop} {a b c : World} (h : Kp S a b) (g : Kp T b c) (hst : ∀ k, k < a.heap.size → T k → S k) : Kp S a c :=
  ⟨g.os.trans h.os, g.tape.trans h.tape, g.output.trans h.output, Nat.le_trans h.size g.size, fun k hk hs =>
    (g.block k (Nat.lt_of_lt_of_le hk h.size) (fun ht => hs (hst k hk ht))).trans (h.block k hk hs)⟩
theorem Kp.mono {S T : Nat → Prop} {w w' : World} (h : Kp S w w') (hst : ∀ k, k < w.heap.size → S k → T k) : Kp T w w' :=
  ⟨h.os, h.tape, h.output, h.size, fun k hk ht => h.block k hk (fun hs => ht (hst k hk hs))⟩
theorem Kp.alloc {S : Nat → Prop} {a w : World} (h : Kp S a w) (o : Obj) : Kp S a (w.alloc o) :=
  ⟨h.os, h.tape, h.output, by have := h.size; simp; omega, fun k hk hs => (Below.heap_alloc w o k (Nat.lt_of_lt_of_le hk h.size)).trans (h.block k hk hs)⟩
theorem Kp.drew {S : Nat → Prop} {a w : World} (h : Kp S a w) : Kp S a w.drew := ⟨h.os, h.tape, h.output, h.size, h.block⟩
theorem Kp.drewN {S : Nat → Prop} {a w : World} (h : Kp S a w) (n : Nat) : Kp S a (w.drewN n) := ⟨h.os, h.tape, h.output, h.size, h.block⟩
theorem Kp.setCell {S : Nat → Prop} {a w : World} (h : Kp S a w) (p : Addr) (v : Value) (hp : p.block < a.heap.size → S p.block) : Kp S a (w.setCell p v) :=
  ⟨h.os, h.tape, h.output, by have := h.size; simp [World.setCell]; omega, fun k hk hs => (Below.heap_setCell w p v k (fun e => hs (e ▸ hp (e ▸ hk)))).trans (h.block k hk hs)⟩
theorem Kp.grown {S : Nat → Prop} {a w w' : World} {row : Option Nat} (h : Kp S a w) (hg : w.grownBy w' row) (hr : ∀ k, k < a.heap.size → row = some k → S k) : Kp S a w' :=
  ⟨hg.os.trans h.os, hg.tape.trans h.tape, hg.output.trans h.output, Nat.le_trans h.size hg.size, fun k hk hs =>
    (hg.block k (Nat.lt_of_lt_of_le hk h.size) (fun e => hs (hr k hk e.symm))).trans (h.block k hk hs)⟩
theorem Kp.of_below {S : Nat → Prop} {w w' : World} (h : Below w.heap.size w w') : Kp S w w' := ⟨h.os, h.tape, h.output, h.size, fun k hk _ => h.block k hk⟩
theorem Kp.below {S : Nat → Prop} {w w' : World} {B : Nat} (h : Kp S w w') (hB : B ≤ w.heap.size) (hs : ∀ k, S k → B ≤ k) : Below B w w' :=
  ⟨h.os, h.tape, h.output, h.size, fun k hk => h.block k (by omega) (fun hsk => by have := hs k hsk; omega)⟩
theorem Kp.cell {S : Nat → Prop} {w w' : World} (h : Kp S w w') {p : Addr} {v : Value} (hc : w.cell? p = some v) (hs : ¬ S p.block) : w'.cell? p = some v :=
  (World.cell?_of_block (h.block p.block (World.block_lt_of_cell? w p hc) hs)).trans hc
theorem Kp.owns {S : Nat → Prop} {w w' : World} (h : Kp S w w') {base : Nat} {e : TypeId} {size : Nat} {v : Value} {n : Nat} {xs : List Value} (ho : w.ownsRow base e size v n xs) (hs : ∀ k, v.ownBlock = some k → ¬ S k) : w'.ownsRow base e size v n xs := by
  refine ⟨ho.1, ?_⟩
  rcases ho.2 with hn | ⟨g, cap, cur, rfl, hb, hgg, rest⟩
  · exact .inl hn
  · refine .inr ⟨g, cap, cur, rfl, hb, ?_, rest⟩
    rw [h.block g (Array.getElem?_eq_some_iff.1 hgg).1 (hs g rfl)]
    exact hgg
theorem Kp.bsl {S : Nat → Prop} {w w' : World} (h : Kp S w w') {v : Value} {xs : List Nat} (hb : BSl w v xs) (hs : ∀ k, v.ownBlock = some k → ¬ S k) : BSl w' v xs := by
  obtain ⟨⟨a, cap, rfl, hn, hc⟩, hm, hby⟩ := hb
  refine ⟨⟨a, cap, rfl, hn, ?_⟩, hm, hby⟩
  rcases hc with hc | ⟨b, off, rfl, hc⟩
  · exact .inl hc
  · exact .inr ⟨b, off, rfl, fun j hj => h.cell (hc j hj) (hs b rfl)⟩

/-! ### A block of a known row of cells -/
theorem blk_cell {w : World} {b : Nat} {cur : Array Value} {e : TypeId} {j : Nat} {v : Value} (h : w.heap[b]? = some (.cells cur e (0, 0))) (hv : cur[j]? = some v) : w.cell? ⟨b, j, none⟩ = some v := by
  simp [World.cell?, h, hv]
theorem blk_frozen {w : World} {b : Nat} {cur : Array Value} {e : TypeId} (j : Nat) (h : w.heap[b]? = some (.cells cur e (0, 0))) : w.frozen? ⟨b, j, none⟩ = false := by
  simp [World.frozen?, h]
theorem blk_set {w : World} {b : Nat} {cur : Array Value} {e : TypeId} (j : Nat) (v : Value) (h : w.heap[b]? = some (.cells cur e (0, 0))) : (w.setCell ⟨b, j, none⟩ v).heap[b]? = some (.cells (cur.setIfInBounds j v) e (0, 0)) := by
  simp [World.setCell, Array.getElem?_modify, h]
theorem blk_other {w : World} {b c : Nat} {o : Obj} (j : Nat) (v : Value) (h : w.heap[c]? = some o) (hne : c ≠ b) : (w.setCell ⟨b, j, none⟩ v).heap[c]? = some o := by
  rw [Below.heap_setCell w ⟨b, j, none⟩ v c hne]; exact h
theorem blk_lt {w : World} {b : Nat} {o : Obj} (h : w.heap[b]? = some o) : b < w.heap.size := (Array.getElem?_eq_some_iff.1 h).1
theorem blk_alloc {w : World} {b : Nat} {o : Obj} (o' : Obj) (h : w.heap[b]? = some o) : (w.alloc o').heap[b]? = some o := (Below.heap_alloc w o' b (blk_lt h)).trans h
theorem own_block_type {w : World} {base : Nat} {e : TypeId} {size : Nat} {v : Value} {n : Nat} {xs : List Value} (h : w.ownsRow base e size v n xs) {k : Nat} (hk : v.ownBlock = some k) : ∃ cur, w.heap[k]? = some (.cells cur e (0, 0)) := by
  rcases h.2 with ⟨rfl, _⟩ | ⟨g, cap, cur, rfl, _, hg, _⟩
  · simp [Value.ownBlock] at hk
  · simp [Value.ownBlock] at hk; subst hk; exact ⟨cur, hg⟩
/-- Rows of unlike element types lie in unlike blocks. -/
theorem own_apart {w : World} {base base' : Nat} {e e' : TypeId} {size size' : Nat} {v v' : Value} {n n' : Nat} {xs xs' : List Value} (h : w.ownsRow base e size v n xs) (h' : w.ownsRow base' e' size' v' n' xs') (hne : e ≠ e') {k : Nat} (hk : v.ownBlock = some k) : v'.ownBlock ≠ some k := by
  intro hk'
  obtain ⟨c, hc⟩ := own_block_type h hk
  obtain ⟨c', hc'⟩ := own_block_type h' hk'
  rw [hc] at hc'
  injection hc' with hc'
  injection hc' with _ h2
  exact hne h2
theorem own_not {w : World} {base : Nat} {e e' : TypeId} {size : Nat} {v : Value} {n : Nat} {xs : List Value} {b : Nat} {cur : Array Value} (h : w.ownsRow base e size v n xs) (hb : w.heap[b]? = some (.cells cur e' (0, 0))) (hne : e ≠ e') : v.ownBlock ≠ some b := by
  intro hk
  obtain ⟨c, hc⟩ := own_block_type h hk
  rw [hc] at hb
  injection hb with hb
  injection hb with _ h2
  exact hne h2

/-! ### The book -/
/-- The mark of list m at byte k. -/
def atv (m k : Nat) : Nat := if k % 2 = 0 then 1 + m % 251 else 1 + (7 * m + m / 251) % 251
theorem atv_lt (m k : Nat) : atv m k < 256 := by unfold atv; split <;> omega
def mkl (m n : Nat) : List Nat := (List.range n).map (atv m)
theorem mkl_len (m n : Nat) : (mkl m n).length = n := by simp [mkl]
theorem mkl_snoc (m n : Nat) : mkl m (n + 1) = mkl m n ++ [atv m n] := by simp [mkl, List.range_succ]
theorem mkl_byte (m n : Nat) : ∀ x ∈ mkl m n, x < 256 := by
  intro x hx; simp [mkl] at hx; obtain ⟨k, _, rfl⟩ := hx; exact atv_lt m k
theorem mkl_get (m n j : Nat) (h : j < n) : (mkl m n).getD j 0 = atv m j := by simp [mkl, List.getD, h]

def bookCells (vb vo : Value) (a t d u : Nat) : Array Value := #[vb, vo, .int .i64 (a : Nat), .slice none 0 0, .slice none 0 0, .int .i64 0, .slice none 0 0, .slice none 0 0, .int .i64 0, .slice none 0 0, .slice none 0 0, .int .i64 0, .slice none 0 0, .slice none 0 0, .int .i64 0, .slice none 0 0, .slice none 0 0, .int .i64 0, .slice none 0 0, .slice none 0 0, .int .i64 0, .slice none 0 0, .slice none 0 0, .int .i64 0, .slice none 0 0, .slice none 0 0, .int .i64 0, .slice none 0 0, .slice none 0 0, .int .i64 0, .slice none 0 0, .slice none 0 0, .int .i64 0, .slice none 0 0, .slice none 0 0, .int .i64 0, .slice none 0 0, .slice none 0 0, .int .i64 0, .slice none 0 0, .slice none 0 0, .int .i64 0, .slice none 0 0, .slice none 0 0, .int .i64 0, .slice none 0 0, .slice none 0 0, .int .i64 0, .slice none 0 0, .slice none 0 0, .int .i64 0, .slice none 0 0, .slice none 0 0, .int .i64 0, .int .i64 (t : Nat), .int .i64 (d : Nat), .int .i64 (u : Nat)]
end
section
open Go.RowKit Go
/-- A string's bytes. -/
def sl (s : ByteArray) : List Nat := s.data.toList.map UInt8.toNat
theorem sl_byte (s : ByteArray) : ∀ x ∈ sl s, x < 256 := fun x hx => by
  obtain ⟨u, _, rfl⟩ := List.mem_map.1 hx
  exact u.toNat_lt
theorem sl_len (s : ByteArray) : (sl s).length = s.size := by
  unfold sl
  rw [List.length_map, Array.length_toList]
  rfl
theorem sl_get (s : ByteArray) (j : Nat) : (sl s).getD j 0 = (s.data.toList.getD j 0).toNat := by
  simp only [sl, List.getD, List.getElem?_map]
  cases s.data.toList[j]? <;> simp
/-- '[]byte(s)' of a string that is no constant. -/
theorem conv_sb (w : World) (s : ByteArray) : (convert 9 23 (.string s)).run Tryd.prog w = .ok (.slice (some ⟨w.heap.size, 0, none⟩) s.size (grownCap w s.size 0 5)) (Lib.bytesWorld w 5 s) := Lib.run_convert_string_bytes w 9 23 5 s Tryd.underlying9 Tryd.underlying23 Tryd.underlying5
theorem conv_sb_below (w : World) (s : ByteArray) : Below w.heap.size w (Lib.bytesWorld w 5 s) :=
  ⟨rfl, rfl, rfl, by rw [Lib.bytesWorld_size]; omega, fun k hk => Lib.bytesWorld_at_old w 5 s k hk⟩
theorem conv_sb_bsl (w : World) (s : ByteArray) (hs : s.size ≤ 9223372036854775807) : BSl (Lib.bytesWorld w 5 s) (.slice (some ⟨w.heap.size, 0, none⟩) s.size (grownCap w s.size 0 5)) (sl s) := by
  refine ⟨⟨_, _, by rw [sl_len], ⟨by rw [sl_len]; exact grownCap_ge w s.size 0 5, fun h => by cases h⟩, .inr ⟨w.heap.size, 0, rfl, fun j hj => ?_⟩⟩, by rw [sl_len]; exact hs, sl_byte s⟩
  rw [sl_len] at hj
  rw [Nat.zero_add, Lib.bytesWorld_cell w 5 s j hj, sl_get]
end
section
open Go.RowKit

end
section
open Go.RowKit
/-- A list that is kept: its value, its length, its mark. -/
structure Ent where
  val : Value
  n : Nat
  m : Nat

theorem own_form {w : World} {base : Nat} {e : TypeId} {v : Value} {n : Nat} {xs : List Value} (h : w.ownsRow base e 1 v n xs) : ∃ a cap, v = .slice a n cap ∧ n ≤ cap ∧ n ≤ 9223372036854775807 ∧ ∀ j u, xs[j]? = some u → ∃ g, a = some ⟨g, 0, none⟩ ∧ w.cell? ⟨g, j, none⟩ = some u := by
  have hlen : xs.length = n := by have := h.1; omega
  rcases h.2 with ⟨rfl, h0⟩ | ⟨g, cap, cur, rfl, _, hg, h1, h2, h3, h4⟩
  · refine ⟨none, 0, by rw [h0], by omega, by omega, fun j u hu => ?_⟩
    have : xs = [] := List.length_eq_zero_iff.1 (by omega)
    rw [this] at hu
    simp at hu
  · refine ⟨some ⟨g, 0, none⟩, cap, rfl, h1, by unfold maxLen at h2; omega, fun j u hu => ⟨g, rfl, ?_⟩⟩
    have := h.cells (g := g) rfl j u hu
    have hadd : (⟨g, 0, none⟩ : Addr).add j = ⟨g, j, none⟩ := by unfold Addr.add; split <;> simp_all
    rw [hadd] at this
    exact this
end
section
open Go.RowKit
theorem Tryd.info50 : (Tryd.prog.info? 23).map (fun i => (i.zero, i.size, i.bytes)) = some (some (.slice none 0 0), 1, 24) := by kernel_rfl
theorem Tryd.info3 : (Tryd.prog.info? 3).map (fun i => (i.zero, i.size, i.bytes)) = some (some (.int .i64 0), 1, 8) := by kernel_rfl
theorem info50_ex : ∃ i, Tryd.prog.info? 23 = some i ∧ i.zero = some (.slice none 0 0) ∧ i.size = 1 ∧ i.bytes = 24 := by
  have h := Tryd.info50
  cases hi : Tryd.prog.info? 23 with
  | none => rw [hi] at h; cases h
  | some i => rw [hi] at h; simp at h; exact ⟨i, rfl, h.1, h.2.1, h.2.2⟩
theorem info3_ex : ∃ i, Tryd.prog.info? 3 = some i ∧ i.zero = some (.int .i64 0) ∧ i.size = 1 ∧ i.bytes = 8 := by
  have h := Tryd.info3
  cases hi : Tryd.prog.info? 3 with
  | none => rw [hi] at h; cases h
  | some i => rw [hi] at h; simp at h; exact ⟨i, rfl, h.1, h.2.1, h.2.2⟩

/-- 'append(ints, x)'. -/
theorem append_int {ops : Array Oper} {rest : List Oper} {o : Oper} {a : Act} {Q : Exit → Act → World → Prop} {w : World} (hgd : o.guard = none) (s x : Operand)
    (ho : o.op = .call { callee := .builtin .append, args := #[s, x], argTypes := #[54, 54] }) (B : Nat) (v : Value) (n : Nat) (ds : List Value) (hs : a.eval s = v) (hown : w.ownsRow B 3 1 v n ds)
    (y : Int) (S : Nat) (hS : w.heap.size = S) (hx : a.eval x = .slice (some ⟨S, 0, none⟩) 1 1) (hlen : n < 1099511627776) (hbase : B ≤ w.heap.size)
    (h : ∀ v' w', w'.ownsRow B 3 1 v' (n + 1) (ds ++ [.int .i64 y]) → (w.alloc (.cells #[.int .i64 y] 3)).grownBy w' v.ownBlock → (v'.ownBlock = v.ownBlock ∨ v'.ownBlock = some (w.heap.size + 1)) → wpList Tryd.prog ops Q rest (a.put o.dst v') w') : wpList Tryd.prog ops Q (o :: rest) a (w.alloc (.cells #[.int .i64 y] 3)) := by
  obtain ⟨i, hi, hz0, hz1, hz2⟩ := info3_ex
  subst hS
  refine wpList_append_own_at _ hgd s x 54 ho B 3 i (.int .i64 0) 1 8 Tryd.underlying54 hi hz0 hz1 hz2 rfl (by decide) v n ds hs (hown.alloc _) ⟨w.heap.size, 0, none⟩ 1 1 [.int .i64 y] hx rfl (cell_one_new _ _ _) ?_ (by unfold maxLen; omega) (by omega) (by simp; omega) fun v' w' h1 h2 _ h4 => h v' w' h1 h2 (by simpa using h4)
  intro u hu
  simp at hu
  subst hu
  rfl

/-- One cell of a row of the call's own is written. -/
theorem own_set {w : World} {base : Nat} {e : TypeId} {g n cap j : Nat} {xs : List Value} (x : Value) (h : w.ownsRow base e 1 (.slice (some ⟨g, 0, none⟩) n cap) n xs) :
    (w.setCell ⟨g, j, none⟩ x).ownsRow base e 1 (.slice (some ⟨g, 0, none⟩) n cap) n (xs.set j x) := by
  refine ⟨by rw [List.length_set]; exact h.1, ?_⟩
  rcases h.2 with ⟨hv, _⟩ | ⟨g', cap', cur, hv, hb, hg, h1, h2, h3, h4⟩
  · cases hv
  · injection hv with e1 e2 e3
    injection e1 with e1
    injection e1 with e1 _ _
    subst e1
    subst e3
    refine .inr ⟨g, cap, _, rfl, hb, blk_set j x hg, h1, h2, by simpa using h3, ?_⟩
    rw [Nat.mul_one] at h4 ⊢
    rw [← h4, Array.toList_setIfInBounds, List.take_set]
theorem own_cell {w : World} {base : Nat} {e : TypeId} {g n m cap : Nat} {xs : List Value} (h : w.ownsRow base e 1 (.slice (some ⟨g, 0, none⟩) m cap) n xs) {j : Nat} {u : Value} (hu : xs[j]? = some u) : w.cell? ⟨g, j, none⟩ = some u ∧ w.frozen? ⟨g, j, none⟩ = false := by
  have := h.cells (g := g) rfl j u hu
  have hadd : (⟨g, 0, none⟩ : Addr).add j = ⟨g, j, none⟩ := by unfold Addr.add; split <;> simp_all
  rw [hadd] at this
  obtain ⟨cur, hcur⟩ := own_block_type h (k := g) rfl
  exact ⟨this, blk_frozen j hcur⟩
theorem own_back {w : World} {base : Nat} {e : TypeId} {v : Value} {n : Nat} {xs : List Value} (h : w.ownsRow base e 1 v n xs) : ∀ k, v.ownBlock = some k → base ≤ k ∧ k < w.heap.size := h.lt

/-- The blocks that a book holds. -/
def Foot (B : Nat) (vb vo : Value) (es : List Ent) (k : Nat) : Prop := k = B ∨ vb.ownBlock = some k ∨ vo.ownBlock = some k ∨ ∃ e ∈ es, e.val.ownBlock = some k
end
section
open Go.RowKit
/-! ### SHA-256, plainly -/
/-- A number in so many bytes, the highest first. -/
def beb : Nat → Nat → List Nat
  | 0, _ => []
  | k + 1, n => (n / 256 ^ k % 256) :: beb k n
theorem beb_len : ∀ k n, (beb k n).length = k
  | 0, _ => rfl
  | k + 1, n => by simp [beb, beb_len k n]
theorem beb_byte : ∀ k n x, x ∈ beb k n → x < 256
  | 0, _, _, h => by simp [beb] at h
  | k + 1, n, x, h => by
    rcases List.mem_cons.1 h with h | h
    · subst h; exact Nat.mod_lt _ (by decide)
    · exact beb_byte k n x h
def rt (x n : Nat) : Nat := x / 2 ^ n + x % 2 ^ n * 2 ^ (32 - n)
def ls0 (x : Nat) : Nat := rt x 7 ^^^ rt x 18 ^^^ x / 8
def ls1 (x : Nat) : Nat := rt x 17 ^^^ rt x 19 ^^^ x / 1024
def us0 (x : Nat) : Nat := rt x 2 ^^^ rt x 13 ^^^ rt x 22
def us1 (x : Nat) : Nat := rt x 6 ^^^ rt x 11 ^^^ rt x 25
def cho (e f g : Nat) : Nat := (e &&& f) ^^^ ((4294967295 - e) &&& g)
def maj (a b c : Nat) : Nat := (a &&& b) ^^^ (a &&& c) ^^^ (b &&& c)
def kk : List Nat := [0x428a2f98, 0x71374491, 0xb5c0fbcf, 0xe9b5dba5, 0x3956c25b, 0x59f111f1, 0x923f82a4, 0xab1c5ed5,
  0xd807aa98, 0x12835b01, 0x243185be, 0x550c7dc3, 0x72be5d74, 0x80deb1fe, 0x9bdc06a7, 0xc19bf174,
  0xe49b69c1, 0xefbe4786, 0x0fc19dc6, 0x240ca1cc, 0x2de92c6f, 0x4a7484aa, 0x5cb0a9dc, 0x76f988da,
  0x983e5152, 0xa831c66d, 0xb00327c8, 0xbf597fc7, 0xc6e00bf3, 0xd5a79147, 0x06ca6351, 0x14292967,
  0x27b70a85, 0x2e1b2138, 0x4d2c6dfc, 0x53380d13, 0x650a7354, 0x766a0abb, 0x81c2c92e, 0x92722c85,
  0xa2bfe8a1, 0xa81a664b, 0xc24b8b70, 0xc76c51a3, 0xd192e819, 0xd6990624, 0xf40e3585, 0x106aa070,
  0x19a4c116, 0x1e376c08, 0x2748774c, 0x34b0bcb5, 0x391c0cb3, 0x4ed8aa4a, 0x5b9cca4f, 0x682e6ff3,
  0x748f82ee, 0x78a5636f, 0x84c87814, 0x8cc70208, 0x90befffa, 0xa4506ceb, 0xbef9a3f7, 0xc67178f2]
def hh : List Nat := [0x6a09e667, 0xbb67ae85, 0x3c6ef372, 0xa54ff53a, 0x510e527f, 0x9b05688c, 0x1f83d9ab, 0x5be0cd19]
/-- t and u of a round. -/
def rT (v : List Nat) (k w : Nat) : Nat := (v.getD 7 0 + us1 (v.getD 4 0) + cho (v.getD 4 0) (v.getD 5 0) (v.getD 6 0) + k + w) % 4294967296
def rU (v : List Nat) : Nat := (us0 (v.getD 0 0) + maj (v.getD 0 0) (v.getD 1 0) (v.getD 2 0)) % 4294967296
def rnd (v : List Nat) (k w : Nat) : List Nat := [(rT v k w + rU v) % 4294967296, v.getD 0 0, v.getD 1 0, v.getD 2 0, (v.getD 3 0 + rT v k w) % 4294967296, v.getD 4 0, v.getD 5 0, v.getD 6 0]
def wrd (l : List Nat) (p : Nat) : Nat := ((l.getD p 0 * 256 + l.getD (p + 1) 0) * 256 + l.getD (p + 2) 0) * 256 + l.getD (p + 3) 0
def nextW (l : List Nat) (n : Nat) : Nat := (ls1 (l.getD (n - 2) 0) + l.getD (n - 7) 0 + ls0 (l.getD (n - 15) 0) + l.getD (n - 16) 0) % 4294967296
/-- The first n words of a block that begins at p. -/
def wl (b : List Nat) (p : Nat) : Nat → List Nat
  | 0 => []
  | n + 1 => wl b p n ++ [if n < 16 then wrd b (p + 4 * n) else nextW (wl b p n) n]
/-- The state in the midst of a block. -/
def rl (b : List Nat) (p : Nat) (s : List Nat) : Nat → List Nat
  | 0 => s
  | n + 1 => rnd (rl b p s n) (kk.getD n 0) ((wl b p (n + 1)).getD n 0)
def cmp (b : List Nat) (p : Nat) (s : List Nat) : List Nat := List.zipWith (fun x y => (x + y) % 4294967296) s (rl b p s 64)
/-- The state behind n blocks. -/
def abs (b s : List Nat) : Nat → List Nat
  | 0 => s
  | n + 1 => cmp b (64 * n) (abs b s n)
def zer (n : Nat) : Nat := (119 - n % 64) % 64
def pad (b : List Nat) : List Nat := b ++ [128] ++ List.replicate (zer b.length) 0 ++ beb 8 (8 * b.length)
def outb (s : List Nat) : List Nat := s.flatMap (beb 4)
def sha (b : List Nat) : List Nat := outb (abs (pad b) hh ((pad b).length / 64))

theorem sha_abc : sha [97, 98, 99] = [0xba, 0x78, 0x16, 0xbf, 0x8f, 0x01, 0xcf, 0xea, 0x41, 0x41, 0x40, 0xde, 0x5d, 0xae, 0x22, 0x23, 0xb0, 0x03, 0x61, 0xa3, 0x96, 0x17, 0x7a, 0x9c, 0xb4, 0x10, 0xff, 0x61, 0xf2, 0x00, 0x15, 0xad] := by decide +kernel

theorem rt_lt {x n : Nat} (hx : x < 4294967296) (hn : n ≤ 32) : rt x n < 4294967296 := by
  unfold rt
  have hp : 0 < 2 ^ n := Nat.pow_pos (by decide)
  have hq : 0 < 2 ^ (32 - n) := Nat.pow_pos (by decide)
  have he : 2 ^ n * 2 ^ (32 - n) = 4294967296 := by rw [← Nat.pow_add]; have : n + (32 - n) = 32 := by omega
                                                    rw [this]
  have h1 : x / 2 ^ n < 2 ^ (32 - n) := by rw [Nat.div_lt_iff_lt_mul hp, Nat.mul_comm, he]; exact hx
  have h2 : x % 2 ^ n + 1 ≤ 2 ^ n := Nat.mod_lt _ hp
  have h3 : (x % 2 ^ n + 1) * 2 ^ (32 - n) ≤ 2 ^ n * 2 ^ (32 - n) := Nat.mul_le_mul_right _ h2
  rw [he, Nat.add_mul, Nat.one_mul] at h3
  omega
theorem xor_lt {a b : Nat} (ha : a < 4294967296) (hb : b < 4294967296) : a ^^^ b < 4294967296 := Nat.xor_lt_two_pow (n := 32) ha hb
theorem and_lt {a b : Nat} (ha : a < 4294967296) : a &&& b < 4294967296 := Nat.lt_of_le_of_lt Nat.and_le_left ha
theorem us0_lt {x : Nat} (h : x < 4294967296) : us0 x < 4294967296 := xor_lt (xor_lt (rt_lt h (by decide)) (rt_lt h (by decide))) (rt_lt h (by decide))
theorem us1_lt {x : Nat} (h : x < 4294967296) : us1 x < 4294967296 := xor_lt (xor_lt (rt_lt h (by decide)) (rt_lt h (by decide))) (rt_lt h (by decide))
theorem ls0_lt {x : Nat} (h : x < 4294967296) : ls0 x < 4294967296 := xor_lt (xor_lt (rt_lt h (by decide)) (rt_lt h (by decide))) (by omega)
theorem ls1_lt {x : Nat} (h : x < 4294967296) : ls1 x < 4294967296 := xor_lt (xor_lt (rt_lt h (by decide)) (rt_lt h (by decide))) (by omega)
theorem cho_lt {e f g : Nat} (h : e < 4294967296) : cho e f g < 4294967296 := xor_lt (and_lt h) (and_lt (by omega))
theorem maj_lt {a b c : Nat} (ha : a < 4294967296) (hb : b < 4294967296) : maj a b c < 4294967296 := xor_lt (xor_lt (and_lt ha) (and_lt ha)) (and_lt hb)
theorem wl_len (b : List Nat) (p : Nat) : ∀ n, (wl b p n).length = n
  | 0 => rfl
  | n + 1 => by simp [wl, wl_len b p n]
theorem getD_app {l : List Nat} {x j : Nat} (h : j < l.length) : (l ++ [x]).getD j 0 = l.getD j 0 := by
  simp [List.getD, List.getElem?_append_left h]
theorem getD_last {l : List Nat} {x n : Nat} (h : l.length = n) : (l ++ [x]).getD n 0 = x := by
  subst h; simp [List.getD]
theorem wl_get (b : List Nat) (p : Nat) : ∀ n m j, j < n → n ≤ m → (wl b p m).getD j 0 = (wl b p n).getD j 0
  | n, m, j, hj, hm => by
    induction m with
    | zero => omega
    | succ m ih =>
      by_cases h : n = m + 1
      · rw [h]
      · rw [wl, getD_app (by rw [wl_len]; omega)]
        exact ih (by omega)
theorem rnd_len (v : List Nat) (k w : Nat) : (rnd v k w).length = 8 := rfl
theorem rl_len (b : List Nat) (p : Nat) (s : List Nat) (h : s.length = 8) : ∀ n, (rl b p s n).length = 8
  | 0 => h
  | _ + 1 => rfl
theorem cmp_len (b : List Nat) (p : Nat) (s : List Nat) (h : s.length = 8) : (cmp b p s).length = 8 := by
  simp [cmp, h, rl_len b p s h]
theorem abs_len (b s : List Nat) (h : s.length = 8) : ∀ n, (abs b s n).length = 8
  | 0 => h
  | n + 1 => cmp_len _ _ _ (abs_len b s h n)
end
section
open Go.RowKit
/-- Some of the four bytes of a word. -/
def pwd (l : List Nat) (p : Nat) : Nat → Nat
  | 0 => 0
  | j + 1 => 256 * pwd l p j + l.getD (p + j) 0
theorem pwd_lt {l : List Nat} (h : ∀ x ∈ l, x < 256) (p : Nat) : ∀ j, pwd l p j < 256 ^ j
  | 0 => by simp [pwd]
  | j + 1 => by
    have h1 := pwd_lt h p j
    have h2 := getD_lt h (p + j)
    simp only [pwd, Nat.pow_succ]
    omega
theorem pwd_four (l : List Nat) (p : Nat) : pwd l p 4 = wrd l p := by
  simp only [pwd, wrd, Nat.add_zero]
  omega
theorem wrd_lt {l : List Nat} (h : ∀ x ∈ l, x < 256) (p : Nat) : wrd l p < 4294967296 := by
  rw [← pwd_four]; exact pwd_lt h p 4
end
section
open Go.RowKit
/-- Words as cells. -/
def wv (l : List Nat) : List Value := l.map fun x => Value.int .u32 ((x : Nat) : Int)
theorem wv_len (l : List Nat) : (wv l).length = l.length := by simp [wv]
theorem wv_get {l : List Nat} {j : Nat} (h : j < l.length) : (wv l)[j]? = some (.int .u32 ((l.getD j 0 : Nat) : Int)) := by
  simp [wv, h, List.getD]
theorem wv_set (l : List Nat) (j x : Nat) : (wv l).set j (.int .u32 ((x : Nat) : Int)) = wv (l.set j x) := by
  simp [wv, List.map_set]

theorem results_one {fn : Func} {p : Tmp} {ty : TypeId} (h : fn.results = #[.cell p ty]) (tmps : Array Value) (P : Program) (w : World) :
    (results fn tmps).run P w = ((asAddr (tmps.getD p undef)).run P w).andThen fun a w₁ => (loadVar ty a).run P w₁ := by
  simp only [results, h]
  simp [Sem.run_bind, Result.andThen]

def evs (a : Act) (parts : Array (Nat × Operand)) : Array (Nat × Value) := parts.map fun (i, x) => (i, a.eval x)
/-- A whole array or struct that is built at once. -/
theorem wpList_buildW {T : TypeId} {A : Array Value} {parts : Array (Nat × Operand)} {ops : Array Oper} {rest : List Oper} {o : Oper} {a : Act} {Q : Exit → Act → World → Prop} {w : World} (hgd : o.guard = none) (ho : o.op = .build T parts)
    (hb : Tryd.prog.built T (evs a parts).toList = some A)
    (h : wpList Tryd.prog ops Q rest (a.put o.dst (.agg A)) w) : wpList Tryd.prog ops Q (o :: rest) a w := by
  refine wpList_plain hgd fun K hK => ?_
  unfold Oper.wp execOp
  have hr := run_build (P := Tryd.prog) w T (evs a parts) A hb
  unfold evs at hr
  simp only [ho, Sem.run_bind, hr, Result.andThen_ok]
  exact hK _ _ h
theorem wvkk_len : (wv kk).length = 64 := by kernel_rfl
end
section
open Go.RowKit
theorem zero64 : (wv (List.replicate 64 0)).toArray = #[.int .u32 0, .int .u32 0, .int .u32 0, .int .u32 0, .int .u32 0, .int .u32 0, .int .u32 0, .int .u32 0, .int .u32 0, .int .u32 0, .int .u32 0, .int .u32 0, .int .u32 0, .int .u32 0, .int .u32 0, .int .u32 0, .int .u32 0, .int .u32 0, .int .u32 0, .int .u32 0, .int .u32 0, .int .u32 0, .int .u32 0, .int .u32 0, .int .u32 0, .int .u32 0, .int .u32 0, .int .u32 0, .int .u32 0, .int .u32 0, .int .u32 0, .int .u32 0, .int .u32 0, .int .u32 0, .int .u32 0, .int .u32 0, .int .u32 0, .int .u32 0, .int .u32 0, .int .u32 0, .int .u32 0, .int .u32 0, .int .u32 0, .int .u32 0, .int .u32 0, .int .u32 0, .int .u32 0, .int .u32 0, .int .u32 0, .int .u32 0, .int .u32 0, .int .u32 0, .int .u32 0, .int .u32 0, .int .u32 0, .int .u32 0, .int .u32 0, .int .u32 0, .int .u32 0, .int .u32 0, .int .u32 0, .int .u32 0, .int .u32 0, .int .u32 0] := by kernel_rfl

theorem wvt_get {l : List Nat} {j : Nat} (h : j < l.length) : (wv l).toArray[j]? = some (.int .u32 ((l.getD j 0 : Nat) : Int)) := by
  rw [List.getElem?_toArray]; exact wv_get h
theorem wvt_set (l : List Nat) (j x : Nat) : (wv l).toArray.setIfInBounds j (.int .u32 ((x : Nat) : Int)) = (wv (l.set j x)).toArray := by
  rw [List.setIfInBounds_toArray, wv_set]
theorem below_set3 {A : Nat} {w wc : World} (h : Below A w wc) (b j : Nat) (hb : A ≤ b) (v : Value) : Below A w (wc.setCell ⟨b, j, none⟩ v) := h.setCell hb v
theorem wl_set (l : List Nat) (p i : Nat) (h : i < 64) : (wl l p i ++ List.replicate (64 - i) 0).set i (if i < 16 then wrd l (p + 4 * i) else nextW (wl l p i) i) = wl l p (i + 1) ++ List.replicate (64 - (i + 1)) 0 := by
  have e : 64 - i = (64 - (i + 1)) + 1 := by omega
  rw [e, List.replicate_succ, List.set_append_right _ _ (by rw [wl_len]; omega), wl_len, Nat.sub_self, List.set_cons_zero, wl]
  simp
theorem wl_at (l : List Nat) (p i j : Nat) (h : j < i) : (wl l p i ++ List.replicate (64 - i) 0).getD j 0 = (wl l p i).getD j 0 := by
  simp only [List.getD]
  rw [List.getElem?_append_left (by rw [wl_len]; exact h)]
theorem wl_wlen (l : List Nat) (p i : Nat) (h : i ≤ 64) : (wl l p i ++ List.replicate (64 - i) 0).length = 64 := by
  rw [List.length_append, wl_len, List.length_replicate]; omega
theorem wl_lt (l : List Nat) (p : Nat) (hb : ∀ x ∈ l, x < 256) : ∀ n, ∀ x ∈ wl l p n, x < 4294967296
  | 0, x, h => by cases h
  | n + 1, x, h => by
    rw [wl] at h
    rcases List.mem_append.1 h with h | h
    · exact wl_lt l p hb n x h
    · simp only [List.mem_singleton] at h
      subst h
      split
      · exact wrd_lt hb _
      · exact Nat.mod_lt _ (by decide)
theorem getD_w {l : List Nat} (h : ∀ x ∈ l, x < 4294967296) (j : Nat) : l.getD j 0 < 4294967296 := by
  by_cases hj : j < l.length
  · rw [List.getD_eq_getElem?_getD, List.getElem?_eq_getElem hj]; exact h _ (List.getElem_mem hj)
  · rw [List.getD_eq_getElem?_getD, List.getElem?_eq_none (by omega)]; decide
theorem rl_lt (l : List Nat) (p : Nat) (s : List Nat) (hs : ∀ x ∈ s, x < 4294967296) : ∀ n, ∀ x ∈ rl l p s n, x < 4294967296
  | 0, x, h => hs x h
  | n + 1, x, h => by
    have ih := getD_w (rl_lt l p s hs n)
    rw [rl, rnd] at h
    simp only [List.mem_cons, List.not_mem_nil, or_false] at h
    rcases h with h | h | h | h | h | h | h | h <;> subst h <;> first | exact ih _ | exact Nat.mod_lt _ (by decide)

theorem ls1_bits (y : Nat) (hy : y < 4294967296) : ∃ A3 A4 : Nat, bits .xor .u32 ((rt y 17 : Nat) : Int) ((rt y 19 : Nat) : Int) = (A3 : Int) ∧ bits .xor .u32 (A3 : Int) ((y : Int) / 1024) = (A4 : Int) ∧ A4 < 4294967296 ∧ ls1 y = A4 := by
  have h1 := rt_lt (n := 17) hy (by decide)
  have h2 := rt_lt (n := 19) hy (by decide)
  refine ⟨rt y 17 ^^^ rt y 19, ls1 y, u32_xor_nat _ _ h1 h2, ?_, ls1_lt hy, rfl⟩
  have e : (y : Int) / 1024 = ((y / 1024 : Nat) : Int) := by omega
  rw [e, u32_xor_nat _ _ (xor_lt h1 h2) (by omega)]
  rfl
theorem ls0_bits (y : Nat) (hy : y < 4294967296) : ∃ A3 A4 : Nat, bits .xor .u32 ((rt y 7 : Nat) : Int) ((rt y 18 : Nat) : Int) = (A3 : Int) ∧ bits .xor .u32 (A3 : Int) ((y : Int) / 8) = (A4 : Int) ∧ A4 < 4294967296 ∧ ls0 y = A4 := by
  have h1 := rt_lt (n := 7) hy (by decide)
  have h2 := rt_lt (n := 18) hy (by decide)
  refine ⟨rt y 7 ^^^ rt y 18, ls0 y, u32_xor_nat _ _ h1 h2, ?_, ls0_lt hy, rfl⟩
  have e : (y : Int) / 8 = ((y / 8 : Nat) : Int) := by omega
  rw [e, u32_xor_nat _ _ (xor_lt h1 h2) (by omega)]
  rfl

theorem us1_bits (y : Nat) (hy : y < 4294967296) : ∃ A3 A4 : Nat, bits .xor .u32 ((rt y 6 : Nat) : Int) ((rt y 11 : Nat) : Int) = (A3 : Int) ∧ bits .xor .u32 (A3 : Int) ((rt y 25 : Nat) : Int) = (A4 : Int) ∧ A4 < 4294967296 ∧ us1 y = A4 := by
  have h1 := rt_lt (n := 6) hy (by decide)
  have h2 := rt_lt (n := 11) hy (by decide)
  have h3 := rt_lt (n := 25) hy (by decide)
  exact ⟨rt y 6 ^^^ rt y 11, us1 y, u32_xor_nat _ _ h1 h2, u32_xor_nat _ _ (xor_lt h1 h2) h3, us1_lt hy, rfl⟩
theorem us0_bits (y : Nat) (hy : y < 4294967296) : ∃ A3 A4 : Nat, bits .xor .u32 ((rt y 2 : Nat) : Int) ((rt y 13 : Nat) : Int) = (A3 : Int) ∧ bits .xor .u32 (A3 : Int) ((rt y 22 : Nat) : Int) = (A4 : Int) ∧ A4 < 4294967296 ∧ us0 y = A4 := by
  have h1 := rt_lt (n := 2) hy (by decide)
  have h2 := rt_lt (n := 13) hy (by decide)
  have h3 := rt_lt (n := 22) hy (by decide)
  exact ⟨rt y 2 ^^^ rt y 13, us0 y, u32_xor_nat _ _ h1 h2, u32_xor_nat _ _ (xor_lt h1 h2) h3, us0_lt hy, rfl⟩
theorem maj_bits (a b c : Nat) (ha : a < 4294967296) (hb : b < 4294967296) (hc : c < 4294967296) : ∃ P Q R S T : Nat, bits .and .u32 (a : Int) (b : Int) = (P : Int) ∧ bits .and .u32 (a : Int) (c : Int) = (Q : Int) ∧ bits .xor .u32 (P : Int) (Q : Int) = (R : Int) ∧ bits .and .u32 (b : Int) (c : Int) = (S : Int) ∧ bits .xor .u32 (R : Int) (S : Int) = (T : Int) ∧ T < 4294967296 ∧ maj a b c = T :=
  ⟨a &&& b, a &&& c, (a &&& b) ^^^ (a &&& c), b &&& c, maj a b c, u32_and_nat _ _ ha hb, u32_and_nat _ _ ha hc, u32_xor_nat _ _ (and_lt ha) (and_lt ha), u32_and_nat _ _ hb hc, u32_xor_nat _ _ (xor_lt (and_lt ha) (and_lt ha)) (and_lt hb), maj_lt ha hb, rfl⟩
theorem not_xor (e : Nat) (he : e < 4294967296) : 4294967295 ^^^ e = 4294967295 - e := by
  have h := BitVec.toNat_not (x := BitVec.ofNat 32 e)
  have h2 : ~~~(BitVec.ofNat 32 e) = BitVec.allOnes 32 ^^^ BitVec.ofNat 32 e := BitVec.not_def
  rw [h2, BitVec.toNat_xor, BitVec.toNat_allOnes, BitVec.toNat_ofNat, Nat.mod_eq_of_lt (by simpa using he)] at h
  simpa using h
theorem cho_bits (e f g : Nat) (he : e < 4294967296) (hf : f < 4294967296) (hg : g < 4294967296) : ∃ N P Q R : Nat, bits .xor .u32 (if IntKind.u32.signed = true then -1 else IntKind.u32.max) (e : Int) = (N : Int) ∧ bits .and .u32 (e : Int) (f : Int) = (P : Int) ∧ bits .and .u32 (N : Int) (g : Int) = (Q : Int) ∧ bits .xor .u32 (P : Int) (Q : Int) = (R : Int) ∧ R < 4294967296 ∧ cho e f g = R := by
  have hn : (if IntKind.u32.signed = true then -1 else IntKind.u32.max) = ((4294967295 : Nat) : Int) := rfl
  rw [hn]
  exact ⟨4294967295 - e, e &&& f, (4294967295 - e) &&& g, cho e f g, by rw [u32_xor_nat _ _ (by decide) he, not_xor e he], u32_and_nat _ _ he hf, u32_and_nat _ _ (by omega) hg, u32_xor_nat _ _ (and_lt he) (and_lt (by omega)), cho_lt he, rfl⟩
/-- The state with what stands behind place n moved on by one. -/
def shf (V : List Nat) (n : Nat) : List Nat := (List.range 8).map fun j => if n < j then V.getD (j - 1) 0 else V.getD j 0
theorem shf_len (V : List Nat) (n : Nat) : (shf V n).length = 8 := by simp [shf]
theorem shf_set (V : List Nat) (n : Nat) (h0 : 0 < n) (h7 : n ≤ 7) : (shf V n).set n ((shf V n).getD (n - 1) 0) = shf V (n - 1) := by
  rcases (by omega : n = 1 ∨ n = 2 ∨ n = 3 ∨ n = 4 ∨ n = 5 ∨ n = 6 ∨ n = 7) with rfl | rfl | rfl | rfl | rfl | rfl | rfl <;> rfl
theorem shf_all (V : List Nat) (h : V.length = 8) : shf V 7 = V := by
  match V, h with
  | [_, _, _, _, _, _, _, _], _ => rfl
theorem rnd_shf (V : List Nat) (k w : Nat) : rnd V k w = ((shf V 0).set 4 (((shf V 0).getD 4 0 + rT V k w) % 4294967296)).set 0 ((rT V k w + rU V) % 4294967296) := rfl
theorem shf_four (V : List Nat) : (shf V 0).getD 4 0 = V.getD 3 0 := rfl
/-- The sums of the first j words. -/
def zps (s V : List Nat) (j : Nat) : List Nat := (List.zipWith (fun x y => (x + y) % 4294967296) s V).take j ++ s.drop j
theorem zps_none (s V : List Nat) : zps s V 0 = s := by simp [zps]
theorem zps_all (s V : List Nat) (h : s.length = 8) (h' : V.length = 8) : zps s V 8 = List.zipWith (fun x y => (x + y) % 4294967296) s V := by
  unfold zps
  rw [List.take_of_length_le (by simp [h, h']), List.drop_of_length_le (by omega), List.append_nil]
theorem zps_len (s V : List Nat) (j : Nat) (h : s.length = 8) (h' : V.length = 8) (hj : j ≤ 8) : (zps s V j).length = 8 := by
  simp [zps, h, h']; omega
theorem zps_get (s V : List Nat) (j : Nat) (h : s.length = 8) (h' : V.length = 8) (hj : j < 8) : (zps s V j).getD j 0 = s.getD j 0 := by
  simp only [zps, List.getD]
  rw [List.getElem?_append_right (by simp [h, h']; omega)]
  simp [h, h', Nat.min_eq_left (Nat.le_of_lt hj)]
theorem zps_set (s V : List Nat) (j : Nat) (h : s.length = 8) (h' : V.length = 8) (hj : j < 8) : (zps s V j).set j ((s.getD j 0 + V.getD j 0) % 4294967296) = zps s V (j + 1) := by
  match s, h, V, h' with
  | [_, _, _, _, _, _, _, _], _, [_, _, _, _, _, _, _, _], _ =>
    rcases (by omega : j = 0 ∨ j = 1 ∨ j = 2 ∨ j = 3 ∨ j = 4 ∨ j = 5 ∨ j = 6 ∨ j = 7) with rfl | rfl | rfl | rfl | rfl | rfl | rfl | rfl <;> rfl
theorem eight (l : List Nat) (h : l.length = 8) : ∃ a b c d e f g i, l = [a, b, c, d, e, f, g, i] := by
  match l, h with
  | [a, b, c, d, e, f, g, i], _ => exact ⟨a, b, c, d, e, f, g, i, rfl⟩
theorem kk_lt : ∀ x ∈ kk, x < 4294967296 := by decide
end
section
open Go.RowKit
/-! ### Eq -/
set_option maxRecDepth 1000000 in
set_option maxHeartbeats 400000 in
theorem eq_any (w : World) (v1 v2 : Value) (xs ys : List Nat) (h1 : BSl w v1 xs) (h2 : BSl w v2 ys) :
    Calls Tryd.prog 35 #[v1, v2] w fun e w' => e = .returned (.bool (decide (xs = ys))) ∧ Kp (fun _ => False) w w' := by
  have H1 := hide h1
  have H2 := hide h2
  obtain ⟨⟨a1, cap1, rfl, _, hc1⟩, hm1, _⟩ := h1
  obtain ⟨⟨a2, cap2, rfl, _, hc2⟩, hm2, _⟩ := h2
  have HC1 := hide hc1
  have HC2 := hide hc2
  clear hc1 hc2
  by_cases hlen : xs.length = ys.length
  · have hne : ((xs.length : Int) != (ys.length : Int)) = false := by simp [hlen]
    have HLN := hide hlen
    clear hlen
    go_enter Tryd.func35, Tryd.ntmps35
    go_wp2
    go_loopw [5] (fun i wr => ∃ k : Nat, k ≤ xs.length ∧ i = .int .i64 k ∧ Kp (fun _ => False) w wr ∧ xs.take k = ys.take k) (fun i _ => xs.length - (intOf i).toNat)
    case atStart => exact ⟨0, Nat.zero_le _, rfl, Kp.refl _ _, by simp⟩
    case round =>
      obtain ⟨k, hk, rfl, hkp, htk⟩ := hrel
      have HK := hide hkp
      have HTK := hide htk
      clear hkp htk
      by_cases hlt : k < xs.length
      · have hlt' : (k : Int) < (xs.length : Int) := by omega
        have hlty : k < ys.length := by have := HLN.out; omega
        have hlty' : (k : Int) < (ys.length : Int) := by omega
        rcases HC1.out with h | ⟨b1, o1, rfl, hcc1⟩
        · rw [h] at hlt; simp at hlt
        rcases HC2.out with h | ⟨b2, o2, rfl, hcc2⟩
        · rw [h] at hlty; simp at hlty
        have cc1 := HK.out.cell (hcc1 k hlt) (by simp)
        have cc2 := HK.out.cell (hcc2 k hlty) (by simp)
        have hs1 : xs.take (k + 1) = xs.take k ++ [xs.getD k 0] := by rw [List.take_succ_eq_append_getElem hlt]; simp [List.getD, hlt]
        have hs2 : ys.take (k + 1) = ys.take k ++ [ys.getD k 0] := by rw [List.take_succ_eq_append_getElem hlty]; simp [List.getD, hlty]
        have HS1 := hide hs1
        have HS2 := hide hs2
        clear hcc1 hcc2 hs1 hs2
        by_cases hxy : xs.getD k 0 = ys.getD k 0
        · have hxy' : (((xs.getD k 0 : Nat) : Int) != ((ys.getD k 0 : Nat) : Int)) = false := by rw [hxy]; simp
          have HXY := hide hxy
          clear hxy
          generalize xs.getD k 0 = x at *
          generalize ys.getD k 0 = y at *
          go_wp2
          go_quiet (fail)
          go_wp2
          go_roundw
          case rel => exact ⟨k + 1, by omega, by go_num, HK.out.drewN _, by rw [HS1.out, HS2.out, HTK.out, HXY.out]⟩
          case measure => simp [intOf]; omega
        · have hxy' : (((xs.getD k 0 : Nat) : Int) != ((ys.getD k 0 : Nat) : Int)) = true := bne_iff_ne.2 (by omega)
          have hd : decide (xs = ys) = false := decide_eq_false (fun e => hxy (by rw [e]))
          have HD := hide hd
          clear hxy hd
          generalize xs.getD k 0 = x at *
          generalize ys.getD k 0 = y at *
          go_wp2
          go_quiet (fail)
          go_wp2
          go_ret
          exact ⟨by rw [HD.out]; rfl, HK.out.drewN _⟩
      · have hlt' : ¬ (k : Int) < (xs.length : Int) := by omega
        have hd : decide (xs = ys) = true := decide_eq_true (by
          have h := HTK.out
          rw [List.take_of_length_le (by omega), List.take_of_length_le (by have := HLN.out; omega)] at h
          exact h)
        have HD := hide hd
        clear hd
        go_wp2
        go_ret
        exact ⟨by rw [HD.out]; rfl, HK.out⟩
  · have hne : ((xs.length : Int) != (ys.length : Int)) = true := bne_iff_ne.2 (by omega)
    have hd : decide (xs = ys) = false := decide_eq_false (fun e => hlen (by rw [e]))
    rw [hd]
    clear hlen hd
    go_enter Tryd.func35, Tryd.ntmps35
    go_wp2
    go_ret
    exact ⟨rfl, Kp.refl _ _⟩
end
end Go.Proofs.YtibcepokeaaoiabDoor
