import Derived.Test.YtdejcapbggjjgaaGreatDoorRows
import Derived.WalkKit
import Derived.WalkSpells
import Derived.WalkLawsBesides
import Derived.ScopeJumps
import Derived.Laws.BytesArg
import Derived.Laws.AppendOwnNone
import Derived.WalkSmall
import Derived.Deep.QuietTactic
import Derived.BigQuiet
import Derived.Maps.AppendAt
import Derived.Deep.RegionWith
import Derived.Deep.WholeRow
import Derived.StillTailTactics
import Derived.Deep.LoopGhost
import Derived.Deep.DeepCutAuto
import Derived.Deep.RegionLaw
namespace Go.Proofs.YtdejcapbggjjgaaGreatDoor
section
open Go.RowKit
theorem hide {p : Prop} (h : p) : Hid p := h

/-- A scope whose run jumps back to one label: as 'wp_scope_jumps', but what is proved of a pass from the label serves the first arrival too. -/
theorem scope_again {P : Program} {a : Act} {w : World} {Q : Exit → Act → World → Prop} {c rest : Code} (l : Nat) (J : Act → World → Prop) (μ : Act → World → Nat) (hf : findLabel c l = some (Code.skip.seq rest))
    (pass : ∀ a w, J a w → rest.wp P (Exit.jump l (fun a' w' => J a' w' ∧ μ a' w' < μ a w) Q) a w)
    (first : Hid (∀ a w, J a w → rest.wp P (Exit.jump l J Q) a w) → c.wp P (Exit.jump l J Q) a w) : (Code.scope c).wp P Q a w :=
  wp_scope_jumps l J μ hf (first (fun a w h => Code.wp_mono (fun e a' w' hq => by
    cases e with
    | goto l' => exact ⟨hq.1, hq.2.1⟩
    | normal => exact hq
    | exit id => exact hq
    | ret => exact hq
    | panic ch => exact hq
    | outgrown => exact hq) (pass a w h))) (fun a w h => wp_seq (wp_skip (pass a w h)))

/-- Bytes as cells. -/
def bv (l : List Nat) : List Value := l.map fun x => Value.int .u8 ((x : Nat) : Int)

theorem bv_app (a b : List Nat) : bv (a ++ b) = bv a ++ bv b := by simp [bv]

theorem Tryz.info5 : (Tryz.prog.info? 5).map (fun i => (i.zero, i.size, i.bytes)) = some (some (.int .u8 0), 1, 1) := by kernel_rfl

theorem info5_ex : ∃ i, Tryz.prog.info? 5 = some i ∧ i.zero = some (.int .u8 0) ∧ i.size = 1 ∧ i.bytes = 1 := by
  have h := Tryz.info5
  cases hi : Tryz.prog.info? 5 with
  | none => rw [hi] at h; cases h
  | some i => rw [hi] at h; simp at h; exact ⟨i, rfl, h.1, h.2.1, h.2.2⟩

theorem own_one (w : World) (x : Nat) : (w.alloc (.cells #[.int .u8 ((x : Nat) : Int)] 5)).ownsRow w.heap.size 5 1 (.slice (some ⟨w.heap.size, 0, none⟩) 1 1) 1 (bv [x]) :=
  ⟨rfl, .inr ⟨w.heap.size, 1, _, rfl, Nat.le_refl _, heap_alloc_new w _, Nat.le_refl _, by decide, rfl, rfl⟩⟩

theorem own_mono {w : World} {base base' : Nat} {e : TypeId} {size : Nat} {v : Value} {n : Nat} {xs : List Value} (h : w.ownsRow base e size v n xs) (hb : base' ≤ base) : w.ownsRow base' e size v n xs := by
  refine ⟨h.1, ?_⟩
  rcases h.2 with hn | ⟨g, cap, cur, hv, hg, r⟩
  · exact .inl hn
  · exact .inr ⟨g, cap, cur, hv, Nat.le_trans hb hg, r⟩
end
section
open Go.RowKit
/-- The slice value v reads, in w, as the bytes xs. -/
structure BSl (w : World) (v : Value) (xs : List Nat) : Prop where
  form : ∃ a cap, v = .slice a xs.length cap ∧ (xs.length ≤ cap ∧ (a = none → cap = 0)) ∧ (xs = [] ∨ ∃ b off, a = some ⟨b, off, none⟩ ∧ ∀ j, j < xs.length → w.cell? ⟨b, off + j, none⟩ = some (.int .u8 ((xs.getD j 0 : Nat) : Int)))
  max : xs.length ≤ 9223372036854775807
  byte : ∀ x ∈ xs, x < 256

theorem getD_lt {xs : List Nat} (h : ∀ x ∈ xs, x < 256) (j : Nat) : xs.getD j 0 < 256 := by
  by_cases hj : j < xs.length
  · rw [List.getD_eq_getElem?_getD, List.getElem?_eq_getElem hj]; exact h _ (List.getElem_mem hj)
  · rw [List.getD_eq_getElem?_getD, List.getElem?_eq_none (by omega)]; decide

theorem BSl.move {w w' : World} {v : Value} {xs : List Nat} (h : BSl w v xs) (hm : ∀ a u, w.cell? a = some u → w'.cell? a = some u) : BSl w' v xs := by
  obtain ⟨⟨a, cap, rfl, hn, hc⟩, hmax, hb⟩ := h
  refine ⟨⟨a, cap, rfl, hn, ?_⟩, hmax, hb⟩
  rcases hc with hc | ⟨b, off, rfl, hc⟩
  · exact .inl hc
  · exact .inr ⟨b, off, rfl, fun j hj => hm _ _ (hc j hj)⟩

theorem keep_alloc (w : World) (o : Obj) : ∀ a u, w.cell? a = some u → (w.alloc o).cell? a = some u := by
  intro a u h
  exact (World.cell?_of_block (Below.heap_alloc w o a.block (World.block_lt_of_cell? w a h))).trans h

theorem keep_below {w w' : World} (hb : Below w.heap.size w w') : ∀ a u, w.cell? a = some u → w'.cell? a = some u := by
  intro a u h
  rw [hb.cell (World.block_lt_of_cell? w a h)]; exact h

/-- Bytes as a string's. -/
def nstr (xs : List Nat) : ByteArray := strOfNums (xs.map fun x => ((x : Nat) : Int))

theorem nstr_inj {xs ys : List Nat} (hx : ∀ x ∈ xs, x < 256) (hy : ∀ x ∈ ys, x < 256) (h : (nstr xs).toList = (nstr ys).toList) : xs = ys := by
  have key : ∀ l : List Nat, (∀ x ∈ l, x < 256) → (nstr l).data.toList.map UInt8.toNat = l := by
    intro l hl
    simp only [nstr, strOfNums_data, List.map_map]
    conv => rhs; rw [← List.map_id l]
    apply List.map_congr_left
    intro x hx
    have := hl x hx
    simp; omega
  rw [ByteArray.toList_eq, ByteArray.toList_eq] at h
  rw [← key xs hx, ← key ys hy, h]

theorem BSl.text {w : World} {v : Value} {xs : List Nat} (h : BSl w v xs) : (convert 46 9 v).run Tryz.prog w = .ok (.string (nstr xs)) w := by
  obtain ⟨⟨a, cap, rfl, _, hc⟩, hmax, hb⟩ := h
  rcases hc with rfl | ⟨b, off, rfl, hc⟩
  · cases a with
    | none => exact run_convert_bytes_nil w 46 5 Tryz.underlying46 Tryz.underlying5 _ _ 9 Tryz.underlying9
    | some a =>
      rw [run_convert_bytes_string w 46 9 5 _ _ _ Tryz.underlying46 Tryz.underlying5 Tryz.underlying9]
      exact run_bytesToString w a 0 cap [] rfl
  · exact run_convert_bytes_arg w 46 5 Tryz.underlying46 Tryz.underlying5 b off xs.length cap (xs.map fun x => ((x : Nat) : Int)) (by simp) (fun i hi => by
      rw [hc i hi]; simp [List.getD, hi]) 9 Tryz.underlying9

theorem bv_get {xs : List Nat} {j : Nat} (h : j < xs.length) : (bv xs)[j]? = some (.int .u8 ((xs.getD j 0 : Nat) : Int)) := by
  simp [bv, h, List.getD]

theorem BSl.own {w : World} {B n : Nat} {v : Value} {xs : List Nat} (h : w.ownsRow B 5 1 v n (bv xs)) (hb : ∀ x ∈ xs, x < 256) : BSl w v xs := by
  have hn : n = xs.length := by have := h.1; simp [bv] at this; omega
  subst hn
  refine ⟨?_, ?_, hb⟩
  · rcases h.2 with ⟨rfl, h0⟩ | ⟨g, cap, cur, rfl, _, hg, h1, h2, h3, h4⟩
    · exact ⟨none, 0, by rw [h0], ⟨by omega, fun _ => rfl⟩, .inl (List.length_eq_zero_iff.1 h0)⟩
    · refine ⟨some ⟨g, 0, none⟩, cap, rfl, ⟨h1, fun h => by (cases h)⟩, .inr ⟨g, 0, rfl, fun j hj => ?_⟩⟩
      have := h.cells (g := g) rfl j _ (bv_get hj)
      have hadd : (⟨g, 0, none⟩ : Addr).add j = ⟨g, 0 + j, none⟩ := by unfold Addr.add; split <;> simp_all
      rw [hadd] at this
      exact this
  · rcases h.2 with ⟨rfl, h0⟩ | ⟨g, cap, cur, rfl, _, hg, h1, h2, h3, h4⟩
    · omega
    · unfold maxLen at h2; omega

/-- What an append takes of it. -/
theorem BSl.src {w : World} {ad : Addr} {n cap : Nat} {xs : List Nat} (h : BSl w (.slice (some ad) n cap) xs) : n = xs.length ∧ ∀ j u, (bv xs)[j]? = some u → w.cell? (ad.add j) = some u := by
  obtain ⟨⟨a, cap', e, _, hc⟩, _, _⟩ := h
  injection e with e1 e2 e3
  subst e1
  refine ⟨e2, ?_⟩
  rcases hc with rfl | ⟨b, off, e, hc⟩
  · intro j u hu; simp [bv] at hu
  · injection e with e
    subst e
    intro j u hu
    have hj : j < xs.length := by
      rcases Nat.lt_or_ge j xs.length with h | h
      · exact h
      · simp [bv, List.getElem?_eq_none h] at hu
    rw [bv_get hj] at hu
    injection hu with hu
    have hadd : (⟨b, off, none⟩ : Addr).add j = ⟨b, off + j, none⟩ := by unfold Addr.add; split <;> simp_all
    rw [hadd, hc j hj, hu]

theorem bv_one (xs : List Nat) : ∀ u ∈ bv xs, u.oneCell' = true := by
  intro u hu
  simp [bv] at hu
  obtain ⟨x, _, rfl⟩ := hu
  rfl

theorem bv_len (xs : List Nat) : (bv xs).length = xs.length := by simp [bv]

/-- 'append(l, x...)' at bytes: l a slice of the call's own, x whatever reads as bytes. -/
theorem append_bsl {ops : Array Oper} {rest : List Oper} {o : Oper} {a : Act} {Q : Exit → Act → World → Prop} {w : World} (hgd : o.guard = none) (s x : Operand)
    (ho : o.op = .call { callee := .builtin .append, args := #[s, x], argTypes := #[46, 46] }) (B : Nat) (v : Value) (n : Nat) (ds : List Nat) (hs : a.eval s = v) (hown : w.ownsRow B 5 1 v n (bv ds))
    (u : Value) (xs : List Nat) (hx : a.eval x = u) (hsl : BSl w u xs) (hlen : n + xs.length ≤ 140737488355328) (hbase : B ≤ w.heap.size)
    (h : ∀ v' w', w'.ownsRow B 5 1 v' (n + xs.length) (bv (ds ++ xs)) → w.grownBy w' v.ownBlock → wpList Tryz.prog ops Q rest (a.put o.dst v') w') : wpList Tryz.prog ops Q (o :: rest) a w := by
  obtain ⟨i5, hi, hz0, hz1, hz2⟩ := info5_ex
  obtain ⟨⟨ad, cap, rfl, hn, hc⟩, hmax, hb⟩ := id hsl
  cases ad with
  | none =>
    rcases hc with rfl | ⟨_, _, e, _⟩
    · have := hn.2 rfl
      subst this
      refine wpList_append_own_none hgd s x 46 ho B 5 i5 1 Tryz.underlying46 hi v n (bv ds) hs hown hx (h v w ?_ ⟨rfl, rfl, rfl, Nat.le_refl _, fun _ _ _ => rfl⟩)
      simpa using hown
    · cases e
  | some ad =>
    refine wpList_append_own w hgd s x 46 ho B 5 i5 (.int .u8 0) 1 1 Tryz.underlying46 hi hz0 hz1 hz2 rfl (by decide) v n (bv ds) hs hown ad xs.length cap (bv xs) hx (by simp [bv]) hsl.src.2 (bv_one xs) (by unfold maxLen; omega) (by omega) hbase fun v' w' h1 h2 _ => ?_
    exact h v' w' (by rw [bv_app]; exact h1) h2

/-- A beginning of it. -/
theorem BSl.take {w : World} {a : Option Addr} {n cap : Nat} {xs : List Nat} (h : BSl w (.slice a n cap) xs) (k : Nat) (hk : k ≤ xs.length) : BSl w (.slice a k cap) (xs.take k) := by
  obtain ⟨⟨a', cap', e, hn, hc⟩, hm, hb⟩ := h
  injection e with e1 e2 e3
  subst e1
  subst e3
  have hl : (xs.take k).length = k := by rw [List.length_take]; omega
  refine ⟨⟨a, cap, by rw [hl], ⟨by rw [hl]; have := hn.1; omega, hn.2⟩, ?_⟩, by rw [hl]; omega, fun x hx => hb x (List.mem_of_mem_take hx)⟩
  rcases hc with rfl | ⟨b, off, e, hc⟩
  · exact .inl (by simp)
  · refine .inr ⟨b, off, e, fun j hj => ?_⟩
    rw [hl] at hj
    rw [hc j (by omega)]
    simp [List.getD, hj]

theorem one_bsl (w : World) (x : Nat) (hx : x < 256) : BSl (w.alloc (.cells #[.int .u8 ((x : Nat) : Int)] 5)) (.slice (some ⟨w.heap.size, 0, none⟩) 1 1) [x] := by
  refine ⟨⟨_, 1, rfl, ⟨by simp, fun h => by (cases h)⟩, .inr ⟨_, 0, rfl, fun j hj => ?_⟩⟩, by simp, by simpa using hx⟩
  match j, hj with
  | 0, _ => simp

/-! ### Walks -/
theorem BSl.take3 {w : World} {a : Option Addr} {n cap : Nat} {xs : List Nat} (h : BSl w (.slice a n cap) xs) (k : Nat) (hk : k ≤ xs.length) : BSl w (.slice a k k) (xs.take k) := by
  obtain ⟨⟨a', cap', e, hn, hc⟩, hm, hb⟩ := h
  injection e with e1 e2 e3
  subst e1
  subst e3
  have hl : (xs.take k).length = k := by rw [List.length_take]; omega
  refine ⟨⟨a, k, by rw [hl], ⟨by rw [hl]; omega, fun h => by have := hn.2 h; have := hn.1; omega⟩, ?_⟩, by rw [hl]; omega, fun x hx => hb x (List.mem_of_mem_take hx)⟩
  rcases hc with rfl | ⟨b, off, e, hc⟩
  · exact .inl (by simp)
  · refine .inr ⟨b, off, e, fun j hj => ?_⟩
    rw [hl] at hj
    rw [hc j (by omega)]
    simp [List.getD, hj]
end
section
open Go.RowKit
theorem mark_any (n : Int) (w : World) (h0 : 0 ≤ n) (h1 : n < 70) : Calls Tryz.prog 12 #[.int .i64 n] w fun e w' => e = .returned (.int .u8 (165 - n)) ∧ w' = w := by
  go_enter Tryz.func12, Tryz.ntmps12
  go_wp2
  go_ret
  exact ⟨rfl, rfl⟩

def marks : List Nat := (List.range 70).map fun i => 165 - i

theorem marks_snoc (k : Nat) (h : k < 70) : marks.take (k + 1) = marks.take k ++ [165 - k] := by
  rw [List.take_succ_eq_append_getElem (by simpa [marks] using h)]
  simp [marks]

set_option maxRecDepth 1000000 in
set_option maxHeartbeats 400000 in
theorem lend_any (w : World) (v : Value) (xs : List Nat) (hsl : BSl w v xs) (hlen : xs.length ≤ 140737488351232) :
    Calls Tryz.prog 5 #[v] w fun e w' => ∃ g cap, e = .returned (.slice (some ⟨g, 0, none⟩) xs.length cap) ∧ w'.ownsRow w.heap.size 5 1 (.slice (some ⟨g, 0, none⟩) (xs.length + 70) cap) (xs.length + 70) (bv (xs ++ marks)) ∧ Below w.heap.size w w' := by
  obtain ⟨i5, hi, hz0, hz1, hz2⟩ := info5_ex
  have HI := hide hi
  have HZ0 := hide hz0
  have HZ1 := hide hz1
  have HZ2 := hide hz2
  have HSL := hide hsl
  obtain ⟨⟨a, cap, rfl, hn, hc⟩, hmax, hb⟩ := hsl
  clear hn hc hmax hb
  obtain ⟨w0, hmk, hown0, hgr0⟩ := run_make_own (P := Tryz.prog) w w.heap.size 46 5 i5 (.int .u8 0) 1 Tryz.underlying46 hi hz0 hz1 .i64 .i64 (xs.length + 70) (by rw [hz2]; omega) (by unfold maxLen; omega) (Nat.le_refl _)
  have ec : ((xs.length + 70 : Nat) : Int) = (xs.length : Int) + 70 := by omega
  rw [ec] at hmk
  clear ec hi hz0 hz1 hz2
  have hbel0 : Below w.heap.size w w0 := (Below.refl _ _).grown hgr0 (Nat.le_refl _) (fun _ h => by cases h)
  have HSL0 := hide (HSL.out.move (keep_below hbel0))
  generalize hB : w.heap.size = B at *
  have HB := hide hB
  clear hB hgr0
  have HO0 := hide hown0
  clear hown0
  have HBL0 := hide hbel0
  clear hbel0
  go_enter Tryz.func5, Tryz.ntmps5
  go_wp2_with (at_builtin; refine append_bsl rfl _ _ rfl B _ 0 [] rfl HO0.out _ xs rfl HSL0.out ?b1 ?b2 ?_)
  case b1 => omega
  case b2 => have := HBL0.out.size; have := HB.out; omega
  intro v1 w1 hown1 hgr1
  have hbel1 : Below B w w1 := HBL0.out.grown hgr1 (by have := HBL0.out.size; have := HB.out; omega) (fun q hq => (HO0.out.lt q hq).1)
  clear hgr1 HO0 HBL0 HSL0 hmk
  have HO1 := hide hown1
  clear hown1
  have HBL1 := hide hbel1
  clear hbel1
  go_wp2
  go_loopw [3, 4] (fun v i wr => ∃ k : Nat, k ≤ 70 ∧ i = .int .i64 k ∧ wr.ownsRow B 5 1 v (xs.length + k) (bv (xs ++ marks.take k)) ∧ Below B w wr) (fun _ i _ => 70 - (intOf i).toNat)
  case atStart => exact ⟨0, by omega, rfl, by simpa using HO1.out, HBL1.out⟩
  case round =>
    obtain ⟨k, hk, rfl, hown, hbel⟩ := hrel
    clear HO1 HBL1
    have HO := hide hown
    have HBL := hide hbel
    clear hown hbel
    by_cases hlt : k < 70
    · have hlt' : (k : Int) < 70 := by omega
      go_wp2_with fail
      refine (mark_any (k : Int) _ (by omega) hlt').mono ?_
      rintro e w' ⟨rfl, rfl⟩
      have em : (165 - (k : Int)) = ((165 - k : Nat) : Int) := by omega
      rw [em]
      clear em
      go_wp2_with (at_builtin; refine append_bsl rfl _ _ rfl B _ (xs.length + k) (xs ++ marks.take k) rfl (HO.out.alloc _) _ [165 - k] rfl (one_bsl _ _ (by omega)) ?b1 ?b2 ?_)
      case b1 => simp; omega
      case b2 => have := HBL.out.size; have := HB.out; simp; omega
      intro v2 w2 hown2 hgr2
      have hbel2 : Below B w w2 := (HBL.out.alloc (by have := HBL.out.size; have := HB.out; omega) _).grown hgr2 (by have := HBL.out.size; have := HB.out; simp; omega) (fun q hq => (HO.out.lt q hq).1)
      have hown3 : w2.ownsRow B 5 1 v2 (xs.length + (k + 1)) (bv (xs ++ marks.take (k + 1))) := by
        rw [marks_snoc k hlt]; exact hown2
      have HO2 := hide hown3
      have HBL2 := hide hbel2
      clear hgr2 hown2 hown3 hbel2
      go_wp2
      go_roundw
      case rel => exact ⟨k + 1, by omega, by go_num, HO2.out, HBL2.out⟩
      case measure => simp [intOf]; omega
    · have hlt' : ¬ (k : Int) < 70 := by omega
      have hk70 : k = 70 := by omega
      have ho := HO.out
      rw [hk70] at ho
      have em : marks.take 70 = marks := List.take_of_length_le (by simp [marks])
      rw [em] at ho
      rcases ho.2 with ⟨_, h0⟩ | ⟨g, cap', cur, hv, _, hg, h1, h2, h3, h4⟩
      · omega
      subst hv
      have HO2 := hide ho
      have h2' : xs.length ≤ cap' := by omega
      clear ho h3 h4 hg em HO hk70 hlt cur
      go_wp2
      go_ret
      exact ⟨g, cap', rfl, HO2.out, HBL.out⟩

/-- What Lend gives reads as what was lent. -/
theorem BSl.lent {w : World} {B g n cap : Nat} {xs : List Nat} (h : w.ownsRow B 5 1 (.slice (some ⟨g, 0, none⟩) (n + 70) cap) (n + 70) (bv (xs ++ marks))) (hn : n = xs.length) (hb : ∀ x ∈ xs, x < 256) :
    BSl w (.slice (some ⟨g, 0, none⟩) xs.length cap) xs := by
  have hm : ∀ x ∈ xs ++ marks, x < 256 := by
    intro x hx
    rcases List.mem_append.1 hx with hx | hx
    · exact hb x hx
    · simp [marks] at hx; omega
  have hall := BSl.own h hm
  obtain ⟨⟨a, cap', e, hcp, hc⟩, hmax, _⟩ := hall
  injection e with e1 e2 e3
  subst e1
  subst e3
  refine ⟨⟨_, cap, rfl, ⟨by have := hcp.1; simp at this; omega, fun h => by (cases h)⟩, ?_⟩, ?_, hb⟩
  · rcases hc with hc | ⟨b, off, e, hc⟩
    · simp [marks] at hc
    · refine .inr ⟨b, off, e, fun j hj => ?_⟩
      rw [hc j (by simp; omega)]
      simp [List.getD, List.getElem?_append_left hj]
  · simp at hmax; omega
end
section
open Go.RowKit
/-! ### What stays -/
/-- What was there stays as it was, but for the blocks S. -/
structure Kp (S : Nat → Prop) (w w' : World) : Prop where
  os : w'.os = w.os
  tape : w'.tape = w.tape
  output : w'.output = w.output
  size : w.heap.size ≤ w'.heap.size
  block : ∀ k, k < w.heap.size → ¬ S k → w'.heap[k]? = w.heap[k]?

theorem Kp.refl (S : Nat → Prop) (w : World) : Kp S w w := ⟨rfl, rfl, rfl, Nat.le_refl _, fun _ _ _ => rfl⟩
theorem Kp.trans {S T : Nat → Prop} {a b c : World} (h : Kp S a b) (g : Kp T b c) (hst : ∀ k, k < a.heap.size → T k → S k) : Kp S a c :=
  ⟨g.os.trans h.os, g.tape.trans h.tape, g.output.trans h.output, Nat.le_trans h.size g.size, fun k hk hs =>
    (g.block k (Nat.lt_of_lt_of_le hk h.size) (fun ht => hs (hst k hk ht))).trans (h.block k hk hs)⟩
theorem Kp.mono {S T : Nat → Prop} {w w' : World} (h : Kp S w w') (hst : ∀ k, k < w.heap.size → S k → T k) : Kp T w w' :=
  ⟨h.os, h.tape, h.output, h.size, fun k hk ht => h.block k hk (fun hs => ht (hst k hk hs))⟩
theorem Kp.alloc {S : Nat → Prop} {a w : World} (h : Kp S a w) (o : Obj) : Kp S a (w.alloc o) :=
  ⟨h.os, h.tape, h.output, by have := h.size; simp; omega, fun k hk hs => (Below.heap_alloc w o k (Nat.lt_of_lt_of_le hk h.size)).trans (h.block k hk hs)⟩
theorem Kp.drew {S : Nat → Prop} {a w : World} (h : Kp S a w) : Kp S a w.drew := ⟨h.os, h.tape, h.output, h.size, h.block⟩
theorem Kp.drewN {S : Nat → Prop} {a w : World} (h : Kp S a w) (n : Nat) : Kp S a (w.drewN n) := ⟨h.os, h.tape, h.output, h.size, h.block⟩
theorem Kp.setCell {S : Nat → Prop} {a w : World} (h : Kp S a w) (p : Addr) (v : Value) (hp : p.block < a.heap.size → S p.block) : Kp S a (w.setCell p v) :=
  ⟨h.os, h.tape, h.output, by have := h.size; simp [World.setCell]; omega, fun k hk hs => (Below.heap_setCell w p v k (fun e => hs (e ▸ hp (e ▸ hk)))).trans (h.block k hk hs)⟩
theorem Kp.grown {S : Nat → Prop} {a w w' : World} {row : Option Nat} (h : Kp S a w) (hg : w.grownBy w' row) (hr : ∀ k, k < a.heap.size → row = some k → S k) : Kp S a w' :=
  ⟨hg.os.trans h.os, hg.tape.trans h.tape, hg.output.trans h.output, Nat.le_trans h.size hg.size, fun k hk hs =>
    (hg.block k (Nat.lt_of_lt_of_le hk h.size) (fun e => hs (hr k hk e.symm))).trans (h.block k hk hs)⟩
theorem Kp.of_below {S : Nat → Prop} {w w' : World} (h : Below w.heap.size w w') : Kp S w w' := ⟨h.os, h.tape, h.output, h.size, fun k hk _ => h.block k hk⟩
theorem Kp.below {S : Nat → Prop} {w w' : World} {B : Nat} (h : Kp S w w') (hB : B ≤ w.heap.size) (hs : ∀ k, S k → B ≤ k) : Below B w w' :=
  ⟨h.os, h.tape, h.output, h.size, fun k hk => h.block k (by omega) (fun hsk => by have := hs k hsk; omega)⟩
theorem Kp.cell {S : Nat → Prop} {w w' : World} (h : Kp S w w') {p : Addr} {v : Value} (hc : w.cell? p = some v) (hs : ¬ S p.block) : w'.cell? p = some v :=
  (World.cell?_of_block (h.block p.block (World.block_lt_of_cell? w p hc) hs)).trans hc
theorem Kp.owns {S : Nat → Prop} {w w' : World} (h : Kp S w w') {base : Nat} {e : TypeId} {size : Nat} {v : Value} {n : Nat} {xs : List Value} (ho : w.ownsRow base e size v n xs) (hs : ∀ k, v.ownBlock = some k → ¬ S k) : w'.ownsRow base e size v n xs := by
  refine ⟨ho.1, ?_⟩
  rcases ho.2 with hn | ⟨g, cap, cur, rfl, hb, hgg, rest⟩
  · exact .inl hn
  · refine .inr ⟨g, cap, cur, rfl, hb, ?_, rest⟩
    rw [h.block g (Array.getElem?_eq_some_iff.1 hgg).1 (hs g rfl)]
    exact hgg
theorem Kp.bsl {S : Nat → Prop} {w w' : World} (h : Kp S w w') {v : Value} {xs : List Nat} (hb : BSl w v xs) (hs : ∀ k, v.ownBlock = some k → ¬ S k) : BSl w' v xs := by
  obtain ⟨⟨a, cap, rfl, hn, hc⟩, hm, hby⟩ := hb
  refine ⟨⟨a, cap, rfl, hn, ?_⟩, hm, hby⟩
  rcases hc with hc | ⟨b, off, rfl, hc⟩
  · exact .inl hc
  · exact .inr ⟨b, off, rfl, fun j hj => h.cell (hc j hj) (hs b rfl)⟩

/-! ### A block of a known row of cells -/
theorem blk_cell {w : World} {b : Nat} {cur : Array Value} {e : TypeId} {j : Nat} {v : Value} (h : w.heap[b]? = some (.cells cur e (0, 0))) (hv : cur[j]? = some v) : w.cell? ⟨b, j, none⟩ = some v := by
  simp [World.cell?, h, hv]
theorem blk_frozen {w : World} {b : Nat} {cur : Array Value} {e : TypeId} (j : Nat) (h : w.heap[b]? = some (.cells cur e (0, 0))) : w.frozen? ⟨b, j, none⟩ = false := by
  simp [World.frozen?, h]
theorem blk_set {w : World} {b : Nat} {cur : Array Value} {e : TypeId} (j : Nat) (v : Value) (h : w.heap[b]? = some (.cells cur e (0, 0))) : (w.setCell ⟨b, j, none⟩ v).heap[b]? = some (.cells (cur.setIfInBounds j v) e (0, 0)) := by
  simp [World.setCell, Array.getElem?_modify, h]
theorem blk_other {w : World} {b c : Nat} {o : Obj} (j : Nat) (v : Value) (h : w.heap[c]? = some o) (hne : c ≠ b) : (w.setCell ⟨b, j, none⟩ v).heap[c]? = some o := by
  rw [Below.heap_setCell w ⟨b, j, none⟩ v c hne]; exact h
theorem blk_lt {w : World} {b : Nat} {o : Obj} (h : w.heap[b]? = some o) : b < w.heap.size := (Array.getElem?_eq_some_iff.1 h).1
theorem blk_alloc {w : World} {b : Nat} {o : Obj} (o' : Obj) (h : w.heap[b]? = some o) : (w.alloc o').heap[b]? = some o := (Below.heap_alloc w o' b (blk_lt h)).trans h
theorem own_block_type {w : World} {base : Nat} {e : TypeId} {size : Nat} {v : Value} {n : Nat} {xs : List Value} (h : w.ownsRow base e size v n xs) {k : Nat} (hk : v.ownBlock = some k) : ∃ cur, w.heap[k]? = some (.cells cur e (0, 0)) := by
  rcases h.2 with ⟨rfl, _⟩ | ⟨g, cap, cur, rfl, _, hg, _⟩
  · simp [Value.ownBlock] at hk
  · simp [Value.ownBlock] at hk; subst hk; exact ⟨cur, hg⟩
/-- Rows of unlike element types lie in unlike blocks. -/
theorem own_apart {w : World} {base base' : Nat} {e e' : TypeId} {size size' : Nat} {v v' : Value} {n n' : Nat} {xs xs' : List Value} (h : w.ownsRow base e size v n xs) (h' : w.ownsRow base' e' size' v' n' xs') (hne : e ≠ e') {k : Nat} (hk : v.ownBlock = some k) : v'.ownBlock ≠ some k := by
  intro hk'
  obtain ⟨c, hc⟩ := own_block_type h hk
  obtain ⟨c', hc'⟩ := own_block_type h' hk'
  rw [hc] at hc'
  injection hc' with hc'
  injection hc' with _ h2
  exact hne h2
theorem own_not {w : World} {base : Nat} {e e' : TypeId} {size : Nat} {v : Value} {n : Nat} {xs : List Value} {b : Nat} {cur : Array Value} (h : w.ownsRow base e size v n xs) (hb : w.heap[b]? = some (.cells cur e' (0, 0))) (hne : e ≠ e') : v.ownBlock ≠ some b := by
  intro hk
  obtain ⟨c, hc⟩ := own_block_type h hk
  rw [hc] at hb
  injection hb with hb
  injection hb with _ h2
  exact hne h2

/-! ### The book -/
/-- The mark of list m at byte k. -/
def atv (m k : Nat) : Nat := if k % 2 = 0 then 1 + m % 251 else 1 + (7 * m + m / 251) % 251
def mkl (m n : Nat) : List Nat := (List.range n).map (atv m)
set_option maxRecDepth 100000 in
set_option maxHeartbeats 400000 in
theorem at_any (m k : Int) (w : World) (h0 : 0 ≤ m) (h1 : m < 1099511627776) (h2 : 0 ≤ k) (h3 : k < 1099511627776) :
    Calls Tryz.prog 65 #[.int .i64 m, .int .i64 k] w fun e w' => e = .returned (.int .u8 (atv m.toNat k.toNat : Nat)) ∧ w' = w := by
  obtain ⟨M, rfl⟩ := Int.eq_ofNat_of_zero_le h0
  obtain ⟨K, rfl⟩ := Int.eq_ofNat_of_zero_le h2
  rw [Int.toNat_natCast, Int.toNat_natCast]
  generalize hm : (M : Int) = m at *
  generalize hkk : (K : Int) = k at *
  by_cases hk : k % 2 = 0
  · have hk' : (k % 2 == 0) = true := beq_iff_eq.2 hk
    have hv : ((atv M K : Nat) : Int) = 1 + m % 251 := by unfold atv; rw [if_pos (by omega)]; omega
    rw [hv]
    clear hv hk hm hkk
    go_enter Tryz.func65, Tryz.ntmps65
    go_wp2
    go_ret
    exact ⟨rfl, rfl⟩
  · have hk' : (k % 2 == 0) = false := beq_eq_false_iff_ne.2 hk
    have hv : ((atv M K : Nat) : Int) = 1 + (7 * m + m / 251) % 251 := by
      unfold atv
      rw [if_neg (by omega)]
      have e0 : m / 251 = ((M / 251 : Nat) : Int) := by omega
      have e1 : 7 * m + m / 251 = ((7 * M + M / 251 : Nat) : Int) := by rw [e0, ← hm]; omega
      rw [e1]
      omega
    rw [hv]
    clear hv hk hm hkk
    go_enter Tryz.func65, Tryz.ntmps65
    go_wp2
    go_ret
    exact ⟨rfl, rfl⟩

def bookCells (vb vo : Value) (a t d u : Nat) : Array Value := #[vb, vo, .int .i64 (a : Nat), .slice none 0 0, .slice none 0 0, .int .i64 0, .slice none 0 0, .slice none 0 0, .int .i64 0, .slice none 0 0, .slice none 0 0, .int .i64 0, .slice none 0 0, .slice none 0 0, .int .i64 0, .slice none 0 0, .slice none 0 0, .int .i64 0, .slice none 0 0, .slice none 0 0, .int .i64 0, .slice none 0 0, .slice none 0 0, .int .i64 0, .slice none 0 0, .slice none 0 0, .int .i64 0, .slice none 0 0, .slice none 0 0, .int .i64 0, .slice none 0 0, .slice none 0 0, .int .i64 0, .slice none 0 0, .slice none 0 0, .int .i64 0, .slice none 0 0, .slice none 0 0, .int .i64 0, .slice none 0 0, .slice none 0 0, .int .i64 0, .slice none 0 0, .slice none 0 0, .int .i64 0, .slice none 0 0, .slice none 0 0, .int .i64 0, .slice none 0 0, .slice none 0 0, .int .i64 0, .slice none 0 0, .slice none 0 0, .int .i64 0, .int .i64 (t : Nat), .int .i64 (d : Nat), .int .i64 (u : Nat)]
end
section
open Go.RowKit
/-- The book's own block. -/
def BkBlk (w : World) (B : Nat) (vb vo : Value) (a t d u : Nat) : Prop := w.heap[B]? = some (.cells (bookCells vb vo a t d u) 45 (0, 0))
theorem BkBlk.set {w : World} {B : Nat} {vb vo vb' vo' : Value} {a t d u a' t' d' u' : Nat} (h : BkBlk w B vb vo a t d u) (j : Nat) (v : Value) (he : (bookCells vb vo a t d u).setIfInBounds j v = bookCells vb' vo' a' t' d' u') : BkBlk (w.setCell ⟨B, j, none⟩ v) B vb' vo' a' t' d' u' := by
  unfold BkBlk
  rw [blk_set j v h, he]
end
section
open Go.RowKit
/-- A list that is kept: its value, its length, its mark. -/
structure Ent where
  val : Value
  n : Nat
  m : Nat

/-- The book: its block, the row of lists, the row of marks' numbers, each list written full of its mark. -/
structure BookOk (w : World) (base B : Nat) (vb vo : Value) (es : List Ent) (a t d u : Nat) : Prop where
  blk : BkBlk w B vb vo a t d u
  hb : w.ownsRow base 46 1 vb es.length (es.map (·.val))
  ho : w.ownsRow base 3 1 vo es.length (es.map fun e => .int .i64 ((e.m : Nat) : Int))
  he : ∀ e ∈ es, w.ownsRow base 5 1 e.val e.n (bv (mkl e.m e.n))
  hs : ∀ e ∈ es, ∀ e' ∈ es, ∀ k, e.val.ownBlock = some k → e'.val.ownBlock = some k → e.m = e'.m
  hbase : base ≤ B
  hm : ∀ e ∈ es, e.m ≤ t ∧ e.n < 68719477000
  ht : t < 68719476736
  hu : u ≤ 16777216
  count : ∃ c r, a = 10 * c ∧ es.length = 10 * c + r ∧ 1200 * (c + r) ≤ u
  hg : ∀ i j ei ej, es[i]? = some ei → es[j]? = some ej → a ≤ j → i ≠ j → ∀ k, ei.val.ownBlock = some k → ej.val.ownBlock ≠ some k
  hn : ∀ (j : Nat) (ej : Ent), es[j]? = some ej → a ≤ j → ej.n < 68719476736

theorem own_form {w : World} {base : Nat} {e : TypeId} {v : Value} {n : Nat} {xs : List Value} (h : w.ownsRow base e 1 v n xs) : ∃ a cap, v = .slice a n cap ∧ n ≤ cap ∧ n ≤ 9223372036854775807 ∧ ∀ j u, xs[j]? = some u → ∃ g, a = some ⟨g, 0, none⟩ ∧ w.cell? ⟨g, j, none⟩ = some u := by
  have hlen : xs.length = n := by have := h.1; omega
  rcases h.2 with ⟨rfl, h0⟩ | ⟨g, cap, cur, rfl, _, hg, h1, h2, h3, h4⟩
  · refine ⟨none, 0, by rw [h0], by omega, by omega, fun j u hu => ?_⟩
    have : xs = [] := List.length_eq_zero_iff.1 (by omega)
    rw [this] at hu
    simp at hu
  · refine ⟨some ⟨g, 0, none⟩, cap, rfl, h1, by unfold maxLen at h2; omega, fun j u hu => ⟨g, rfl, ?_⟩⟩
    have := h.cells (g := g) rfl j u hu
    have hadd : (⟨g, 0, none⟩ : Addr).add j = ⟨g, j, none⟩ := by unfold Addr.add; split <;> simp_all
    rw [hadd] at this
    exact this
end
section
open Go.RowKit
theorem Tryz.info50 : (Tryz.prog.info? 46).map (fun i => (i.zero, i.size, i.bytes)) = some (some (.slice none 0 0), 1, 24) := by kernel_rfl
theorem Tryz.info3 : (Tryz.prog.info? 3).map (fun i => (i.zero, i.size, i.bytes)) = some (some (.int .i64 0), 1, 8) := by kernel_rfl
theorem info50_ex : ∃ i, Tryz.prog.info? 46 = some i ∧ i.zero = some (.slice none 0 0) ∧ i.size = 1 ∧ i.bytes = 24 := by
  have h := Tryz.info50
  cases hi : Tryz.prog.info? 46 with
  | none => rw [hi] at h; cases h
  | some i => rw [hi] at h; simp at h; exact ⟨i, rfl, h.1, h.2.1, h.2.2⟩
theorem info3_ex : ∃ i, Tryz.prog.info? 3 = some i ∧ i.zero = some (.int .i64 0) ∧ i.size = 1 ∧ i.bytes = 8 := by
  have h := Tryz.info3
  cases hi : Tryz.prog.info? 3 with
  | none => rw [hi] at h; cases h
  | some i => rw [hi] at h; simp at h; exact ⟨i, rfl, h.1, h.2.1, h.2.2⟩

/-- 'append(rows, x)' at slices of bytes, one of them. -/
theorem append_row {ops : Array Oper} {rest : List Oper} {o : Oper} {a : Act} {Q : Exit → Act → World → Prop} {w : World} (hgd : o.guard = none) (s x : Operand)
    (ho : o.op = .call { callee := .builtin .append, args := #[s, x], argTypes := #[22, 22] }) (B : Nat) (v : Value) (n : Nat) (ds : List Value) (hs : a.eval s = v) (hown : w.ownsRow B 46 1 v n ds)
    (y : Value) (S : Nat) (hS : w.heap.size = S) (hx : a.eval x = .slice (some ⟨S, 0, none⟩) 1 1) (hone : y.oneCell' = true) (hlen : n < 1099511627776) (hbase : B ≤ w.heap.size)
    (h : ∀ v' w', w'.ownsRow B 46 1 v' (n + 1) (ds ++ [y]) → (w.alloc (.cells #[y] 46)).grownBy w' v.ownBlock → (v'.ownBlock = v.ownBlock ∨ v'.ownBlock = some (w.heap.size + 1)) → wpList Tryz.prog ops Q rest (a.put o.dst v') w') : wpList Tryz.prog ops Q (o :: rest) a (w.alloc (.cells #[y] 46)) := by
  obtain ⟨i, hi, hz0, hz1, hz2⟩ := info50_ex
  subst hS
  refine wpList_append_own_at _ hgd s x 22 ho B 46 i (.slice none 0 0) 1 24 Tryz.underlying22 hi hz0 hz1 hz2 rfl (by decide) v n ds hs (hown.alloc _) ⟨w.heap.size, 0, none⟩ 1 1 [y] hx rfl (cell_one_new _ _ _) ?_ (by unfold maxLen; omega) (by omega) (by simp; omega) fun v' w' h1 h2 _ h4 => h v' w' h1 h2 (by simpa using h4)
  intro u hu
  simp at hu
  subst hu
  exact hone
/-- 'append(ints, x)'. -/
theorem append_int {ops : Array Oper} {rest : List Oper} {o : Oper} {a : Act} {Q : Exit → Act → World → Prop} {w : World} (hgd : o.guard = none) (s x : Operand)
    (ho : o.op = .call { callee := .builtin .append, args := #[s, x], argTypes := #[23, 23] }) (B : Nat) (v : Value) (n : Nat) (ds : List Value) (hs : a.eval s = v) (hown : w.ownsRow B 3 1 v n ds)
    (y : Int) (S : Nat) (hS : w.heap.size = S) (hx : a.eval x = .slice (some ⟨S, 0, none⟩) 1 1) (hlen : n < 1099511627776) (hbase : B ≤ w.heap.size)
    (h : ∀ v' w', w'.ownsRow B 3 1 v' (n + 1) (ds ++ [.int .i64 y]) → (w.alloc (.cells #[.int .i64 y] 3)).grownBy w' v.ownBlock → (v'.ownBlock = v.ownBlock ∨ v'.ownBlock = some (w.heap.size + 1)) → wpList Tryz.prog ops Q rest (a.put o.dst v') w') : wpList Tryz.prog ops Q (o :: rest) a (w.alloc (.cells #[.int .i64 y] 3)) := by
  obtain ⟨i, hi, hz0, hz1, hz2⟩ := info3_ex
  subst hS
  refine wpList_append_own_at _ hgd s x 23 ho B 3 i (.int .i64 0) 1 8 Tryz.underlying23 hi hz0 hz1 hz2 rfl (by decide) v n ds hs (hown.alloc _) ⟨w.heap.size, 0, none⟩ 1 1 [.int .i64 y] hx rfl (cell_one_new _ _ _) ?_ (by unfold maxLen; omega) (by omega) (by simp; omega) fun v' w' h1 h2 _ h4 => h v' w' h1 h2 (by simpa using h4)
  intro u hu
  simp at hu
  subst hu
  rfl

/-- One cell of a row of the call's own is written. -/
theorem own_set {w : World} {base : Nat} {e : TypeId} {g n cap j : Nat} {xs : List Value} (x : Value) (h : w.ownsRow base e 1 (.slice (some ⟨g, 0, none⟩) n cap) n xs) :
    (w.setCell ⟨g, j, none⟩ x).ownsRow base e 1 (.slice (some ⟨g, 0, none⟩) n cap) n (xs.set j x) := by
  refine ⟨by rw [List.length_set]; exact h.1, ?_⟩
  rcases h.2 with ⟨hv, _⟩ | ⟨g', cap', cur, hv, hb, hg, h1, h2, h3, h4⟩
  · cases hv
  · injection hv with e1 e2 e3
    injection e1 with e1
    injection e1 with e1 _ _
    subst e1
    subst e3
    refine .inr ⟨g, cap, _, rfl, hb, blk_set j x hg, h1, h2, by simpa using h3, ?_⟩
    rw [Nat.mul_one] at h4 ⊢
    rw [← h4, Array.toList_setIfInBounds, List.take_set]
theorem own_cell {w : World} {base : Nat} {e : TypeId} {g n m cap : Nat} {xs : List Value} (h : w.ownsRow base e 1 (.slice (some ⟨g, 0, none⟩) m cap) n xs) {j : Nat} {u : Value} (hu : xs[j]? = some u) : w.cell? ⟨g, j, none⟩ = some u ∧ w.frozen? ⟨g, j, none⟩ = false := by
  have := h.cells (g := g) rfl j u hu
  have hadd : (⟨g, 0, none⟩ : Addr).add j = ⟨g, j, none⟩ := by unfold Addr.add; split <;> simp_all
  rw [hadd] at this
  obtain ⟨cur, hcur⟩ := own_block_type h (k := g) rfl
  exact ⟨this, blk_frozen j hcur⟩
theorem own_back {w : World} {base : Nat} {e : TypeId} {v : Value} {n : Nat} {xs : List Value} (h : w.ownsRow base e 1 v n xs) : ∀ k, v.ownBlock = some k → base ≤ k ∧ k < w.heap.size := h.lt

/-- The blocks that a book holds. -/
def Foot (B : Nat) (vb vo : Value) (es : List Ent) (k : Nat) : Prop := k = B ∨ vb.ownBlock = some k ∨ vo.ownBlock = some k ∨ ∃ e ∈ es, e.val.ownBlock = some k
end
section
open Go.RowKit
/-- A kind of lists that a book keeps: its types, how many cells an item has, how often a list that has grown is kept, what is written into it. -/
structure Knd where
  tt : TypeId
  te : TypeId
  s : Nat
  per : Nat
  cost : Nat
  mc : Nat → Nat → List Value
def Knd.mkl (F : Knd) (m n : Nat) : List Value := (List.range n).flatMap (F.mc m)
theorem Knd.mkl_snoc (F : Knd) (m n : Nat) : F.mkl m (n + 1) = F.mkl m n ++ F.mc m n := by simp [Knd.mkl, List.range_succ]
structure Knd.Ok (F : Knd) : Prop where
  tb : F.tt ≠ 45
  eb : F.te ≠ 45
  t3 : F.tt ≠ 3
  e3 : F.te ≠ 3
  ne : F.tt ≠ F.te
/-- The lists of a kind: the row of lists, the row of their numbers, each list written full of its mark. -/
structure Kc (F : Knd) (w : World) (base : Nat) (vb vo : Value) (es : List Ent) (t : Nat) : Prop where
  hb : w.ownsRow base F.tt 1 vb es.length (es.map (·.val))
  ho : w.ownsRow base 3 1 vo es.length (es.map fun e => .int .i64 ((e.m : Nat) : Int))
  he : ∀ e ∈ es, w.ownsRow base F.te F.s e.val e.n (F.mkl e.m e.n)
  hs : ∀ e ∈ es, ∀ e' ∈ es, ∀ k, e.val.ownBlock = some k → e'.val.ownBlock = some k → e.m = e'.m
  hm : ∀ e ∈ es, e.m ≤ t ∧ e.n < 68719477000
structure Ko (F : Knd) (w : World) (base : Nat) (vb vo : Value) (es : List Ent) (a t u : Nat) : Prop where
  c : Kc F w base vb vo es t
  count : ∃ c r, a = F.per * c ∧ es.length = F.per * c + r ∧ F.cost * (c + r) ≤ u
  hg : ∀ i j ei ej, es[i]? = some ei → es[j]? = some ej → a ≤ j → i ≠ j → ∀ k, ei.val.ownBlock = some k → ej.val.ownBlock ≠ some k
  hn : ∀ (j : Nat) (ej : Ent), es[j]? = some ej → a ≤ j → ej.n < 68719476736
/-- The blocks of a kind's lists. -/
def Fut (vb vo : Value) (es : List Ent) (k : Nat) : Prop := vb.ownBlock = some k ∨ vo.ownBlock = some k ∨ ∃ e ∈ es, e.val.ownBlock = some k
theorem Kc.kp {F : Knd} {S : Nat → Prop} {w w' : World} {base : Nat} {vb vo : Value} {es : List Ent} {t : Nat} (h : Kc F w base vb vo es t) (hk : Kp S w w') (hs : ∀ k, Fut vb vo es k → ¬ S k) : Kc F w' base vb vo es t :=
  ⟨hk.owns h.hb (fun k e => hs k (.inl e)), hk.owns h.ho (fun k e => hs k (.inr (.inl e))), fun e he => hk.owns (h.he e he) (fun k q => hs k (.inr (.inr ⟨e, he, q⟩))), h.hs, h.hm⟩
theorem Ko.kp {F : Knd} {S : Nat → Prop} {w w' : World} {base : Nat} {vb vo : Value} {es : List Ent} {a t u : Nat} (h : Ko F w base vb vo es a t u) (hk : Kp S w w') (hs : ∀ k, Fut vb vo es k → ¬ S k) : Ko F w' base vb vo es a t u := ⟨h.c.kp hk hs, h.count, h.hg, h.hn⟩
theorem Ko.more {F : Knd} {w : World} {base : Nat} {vb vo : Value} {es : List Ent} {a t u t' u' : Nat} (h : Ko F w base vb vo es a t u) (ht : t ≤ t') (hu : u ≤ u') : Ko F w base vb vo es a t' u' :=
  ⟨⟨h.c.hb, h.c.ho, h.c.he, h.c.hs, fun e he => ⟨Nat.le_trans (h.c.hm e he).1 ht, (h.c.hm e he).2⟩⟩, by obtain ⟨c, r, h1, h2, h3⟩ := h.count; exact ⟨c, r, h1, h2, Nat.le_trans h3 hu⟩, h.hg, h.hn⟩
theorem Kc.lt {F : Knd} {w : World} {base : Nat} {vb vo : Value} {es : List Ent} {t : Nat} (h : Kc F w base vb vo es t) : ∀ k, Fut vb vo es k → base ≤ k ∧ k < w.heap.size := fun k hk => by
  rcases hk with e | e | ⟨x, hx, e⟩
  · exact h.hb.lt k e
  · exact h.ho.lt k e
  · exact (h.he x hx).lt k e
theorem Kc.notB {F : Knd} (hF : F.Ok) {w : World} {base B : Nat} {C : Array Value} {vb vo : Value} {es : List Ent} {t : Nat} (h : Kc F w base vb vo es t) (hB : w.heap[B]? = some (.cells C 45 (0, 0))) : ¬ Fut vb vo es B := fun hk => by
  rcases hk with e | e | ⟨x, hx, e⟩
  · exact own_not h.hb hB hF.tb e
  · exact own_not h.ho hB (by decide) e
  · exact own_not (h.he x hx) hB hF.eb e
/-- A kind of which nothing is kept. -/
theorem Ko.none (F : Knd) (w : World) (base t u : Nat) : Ko F w base (.slice none 0 0) (.slice none 0 0) [] 0 t u :=
  ⟨⟨World.ownsRow_nil _ _ _ _, World.ownsRow_nil _ _ _ _, by simp, by simp, by simp⟩, ⟨0, 0, by simp, by simp, by simp⟩, by simp, by simp⟩

/-- Half of a push: the list is in the row of lists, its number not yet in the other row. -/
structure Kh (F : Knd) (w : World) (base : Nat) (vb vo : Value) (es : List Ent) (ent : Ent) : Prop where
  hb : w.ownsRow base F.tt 1 vb (es.length + 1) (es.map (·.val) ++ [ent.val])
  ho : w.ownsRow base 3 1 vo es.length (es.map fun e => .int .i64 ((e.m : Nat) : Int))
  he : ∀ e ∈ es, w.ownsRow base F.te F.s e.val e.n (F.mkl e.m e.n)
  hn : w.ownsRow base F.te F.s ent.val ent.n (F.mkl ent.m ent.n)
theorem Kc.push_a {F : Knd} (hF : F.Ok) {w w3 : World} {base B : Nat} {C : Array Value} {vb vo : Value} {es : List Ent} {t : Nat} (h : Kc F w base vb vo es t) (hB : w.heap[B]? = some (.cells C 45 (0, 0))) (j : Nat) (ent : Ent) (hent : w.ownsRow base F.te F.s ent.val ent.n (F.mkl ent.m ent.n)) (v3 : Value)
    (ho3 : w3.ownsRow base F.tt 1 v3 (es.length + 1) (es.map (·.val) ++ [ent.val])) (hg3 : (w.alloc (.cells #[ent.val] F.tt)).grownBy w3 vb.ownBlock) :
    w3.heap[B]? = some (.cells C 45 (0, 0)) ∧ (w3.setCell ⟨B, j, none⟩ v3).heap[B]? = some (.cells (C.setIfInBounds j v3) 45 (0, 0)) ∧ Kh F (w3.setCell ⟨B, j, none⟩ v3) base v3 vo es ent ∧ Kp (fun q => q = B ∨ vb.ownBlock = some q) w (w3.setCell ⟨B, j, none⟩ v3) := by
  have hbb : vb.ownBlock ≠ some B := own_not h.hb hB hF.tb
  have hkg : Kp (fun q => vb.ownBlock = some q) w w3 := ((Kp.refl _ w).alloc _).grown hg3 (fun q _ hq => hq)
  have hblk3 : w3.heap[B]? = some (.cells C 45 (0, 0)) := (hkg.block B (blk_lt hB) hbb).trans hB
  have hk34 : Kp (fun q => q = B) w3 (w3.setCell ⟨B, j, none⟩ v3) := (Kp.refl _ _).setCell _ _ (fun _ => rfl)
  have hk24 : Kp (fun q => q = B ∨ vb.ownBlock = some q) w (w3.setCell ⟨B, j, none⟩ v3) := (hkg.mono (fun _ _ h => .inr h)).trans hk34 (fun _ _ h => .inl h)
  have hkeep : ∀ {ee : TypeId} {s : Nat} {v : Value} {nn : Nat} {yy : List Value}, w.ownsRow base ee s v nn yy → ee ≠ 45 → ee ≠ F.tt → (w3.setCell ⟨B, j, none⟩ v3).ownsRow base ee s v nn yy := fun ho h1 h2 =>
    hk24.owns ho (fun q hq hor => by
      rcases hor with rfl | hor
      · exact own_not ho hB h1 hq
      · exact own_apart ho h.hb h2 hq hor)
  exact ⟨hblk3, blk_set j v3 hblk3, ⟨hk34.owns ho3 (fun q hq e => own_not ho3 hblk3 hF.tb (by rw [hq, e])), hkeep h.ho (by decide) (fun e => hF.t3 e.symm), fun e he => hkeep (h.he e he) hF.eb (fun e => hF.ne e.symm), hkeep hent hF.eb (fun e => hF.ne e.symm)⟩, hk24⟩
theorem Kh.push_b {F : Knd} (hF : F.Ok) {w w5 : World} {base B : Nat} {C : Array Value} {v3 vo : Value} {es : List Ent} {ent : Ent} {t : Nat} (h : Kh F w base v3 vo es ent) (hB : w.heap[B]? = some (.cells C 45 (0, 0))) (j : Nat) (v5 : Value)
    (ho5 : w5.ownsRow base 3 1 v5 (es.length + 1) (es.map (fun e => .int .i64 ((e.m : Nat) : Int)) ++ [.int .i64 ((ent.m : Nat) : Int)])) (hg5 : (w.alloc (.cells #[.int .i64 ((ent.m : Nat) : Int)] 3)).grownBy w5 vo.ownBlock)
    (hs : ∀ e ∈ es, ∀ e' ∈ es, ∀ k, e.val.ownBlock = some k → e'.val.ownBlock = some k → e.m = e'.m) (hsh : ∀ e ∈ es, ∀ k, e.val.ownBlock = some k → ent.val.ownBlock = some k → e.m = ent.m)
    (hm : ∀ e ∈ es, e.m ≤ t ∧ e.n < 68719477000) (hme : ent.m ≤ t ∧ ent.n < 68719477000) :
    w5.heap[B]? = some (.cells C 45 (0, 0)) ∧ (w5.setCell ⟨B, j, none⟩ v5).heap[B]? = some (.cells (C.setIfInBounds j v5) 45 (0, 0)) ∧ Kc F (w5.setCell ⟨B, j, none⟩ v5) base v3 v5 (es ++ [ent]) t ∧ Kp (fun q => q = B ∨ vo.ownBlock = some q) w (w5.setCell ⟨B, j, none⟩ v5) := by
  have hbo : vo.ownBlock ≠ some B := own_not h.ho hB (by decide)
  have hkg : Kp (fun q => vo.ownBlock = some q) w w5 := ((Kp.refl _ w).alloc _).grown hg5 (fun q _ hq => hq)
  have hblk5 : w5.heap[B]? = some (.cells C 45 (0, 0)) := (hkg.block B (blk_lt hB) hbo).trans hB
  have hk56 : Kp (fun q => q = B) w5 (w5.setCell ⟨B, j, none⟩ v5) := (Kp.refl _ _).setCell _ _ (fun _ => rfl)
  have hk46 : Kp (fun q => q = B ∨ vo.ownBlock = some q) w (w5.setCell ⟨B, j, none⟩ v5) := (hkg.mono (fun _ _ h => .inr h)).trans hk56 (fun _ _ h => .inl h)
  have hkeep : ∀ {ee : TypeId} {s : Nat} {v : Value} {nn : Nat} {yy : List Value}, w.ownsRow base ee s v nn yy → ee ≠ 45 → ee ≠ 3 → (w5.setCell ⟨B, j, none⟩ v5).ownsRow base ee s v nn yy := fun ho h1 h2 =>
    hk46.owns ho (fun q hq hor => by
      rcases hor with rfl | hor
      · exact own_not ho hB h1 hq
      · exact own_apart ho h.ho h2 hq hor)
  have hv5 := hk56.owns ho5 (fun q hq e => own_not ho5 hblk5 (by decide) (by rw [hq, e]))
  have hv3 := hkeep h.hb hF.tb hF.t3
  refine ⟨hblk5, blk_set j v5 hblk5, ⟨by simpa using hv3, by simpa using hv5, ?_, ?_, ?_⟩, hk46⟩
  · intro e he
    rcases List.mem_append.1 he with he | he
    · exact hkeep (h.he e he) hF.eb hF.e3
    · simp at he; subst he; exact hkeep h.hn hF.eb hF.e3
  · intro e he e' he' q hq hq'
    rcases List.mem_append.1 he with h1 | h1 <;> rcases List.mem_append.1 he' with h2 | h2
    · exact hs e h1 e' h2 q hq hq'
    · have h2 := List.mem_singleton.1 h2; rw [h2] at hq' ⊢; exact hsh e h1 q hq hq'
    · have h1 := List.mem_singleton.1 h1; rw [h1] at hq ⊢; exact (hsh e' h2 q hq' hq).symm
    · rw [List.mem_singleton.1 h1, List.mem_singleton.1 h2]
  · intro e he
    rcases List.mem_append.1 he with he | he
    · exact hm e he
    · simp at he; subst he; exact hme
theorem sn_get {α : Type} {l : List α} {x y : α} {i : Nat} (h : (l ++ [x])[i]? = some y) : (i < l.length ∧ l[i]? = some y) ∨ (i = l.length ∧ y = x) := by
  rcases Nat.lt_trichotomy i l.length with hi | hi | hi
  · rw [List.getElem?_append_left hi] at h; exact .inl ⟨hi, h⟩
  · subst hi; simp at h; exact .inr ⟨rfl, h.symm⟩
  · rw [List.getElem?_eq_none (by simp; omega)] at h; cases h
/-- A list more, that was not there: all of it. -/
theorem Ko.add {F : Knd} {w w' : World} {base : Nat} {vb vo vb' vo' : Value} {es : List Ent} {a t u u' : Nat} {ent : Ent} (h : Ko F w base vb vo es a t u) (hc : Kc F w' base vb' vo' (es ++ [ent]) (t + 1)) (hd : ∀ e ∈ es, ∀ k, e.val.ownBlock = some k → ent.val.ownBlock ≠ some k) (hn : ent.n < 68719476736) (hu : u + F.cost ≤ u') : Ko F w' base vb' vo' (es ++ [ent]) a (t + 1) u' := by
  refine ⟨hc, ?_, ?_, ?_⟩
  · obtain ⟨c, r, h1, h2, h3⟩ := h.count
    refine ⟨c, r + 1, h1, by simp; omega, ?_⟩
    have e : F.cost * (c + (r + 1)) = F.cost * (c + r) + F.cost := by rw [← Nat.add_assoc, Nat.mul_succ]
    omega
  · intro i j ei ej hi hj haj hij q hq
    rcases sn_get hi with ⟨_, hi1⟩ | ⟨hi0, hi1⟩ <;> rcases sn_get hj with ⟨_, hj1⟩ | ⟨hj0, hj1⟩
    · exact h.hg i j ei ej hi1 hj1 haj hij q hq
    · rw [hj1]; exact hd ei (List.mem_of_getElem? hi1) q hq
    · rw [hi1] at hq; exact fun hq' => hd ej (List.mem_of_getElem? hj1) q hq' hq
    · omega
  · intro j ej hj haj
    rcases sn_get hj with ⟨_, hj⟩ | ⟨_, hj⟩
    · exact h.hn j ej hj haj
    · subst hj; exact hn
end
section
open Go.RowKit
/-- 'append(g, y)', one item, and what becomes of every other row of such items: one in the same block, no longer than g, stays as it was. -/
theorem append_mk {ops : Array Oper} {rest : List Oper} {o : Oper} {a : Act} {Q : Exit → Act → World → Prop} {w : World} (hgd : o.guard = none) (s x : Operand) (T2 e : TypeId) (i : TypeInfo) (z : Value) (sz bz : Nat)
    (ht : Tryz.prog.underlying T2 = some (.slice e)) (hi : Tryz.prog.info? e = some i) (hz0 : i.zero = some z) (hz1 : i.size = sz) (hz2 : i.bytes = bz) (hzs : z.cells.size = sz) (hpos : 0 < sz)
    (ho : o.op = .call { callee := .builtin .append, args := #[s, x], argTypes := #[T2, T2] }) (B : Nat) (v : Value) (n : Nat) (ds : List Value) (hs : a.eval s = v) (hown : w.ownsRow B e sz v n ds)
    (ys : Array Value) (hys : ys.size = sz) (h1 : ∀ u ∈ ys.toList, u.oneCell' = true) (S : Nat) (hS : w.heap.size = S) (hx : a.eval x = .slice (some ⟨S, 0, none⟩) 1 1) (hlen : n < 100000000000) (hb2 : bz ≤ 1000) (hbase : B ≤ w.heap.size)
    (h : ∀ v' w', w'.ownsRow B e sz v' (n + 1) (ds ++ ys.toList) → (∀ v2 n2 xs2, (∀ k, v2.ownBlock = some k → v.ownBlock = some k → n2 ≤ n) → w.ownsRow B e sz v2 n2 xs2 → w'.ownsRow B e sz v2 n2 xs2) →
      Kp (fun k => v.ownBlock = some k) w w' → (v'.ownBlock = v.ownBlock ∨ v'.ownBlock = some (w.heap.size + 1)) → wpList Tryz.prog ops Q rest (a.put o.dst v') w') : wpList Tryz.prog ops Q (o :: rest) a (w.alloc (.cells ys e)) := by
  subst hS
  have hnews : ∀ j u, ys.toList[j]? = some u → (w.alloc (.cells ys e)).cell? ((⟨w.heap.size, 0, none⟩ : Addr).add j) = some u := fun j u hu => by
    have hadd : (⟨w.heap.size, 0, none⟩ : Addr).add j = ⟨w.heap.size, j, none⟩ := by unfold Addr.add; split <;> simp_all
    rw [hadd]
    exact blk_cell (heap_alloc_new w (.cells ys e)) (by simpa using hu)
  have hyl : ys.toList.length = sz := by simpa using hys
  have hownA := hown.alloc (.cells ys e)
  have hdl := hown.1
  have hmul : (n + 1) * sz = n * sz + sz := Nat.succ_mul n sz
  have hbyt : (n + 1) * bz ≤ 140737488355328 := Nat.le_trans (Nat.mul_le_mul_left (n + 1) hb2) (by omega)
  have moved : ∀ (w' : World) (v' : Value), (Builtin.append_ #[T2, T2] o.type #[v, .slice (some ⟨w.heap.size, 0, none⟩) 1 1]).run Tryz.prog (w.alloc (.cells ys e)) = .ok v' w' →
      w'.ownsRow B e sz v' (n + 1) (ds ++ ys.toList) → Kp (fun _ => False) w w' → v'.ownBlock = some (w.heap.size + 1) → wpList Tryz.prog ops Q (o :: rest) a (w.alloc (.cells ys e)) := by
    intro w' v' hr hown' hk hb
    refine wpList_plain hgd fun K hK => ?_
    unfold Oper.wp execOp
    simp only [ho, resolve, invoke, builtin, Sem.run_bind, Sem.run_pure, Result.andThen_ok, List.map_toArray, List.map_cons, List.map_nil, hs, hx, hr]
    exact hK _ _ (h v' w' hown' (fun v2 n2 xs2 _ h2 => hk.owns h2 (fun _ _ hf => hf)) (hk.mono (fun _ _ hf => hf.elim)) (.inr hb))
  rcases hown.2 with ⟨rfl, rfl⟩ | ⟨g, cap, cur, rfl, hbg, hg, hnc, hcm, hcs, htake⟩
  · have hx0 : ds = [] := List.eq_nil_of_length_eq_zero (by simpa using hown.1)
    subst hx0
    obtain ⟨v', w', hr, r1, r2, _, r4⟩ := run_append_own_at (P := Tryz.prog) (w.alloc (.cells ys e)) B T2 o.type e i z sz bz ht hi hz0 hz1 hz2 hzs hpos (.slice none 0 0) 0 [] hownA ⟨w.heap.size, 0, none⟩ 1 1 ys.toList (by omega) hnews h1 (by decide) (by omega) (by simp; omega)
    refine moved w' v' hr (by simpa using r1) (((Kp.refl _ w).alloc _).grown r2 (fun k _ hk => by cases hk)) ?_
    rcases r4 with r4 | r4
    · exfalso
      rcases r1.2 with ⟨_, h0⟩ | ⟨g, _, _, rfl, _⟩
      · omega
      · simp [Value.ownBlock] at r4
    · simpa using r4
  · have hgA : (w.alloc (.cells ys e)).heap[g]? = some (.cells cur e (0, 0)) := blk_alloc _ hg
    by_cases hroom : n + 1 ≤ cap
    · have hcap : (n + 1) * sz ≤ cap * sz := Nat.mul_le_mul_right sz hroom
      have hr := run_append_room (P := Tryz.prog) (w.alloc (.cells ys e)) T2 o.type e i ht hi g n cap cur hgA ⟨w.heap.size, 0, none⟩ 1 1 ys.toList (by rw [hz1]; omega) hnews h1 hroom (by rw [hz1, hyl]; omega)
      rw [hz1, hyl] at hr
      have hcl : cur.toList.length = cap * sz := by simpa using hcs
      have hsz : (cur.toList.take (n * sz) ++ ys.toList ++ cur.toList.drop (n * sz + sz)).toArray.size = cap * sz := by
        rw [List.size_toArray, List.length_append, List.length_append, List.length_take, List.length_drop, hyl, hcl]
        omega
      have hpre : ∀ q, q ≤ n * sz → (cur.toList.take (n * sz) ++ ys.toList ++ cur.toList.drop (n * sz + sz)).toArray.toList.take q = cur.toList.take q := by
        intro q hq
        simp only [List.append_assoc]
        rw [List.take_append_of_le_length (by rw [List.length_take, hcl]; omega), List.take_take, Nat.min_eq_left hq]
      have hrow : ((w.alloc (.cells ys e)).setRow g (cur.toList.take (n * sz) ++ ys.toList ++ cur.toList.drop (n * sz + sz)).toArray).heap[g]? = some (.cells (cur.toList.take (n * sz) ++ ys.toList ++ cur.toList.drop (n * sz + sz)).toArray e (0, 0)) := setRow_heap _ g cur _ e _ hgA
      have hkp : Kp (fun k => (Value.slice (some ⟨g, 0, none⟩) n cap).ownBlock = some k) w ((w.alloc (.cells ys e)).setRow g (cur.toList.take (n * sz) ++ ys.toList ++ cur.toList.drop (n * sz + sz)).toArray) :=
        ⟨rfl, rfl, rfl, by simp, fun k hk hne => (setRow_other _ g k _ (fun e => hne (by simp [Value.ownBlock, e]))).trans (Below.heap_alloc w _ k hk)⟩
      refine wpList_plain hgd fun K hK => ?_
      unfold Oper.wp execOp
      simp only [ho, resolve, invoke, builtin, Sem.run_bind, Sem.run_pure, Result.andThen_ok, List.map_toArray, List.map_cons, List.map_nil, hs, hx, hr]
      refine hK _ _ (h _ _ ?_ ?_ hkp (.inl rfl))
      · refine ⟨by rw [List.length_append, hdl, hyl, hmul], .inr ⟨g, cap, _, rfl, hbg, hrow, hroom, hcm, hsz, ?_⟩⟩
        rw [htake]
        have hl : (ds ++ ys.toList).length = (n + 1) * sz := by rw [List.length_append, hdl, hyl, hmul]
        simp only [← hl]
        exact List.take_left
      · intro v2 n2 xs2 hle h2
        refine ⟨h2.1, ?_⟩
        rcases h2.2 with hn | ⟨g2, cap2, cur2, rfl, hb2, hg2, r1, r2, r3, r4⟩
        · exact .inl hn
        · by_cases hgg : g2 = g
          · subst hgg
            have hn2 := hle g2 rfl rfl
            rw [hg] at hg2
            injection hg2 with hg2
            injection hg2 with hg2 _
            subst hg2
            refine .inr ⟨g2, cap2, _, rfl, hb2, hrow, r1, r2, by rw [hsz]; omega, ?_⟩
            rw [hpre (n2 * sz) (Nat.mul_le_mul_right sz hn2), r4]
          · refine .inr ⟨g2, cap2, cur2, rfl, hb2, ?_, r1, r2, r3, r4⟩
            rw [hkp.block g2 (blk_lt hg2) (fun e => hgg (by simp [Value.ownBlock] at e; exact e.symm))]
            exact hg2
    · have holds : ∀ j u, ds[j]? = some u → (w.alloc (.cells ys e)).cell? ((⟨g, 0, none⟩ : Addr).add j) = some u := hownA.cells (g := g) rfl
      have hr := run_append_grow (P := Tryz.prog) (w.alloc (.cells ys e)) T2 o.type e i z ht hi hz0 ⟨g, 0, none⟩ n cap ds (by rw [hz1]; exact hown.1) holds ⟨w.heap.size, 0, none⟩ 1 1 ys.toList (by rw [hz1]; omega) hnews (by omega) (by omega) (growslice_fits (by omega) (by rw [hz2]; exact hbyt))
      have hge := grownCap_ge (w.alloc (.cells ys e)) (n + 1) cap e
      have hcm' := grownCap_le_maxLen (w.alloc (.cells ys e)) (n + 1) cap e (by unfold maxLen; omega)
      refine moved _ _ hr ⟨by rw [List.length_append, hdl, hyl, hmul], .inr ⟨_, _, _, rfl, by simp; omega, heap_alloc_new _ _, hge, hcm', ?_, ?_⟩⟩ ⟨rfl, rfl, rfl, by simp; omega, fun k hk _ => ?_⟩ (by simp [Value.ownBlock])
      · rw [Array.size_append, Array.size_append, List.size_toArray, List.size_toArray, size_zeroCells, hzs, hdl, hyl, ← hmul, ← Nat.add_mul, Nat.add_sub_cancel' hge]
      · have hl : (ds ++ ys.toList).length = (n + 1) * sz := by rw [List.length_append, hdl, hyl, hmul]
        simp only [Array.toList_append]
        rw [← hl]
        exact List.take_left
      · exact (Below.heap_alloc (w.alloc (.cells ys e)).drew _ k (by simp; omega)).trans (Below.heap_alloc w _ k hk)
/-- 'append(rows, x)' at lists of a kind, one of them. -/
theorem append_lst {ops : Array Oper} {rest : List Oper} {o : Oper} {a : Act} {Q : Exit → Act → World → Prop} {w : World} (hgd : o.guard = none) (s x : Operand) (T2 T1 : TypeId) (i : TypeInfo) (ht : Tryz.prog.underlying T2 = some (.slice T1)) (hi : Tryz.prog.info? T1 = some i) (hz0 : i.zero = some (.slice none 0 0)) (hz1 : i.size = 1) (hz2 : i.bytes = 24)
    (ho : o.op = .call { callee := .builtin .append, args := #[s, x], argTypes := #[T2, T2] }) (B : Nat) (v : Value) (n : Nat) (ds : List Value) (hs : a.eval s = v) (hown : w.ownsRow B T1 1 v n ds)
    (y : Value) (S : Nat) (hS : w.heap.size = S) (hx : a.eval x = .slice (some ⟨S, 0, none⟩) 1 1) (hone : y.oneCell' = true) (hlen : n < 1099511627776) (hbase : B ≤ w.heap.size)
    (h : ∀ v' w', w'.ownsRow B T1 1 v' (n + 1) (ds ++ [y]) → (w.alloc (.cells #[y] T1)).grownBy w' v.ownBlock → (v'.ownBlock = v.ownBlock ∨ v'.ownBlock = some (w.heap.size + 1)) → wpList Tryz.prog ops Q rest (a.put o.dst v') w') : wpList Tryz.prog ops Q (o :: rest) a (w.alloc (.cells #[y] T1)) := by
  subst hS
  refine wpList_append_own_at _ hgd s x T2 ho B T1 i (.slice none 0 0) 1 24 ht hi hz0 hz1 hz2 rfl (by decide) v n ds hs (hown.alloc _) ⟨w.heap.size, 0, none⟩ 1 1 [y] hx rfl (cell_one_new _ _ _) ?_ (by unfold maxLen; omega) (by omega) (by simp; omega) fun v' w' h1 h2 _ h4 => h v' w' h1 h2 (by simpa using h4)
  intro u hu
  simp at hu
  subst hu
  exact hone
/-- How many of the first i grown lists are kept. -/
def pq : Nat → Nat
  | 0 => 0
  | i + 1 => pq i + if i + 1 < 4 ∨ (i + 1) % 16 = 0 then 1 else 0
theorem pq_le : ∀ i, pq i ≤ i
  | 0 => Nat.le_refl _
  | i + 1 => by unfold pq; have := pq_le i; split <;> omega
theorem pq_yes {q : Nat} (h : q + 1 < 4 ∨ (q + 1) % 16 = 0) : pq (q + 1) = pq q + 1 := by show pq q + _ = _; rw [if_pos h]
theorem pq_no {q : Nat} (h : ¬ (q + 1 < 4 ∨ (q + 1) % 16 = 0)) : pq (q + 1) = pq q := by show pq q + _ = _; rw [if_neg h]; rfl
theorem pq_96 : pq 96 = 9 := by decide
theorem pq_32 : pq 32 = 5 := by decide
/-- What holds while the lists of a kind are grown: they were (w0, vb0, vo0, es0); those ahead of k have been grown. -/
structure Gw (F : Knd) (w0 : World) (base B : Nat) (C0 : Array Value) (j : Nat) (vb0 vo0 : Value) (es0 : List Ent) (t : Nat) (w : World) (vb vo : Value) (es : List Ent) (k : Nat) : Prop where
  blk : w.heap[B]? = some (.cells ((C0.setIfInBounds j vb).setIfInBounds (j + 1) vo) 45 (0, 0))
  core : Kc F w base vb vo es t
  pre : ∀ (j : Nat) (ej : Ent), es0[j]? = some ej → es[j]? = some ej
  kp : Kp (fun q => q = B ∨ Fut vb0 vo0 es0 q) w0 w
  foot : ∀ q, Fut vb vo es q → Fut vb0 vo0 es0 q ∨ w0.heap.size ≤ q
  un : ∀ (j : Nat) (ej : Ent), k ≤ j → es0[j]? = some ej → ∀ (i : Nat) (ei : Ent), es[i]? = some ei → i ≠ j → ∀ q, ei.val.ownBlock = some q → ej.val.ownBlock ≠ some q
  old : ∀ (j : Nat) (ej : Ent), es0[j]? = some ej → ∀ q, ej.val.ownBlock = some q → q < w0.heap.size
/-- .. and while list e is grown: i of its appendings are done, gv is what has come of it. -/
structure Ik (F : Knd) (w0 : World) (base B : Nat) (C0 : Array Value) (j : Nat) (vb0 vo0 : Value) (es0 : List Ent) (t : Nat) (w : World) (vb vo : Value) (es : List Ent) (k : Nat) (e : Ent) (i : Nat) (gv : Value) : Prop where
  g : Gw F w0 base B C0 j vb0 vo0 es0 t w vb vo es (k + 1)
  own : w.ownsRow base F.te F.s gv (e.n + i) (F.mkl e.m (e.n + i))
  gb : ∀ q, gv.ownBlock = some q → e.val.ownBlock = some q ∨ w0.heap.size ≤ q
  share : ∀ x ∈ es, ∀ q, x.val.ownBlock = some q → gv.ownBlock = some q → x.m = e.m ∧ x.n ≤ e.n + i
section
variable {F : Knd} {w0 : World} {base B : Nat} {C0 : Array Value} {j : Nat} {vb0 vo0 : Value} {es0 : List Ent} {t : Nat}
theorem Gw.begin {w : World} {vb vo : Value} {es : List Ent} {k : Nat} {e : Ent} (h : Gw F w0 base B C0 j vb0 vo0 es0 t w vb vo es k) (he : es0[k]? = some e) : Ik F w0 base B C0 j vb0 vo0 es0 t w vb vo es k e 0 e.val := by
  have hek := h.pre k e he
  refine ⟨⟨h.blk, h.core, h.pre, h.kp, h.foot, fun j ej hj => h.un j ej (by omega), h.old⟩, h.core.he e (List.mem_of_getElem? hek), fun q hq => .inl hq, fun x hx q hq hq' => ?_⟩
  obtain ⟨i, hi⟩ := List.getElem?_of_mem hx
  by_cases hik : i = k
  · subst hik
    rw [hek] at hi
    injection hi with hi
    subst hi
    exact ⟨rfl, Nat.le_refl _⟩
  · exact absurd hq' (h.un k e (Nat.le_refl _) he i x hi hik q hq)
/-- One item is appended. -/
theorem Ik.append (hF : F.Ok) {w : World} {vb vo : Value} {es : List Ent} {k : Nat} {e : Ent} {i : Nat} {gv : Value} (h : Ik F w0 base B C0 j vb0 vo0 es0 t w vb vo es k e i gv) (he : es0[k]? = some e) {w2 : World} {g2 : Value}
    (ho : w2.ownsRow base F.te F.s g2 (e.n + i + 1) (F.mkl e.m (e.n + i) ++ F.mc e.m (e.n + i)))
    (hkeep : ∀ v2 n2 xs2, (∀ k, v2.ownBlock = some k → gv.ownBlock = some k → n2 ≤ e.n + i) → w.ownsRow base F.te F.s v2 n2 xs2 → w2.ownsRow base F.te F.s v2 n2 xs2)
    (hk : Kp (fun k => gv.ownBlock = some k) w w2) (hat : g2.ownBlock = gv.ownBlock ∨ g2.ownBlock = some (w.heap.size + 1)) : Ik F w0 base B C0 j vb0 vo0 es0 t w2 vb vo es k e (i + 1) g2 := by
  have hfe : ∀ q, e.val.ownBlock = some q → Fut vb0 vo0 es0 q := fun q hq => .inr (.inr ⟨e, List.mem_of_getElem? he, hq⟩)
  have hkp2 : Kp (fun q => q = B ∨ Fut vb0 vo0 es0 q) w0 w2 := h.g.kp.trans hk (fun q hq hg => by
    rcases h.gb q hg with h1 | h1
    · exact .inr (hfe q h1)
    · omega)
  have hne : ∀ {ee : TypeId} {s : Nat} {v : Value} {nn : Nat} {yy : List Value}, w.ownsRow base ee s v nn yy → ee ≠ F.te → w2.ownsRow base ee s v nn yy := fun ho h1 => hk.owns ho (fun q hq hg => own_apart ho h.own h1 hq hg)
  have hblk := (hk.block B (blk_lt h.g.blk) (fun hg => own_not h.own h.g.blk hF.eb hg)).trans h.g.blk
  refine ⟨⟨hblk, ⟨hne h.g.core.hb hF.ne, hne h.g.core.ho (fun e => hF.e3 e.symm), fun x hx => hkeep _ _ _ (fun q hq hg => (h.share x hx q hq hg).2) (h.g.core.he x hx), h.g.core.hs, h.g.core.hm⟩, h.g.pre, hkp2, h.g.foot, h.g.un, h.g.old⟩, ?_, ?_, ?_⟩
  · rw [← Nat.add_assoc, Knd.mkl_snoc]
    exact ho
  · intro q hq
    rcases hat with h1 | h1
    · exact h.gb q (by rw [← h1]; exact hq)
    · rw [h1] at hq; injection hq with hq; exact .inr (by have := h.g.kp.size; omega)
  · intro x hx q hq hg
    rcases hat with h1 | h1
    · have := h.share x hx q hq (by rw [← h1]; exact hg)
      exact ⟨this.1, by omega⟩
    · rw [h1] at hg
      injection hg with hg
      have := ((h.g.core.he x hx).lt q hq).2
      omega
/-- What has come of it is kept too. -/
theorem Ik.push {w : World} {vb vo : Value} {es : List Ent} {k : Nat} {e : Ent} {i : Nat} {gv : Value} (h : Ik F w0 base B C0 j vb0 vo0 es0 t w vb vo es k e i gv) (he : es0[k]? = some e) {w6 : World} {vb6 vo6 : Value}
    (hblk : w6.heap[B]? = some (.cells ((C0.setIfInBounds j vb6).setIfInBounds (j + 1) vo6) 45 (0, 0))) (hc : Kc F w6 base vb6 vo6 (es ++ [⟨gv, e.n + i, e.m⟩]) t) (hk : Kp (fun q => q = B ∨ vb.ownBlock = some q ∨ vo.ownBlock = some q) w w6)
    (hb : ∀ q, vb6.ownBlock = some q → vb.ownBlock = some q ∨ w0.heap.size ≤ q) (ho : ∀ q, vo6.ownBlock = some q → vo.ownBlock = some q ∨ w0.heap.size ≤ q) :
    Ik F w0 base B C0 j vb0 vo0 es0 t w6 vb6 vo6 (es ++ [⟨gv, e.n + i, e.m⟩]) k e i gv := by
  have hfe : ∀ q, e.val.ownBlock = some q → Fut vb0 vo0 es0 q := fun q hq => .inr (.inr ⟨e, List.mem_of_getElem? he, hq⟩)
  have hkp2 : Kp (fun q => q = B ∨ Fut vb0 vo0 es0 q) w0 w6 := h.g.kp.trans hk (fun q hq hg => by
    rcases hg with h1 | h1 | h1
    · exact .inl h1
    · rcases h.g.foot q (.inl h1) with h2 | h2
      · exact .inr h2
      · omega
    · rcases h.g.foot q (.inr (.inl h1)) with h2 | h2
      · exact .inr h2
      · omega)
  refine ⟨⟨hblk, hc, ?_, hkp2, ?_, ?_, h.g.old⟩, ?_, h.gb, ?_⟩
  · intro j ej hj
    have := h.g.pre j ej hj
    rw [List.getElem?_append_left (List.getElem?_eq_some_iff.1 this).1]
    exact this
  · intro q hq
    rcases hq with hq | hq | ⟨x, hx, hq⟩
    · rcases hb q hq with h1 | h1
      · exact h.g.foot q (.inl h1)
      · exact .inr h1
    · rcases ho q hq with h1 | h1
      · exact h.g.foot q (.inr (.inl h1))
      · exact .inr h1
    · rcases List.mem_append.1 hx with hx | hx
      · exact h.g.foot q (.inr (.inr ⟨x, hx, hq⟩))
      · rw [List.mem_singleton.1 hx] at hq
        rcases h.gb q hq with h1 | h1
        · exact .inl (hfe q h1)
        · exact .inr h1
  · intro j ej hkj hj i' ei hi hij q hq
    rcases sn_get hi with ⟨_, hi⟩ | ⟨_, hi⟩
    · exact h.g.un j ej hkj hj i' ei hi hij q hq
    · subst hi
      intro hq'
      rcases h.gb q hq with h1 | h1
      · exact h.g.un j ej hkj hj k e (h.g.pre k e he) (by omega) q h1 hq'
      · have := h.g.old j ej hj q hq'
        omega
  · exact hc.he ⟨gv, e.n + i, e.m⟩ (by simp)
  · intro x hx q hq hg
    rcases List.mem_append.1 hx with hx | hx
    · exact h.share x hx q hq hg
    · rw [List.mem_singleton.1 hx]; exact ⟨rfl, Nat.le_refl _⟩
/-- Where all lists have been grown. -/
theorem Gw.done {w : World} {vb vo : Value} {es : List Ent} {k a u : Nat} (h : Gw F w0 base B C0 j vb0 vo0 es0 t w vb vo es k) (h0 : Ko F w0 base vb0 vo0 es0 a t u) (hp : 1 ≤ F.per) (hl : es.length = es0.length + (F.per - 1) * (es0.length - a)) : Ko F w base vb vo es es.length t u := by
  obtain ⟨c, r, h1, h2, h3⟩ := h0.count
  have e1 : es0.length - a = r := by omega
  have e2 : es.length = F.per * (c + r) := by
    rw [hl, e1, h2, Nat.mul_add]
    have : r + (F.per - 1) * r = F.per * r := by
      have : F.per = (F.per - 1) + 1 := by omega
      conv => rhs; rw [this, Nat.succ_mul]
      omega
    omega
  refine ⟨h.core, ⟨c + r, 0, e2, by omega, by simpa using h3⟩, fun i j ei ej _ hj haj => ?_, fun j ej hj haj => ?_⟩
  · have := (List.getElem?_eq_some_iff.1 hj).1
    omega
  · have := (List.getElem?_eq_some_iff.1 hj).1
    omega
end
end
section
open Go.RowKit
/-! ### SHA-256, plainly -/
/-- A number in so many bytes, the highest first. -/
def beb : Nat → Nat → List Nat
  | 0, _ => []
  | k + 1, n => (n / 256 ^ k % 256) :: beb k n
def rt (x n : Nat) : Nat := x / 2 ^ n + x % 2 ^ n * 2 ^ (32 - n)
def ls0 (x : Nat) : Nat := rt x 7 ^^^ rt x 18 ^^^ x / 8
def ls1 (x : Nat) : Nat := rt x 17 ^^^ rt x 19 ^^^ x / 1024
def us0 (x : Nat) : Nat := rt x 2 ^^^ rt x 13 ^^^ rt x 22
def us1 (x : Nat) : Nat := rt x 6 ^^^ rt x 11 ^^^ rt x 25
def cho (e f g : Nat) : Nat := (e &&& f) ^^^ ((4294967295 - e) &&& g)
def maj (a b c : Nat) : Nat := (a &&& b) ^^^ (a &&& c) ^^^ (b &&& c)
def kk : List Nat := [0x428a2f98, 0x71374491, 0xb5c0fbcf, 0xe9b5dba5, 0x3956c25b, 0x59f111f1, 0x923f82a4, 0xab1c5ed5,
  0xd807aa98, 0x12835b01, 0x243185be, 0x550c7dc3, 0x72be5d74, 0x80deb1fe, 0x9bdc06a7, 0xc19bf174,
  0xe49b69c1, 0xefbe4786, 0x0fc19dc6, 0x240ca1cc, 0x2de92c6f, 0x4a7484aa, 0x5cb0a9dc, 0x76f988da,
  0x983e5152, 0xa831c66d, 0xb00327c8, 0xbf597fc7, 0xc6e00bf3, 0xd5a79147, 0x06ca6351, 0x14292967,
  0x27b70a85, 0x2e1b2138, 0x4d2c6dfc, 0x53380d13, 0x650a7354, 0x766a0abb, 0x81c2c92e, 0x92722c85,
  0xa2bfe8a1, 0xa81a664b, 0xc24b8b70, 0xc76c51a3, 0xd192e819, 0xd6990624, 0xf40e3585, 0x106aa070,
  0x19a4c116, 0x1e376c08, 0x2748774c, 0x34b0bcb5, 0x391c0cb3, 0x4ed8aa4a, 0x5b9cca4f, 0x682e6ff3,
  0x748f82ee, 0x78a5636f, 0x84c87814, 0x8cc70208, 0x90befffa, 0xa4506ceb, 0xbef9a3f7, 0xc67178f2]
def hh : List Nat := [0x6a09e667, 0xbb67ae85, 0x3c6ef372, 0xa54ff53a, 0x510e527f, 0x9b05688c, 0x1f83d9ab, 0x5be0cd19]
/-- t and u of a round. -/
def rT (v : List Nat) (k w : Nat) : Nat := (v.getD 7 0 + us1 (v.getD 4 0) + cho (v.getD 4 0) (v.getD 5 0) (v.getD 6 0) + k + w) % 4294967296
def rU (v : List Nat) : Nat := (us0 (v.getD 0 0) + maj (v.getD 0 0) (v.getD 1 0) (v.getD 2 0)) % 4294967296
def rnd (v : List Nat) (k w : Nat) : List Nat := [(rT v k w + rU v) % 4294967296, v.getD 0 0, v.getD 1 0, v.getD 2 0, (v.getD 3 0 + rT v k w) % 4294967296, v.getD 4 0, v.getD 5 0, v.getD 6 0]
def wrd (l : List Nat) (p : Nat) : Nat := ((l.getD p 0 * 256 + l.getD (p + 1) 0) * 256 + l.getD (p + 2) 0) * 256 + l.getD (p + 3) 0
def nextW (l : List Nat) (n : Nat) : Nat := (ls1 (l.getD (n - 2) 0) + l.getD (n - 7) 0 + ls0 (l.getD (n - 15) 0) + l.getD (n - 16) 0) % 4294967296
/-- The first n words of a block that begins at p. -/
def wl (b : List Nat) (p : Nat) : Nat → List Nat
  | 0 => []
  | n + 1 => wl b p n ++ [if n < 16 then wrd b (p + 4 * n) else nextW (wl b p n) n]
/-- The state in the midst of a block. -/
def rl (b : List Nat) (p : Nat) (s : List Nat) : Nat → List Nat
  | 0 => s
  | n + 1 => rnd (rl b p s n) (kk.getD n 0) ((wl b p (n + 1)).getD n 0)
def cmp (b : List Nat) (p : Nat) (s : List Nat) : List Nat := List.zipWith (fun x y => (x + y) % 4294967296) s (rl b p s 64)
/-- The state behind n blocks. -/
def abs (b s : List Nat) : Nat → List Nat
  | 0 => s
  | n + 1 => cmp b (64 * n) (abs b s n)
def zer (n : Nat) : Nat := (119 - n % 64) % 64
def pad (b : List Nat) : List Nat := b ++ [128] ++ List.replicate (zer b.length) 0 ++ beb 8 (8 * b.length)
def outb (s : List Nat) : List Nat := s.flatMap (beb 4)
def sha (b : List Nat) : List Nat := outb (abs (pad b) hh ((pad b).length / 64))
end
section
open Go.RowKit

end
section
open Go.RowKit
/-- Words as cells. -/
def wv (l : List Nat) : List Value := l.map fun x => Value.int .u32 ((x : Nat) : Int)
theorem results_one {fn : Func} {p : Tmp} {ty : TypeId} (h : fn.results = #[.cell p ty]) (tmps : Array Value) (P : Program) (w : World) :
    (results fn tmps).run P w = ((asAddr (tmps.getD p undef)).run P w).andThen fun a w₁ => (loadVar ty a).run P w₁ := by
  simp only [results, h]
  simp [Sem.run_bind, Result.andThen]
end
section
open Go.RowKit

end
section
open Go.RowKit

end
section
open Go.RowKit
/-! ### The landed digest: words -/
end
section
open Go.RowKit
/-! ### Eq -/
set_option maxRecDepth 1000000 in
set_option maxHeartbeats 400000 in
theorem eq_any (w : World) (v1 v2 : Value) (xs ys : List Nat) (h1 : BSl w v1 xs) (h2 : BSl w v2 ys) :
    Calls Tryz.prog 24 #[v1, v2] w fun e w' => e = .returned (.bool (decide (xs = ys))) ∧ Kp (fun _ => False) w w' := by
  have H1 := hide h1
  have H2 := hide h2
  obtain ⟨⟨a1, cap1, rfl, _, hc1⟩, hm1, _⟩ := h1
  obtain ⟨⟨a2, cap2, rfl, _, hc2⟩, hm2, _⟩ := h2
  have HC1 := hide hc1
  have HC2 := hide hc2
  clear hc1 hc2
  by_cases hlen : xs.length = ys.length
  · have hne : ((xs.length : Int) != (ys.length : Int)) = false := by simp [hlen]
    have HLN := hide hlen
    clear hlen
    go_enter Tryz.func24, Tryz.ntmps24
    go_wp2
    go_loopw [5] (fun i wr => ∃ k : Nat, k ≤ xs.length ∧ i = .int .i64 k ∧ Kp (fun _ => False) w wr ∧ xs.take k = ys.take k) (fun i _ => xs.length - (intOf i).toNat)
    case atStart => exact ⟨0, Nat.zero_le _, rfl, Kp.refl _ _, by simp⟩
    case round =>
      obtain ⟨k, hk, rfl, hkp, htk⟩ := hrel
      have HK := hide hkp
      have HTK := hide htk
      clear hkp htk
      by_cases hlt : k < xs.length
      · have hlt' : (k : Int) < (xs.length : Int) := by omega
        have hlty : k < ys.length := by have := HLN.out; omega
        have hlty' : (k : Int) < (ys.length : Int) := by omega
        rcases HC1.out with h | ⟨b1, o1, rfl, hcc1⟩
        · rw [h] at hlt; simp at hlt
        rcases HC2.out with h | ⟨b2, o2, rfl, hcc2⟩
        · rw [h] at hlty; simp at hlty
        have cc1 := HK.out.cell (hcc1 k hlt) (by simp)
        have cc2 := HK.out.cell (hcc2 k hlty) (by simp)
        have hs1 : xs.take (k + 1) = xs.take k ++ [xs.getD k 0] := by rw [List.take_succ_eq_append_getElem hlt]; simp [List.getD, hlt]
        have hs2 : ys.take (k + 1) = ys.take k ++ [ys.getD k 0] := by rw [List.take_succ_eq_append_getElem hlty]; simp [List.getD, hlty]
        have HS1 := hide hs1
        have HS2 := hide hs2
        clear hcc1 hcc2 hs1 hs2
        by_cases hxy : xs.getD k 0 = ys.getD k 0
        · have hxy' : (((xs.getD k 0 : Nat) : Int) != ((ys.getD k 0 : Nat) : Int)) = false := by rw [hxy]; simp
          have HXY := hide hxy
          clear hxy
          generalize xs.getD k 0 = x at *
          generalize ys.getD k 0 = y at *
          go_wp2
          go_quiet (fail)
          go_wp2
          go_roundw
          case rel => exact ⟨k + 1, by omega, by go_num, HK.out.drewN _, by rw [HS1.out, HS2.out, HTK.out, HXY.out]⟩
          case measure => simp [intOf]; omega
        · have hxy' : (((xs.getD k 0 : Nat) : Int) != ((ys.getD k 0 : Nat) : Int)) = true := bne_iff_ne.2 (by omega)
          have hd : decide (xs = ys) = false := decide_eq_false (fun e => hxy (by rw [e]))
          have HD := hide hd
          clear hxy hd
          generalize xs.getD k 0 = x at *
          generalize ys.getD k 0 = y at *
          go_wp2
          go_quiet (fail)
          go_wp2
          go_ret
          exact ⟨by rw [HD.out]; rfl, HK.out.drewN _⟩
      · have hlt' : ¬ (k : Int) < (xs.length : Int) := by omega
        have hd : decide (xs = ys) = true := decide_eq_true (by
          have h := HTK.out
          rw [List.take_of_length_le (by omega), List.take_of_length_le (by have := HLN.out; omega)] at h
          exact h)
        have HD := hide hd
        clear hd
        go_wp2
        go_ret
        exact ⟨by rw [HD.out]; rfl, HK.out⟩
  · have hne : ((xs.length : Int) != (ys.length : Int)) = true := bne_iff_ne.2 (by omega)
    have hd : decide (xs = ys) = false := decide_eq_false (fun e => hlen (by rw [e]))
    rw [hd]
    clear hlen hd
    go_enter Tryz.func24, Tryz.ntmps24
    go_wp2
    go_ret
    exact ⟨rfl, Kp.refl _ _⟩
end
section
open Go.RowKit

end
section
open Go.RowKit

end
section
open Go.RowKit
/-! ### Whole rows -/
theorem row_same {w : World} {g : Nat} {old cs : Array Value} {t : TypeId} (h : w.heap[g]? = some (.cells old t (0, 0))) : (w.setRow g cs).heap[g]? = some (.cells cs t (0, 0)) := by
  simp [World.setRow, Array.getElem?_modify, h]
theorem row_other {w : World} {g k : Nat} {cs : Array Value} (h : k ≠ g) : (w.setRow g cs).heap[k]? = w.heap[k]? := by
  have h' : ¬ g = k := fun e => h e.symm
  simp [World.setRow, Array.getElem?_modify, h']
theorem row_kp (w : World) (g : Nat) (cs : Array Value) : Kp (fun q => q = g) w (w.setRow g cs) :=
  ⟨rfl, rfl, rfl, by simp [World.setRow], fun _ _ h => row_other h⟩
theorem wpList_storeRow {ops : Array Oper} {rest : List Oper} {o : Oper} {a : Act} {Q : Exit → Act → World → Prop} {w : World} {T : TypeId} {p x : Operand} (hgd : o.guard = none) (ho : o.op = .store T p x) (g : Nat) (old cs : Array Value) (t : TypeId)
    (hp : a.eval p = .pointer (some ⟨g, 0, none⟩)) (hx : a.eval x = .agg cs) (hg : w.heap[g]? = some (.cells old t (0, 0))) (hi : (Tryz.prog.info? T).map (·.size) = some cs.size) (hn : old.size = cs.size) (h1 : cs.all (·.oneCell') = true)
    (h : wpList Tryz.prog ops Q rest (a.put o.dst undef) (w.setRow g cs)) : wpList Tryz.prog ops Q (o :: rest) a w := by
  refine wpList_plain hgd fun K hK => ?_
  unfold Oper.wp execOp
  have hr : (Instr.storeAt T (.pointer (some ⟨g, 0, none⟩)) (.agg cs)).run Tryz.prog w = .ok () (w.setRow g cs) := by
    simp only [Instr.storeAt, Instr.sureAddr, Sem.run_bind, Sem.run_pure, Result.andThen]
    exact run_storeVar_row (P := Tryz.prog) w g t T old cs hg hi hn h1
  simp only [ho, Sem.run_bind, hp, hx, hr, Result.andThen_ok]
  exact hK _ _ h
end
section
open Go.RowKit
/-! ### Eq -/
end
section
open Go.RowKit
set_option maxRecDepth 1000000 in
set_option maxHeartbeats 400000 in
theorem copy_any (w : World) (v : Value) (xs : List Nat) (hsl : BSl w v xs) (hlen : xs.length ≤ 140737488351232) :
    Calls Tryz.prog 61 #[v] w fun e w' => ∃ v', e = .returned v' ∧ w'.ownsRow w.heap.size 5 1 v' xs.length (bv xs) ∧ Below w.heap.size w w' := by
  have HSL := hide hsl
  have HL := hide hlen
  obtain ⟨⟨a, cap, rfl, hn, hc⟩, hmax, hb⟩ := hsl
  clear hn hc hb hlen
  go_enter Tryz.func61, Tryz.ntmps61
  go_wp2_with (at_builtin; refine append_bsl rfl _ _ rfl w.heap.size _ 0 [] rfl (World.ownsRow_nil _ _ _ _) _ xs rfl HSL.out ?b1 ?b2 ?_)
  case b1 => have := HL.out; omega
  case b2 => exact Nat.le_refl _
  intro v1 w1 ho1 hg1
  have hb1 : Below w.heap.size w w1 := (Below.refl _ _).grown hg1 (Nat.le_refl _) (fun q hq => by cases hq)
  have HO1 := hide ho1
  have HB1 := hide hb1
  clear ho1 hb1 hg1
  go_wp2
  go_ret
  exact ⟨_, rfl, by simpa using HO1.out, HB1.out⟩

/-- What Lay of the document tells. -/
def dlay (h : Nat) (d : List Nat) : List Nat × Nat :=
  if h ≠ 18 ∧ h ≠ 0 then ([], 30) else if (h = 18 ∧ d.length ≠ 32) ∨ (h = 0 ∧ 64 < d.length) then ([], 31) else (h :: d.length :: d, 0)
end
section
open Go.RowKit
def digs : Nat → Nat → List Nat
  | 0, _ => []
  | f + 1, n => if n < 128 then [n] else (n % 128 + 128) :: digs f (n / 128)

theorem digs_small {f n : Nat} (h : n < 128) : digs (f + 1) n = [n] := by simp [digs, h]
theorem digs_big {f n : Nat} (h : 128 ≤ n) : digs (f + 1) n = (n % 128 + 128) :: digs f (n / 128) := by
  have : ¬ n < 128 := by omega
  simp [digs, this]
end
end Go.Proofs.YtdejcapbggjjgaaGreatDoor
