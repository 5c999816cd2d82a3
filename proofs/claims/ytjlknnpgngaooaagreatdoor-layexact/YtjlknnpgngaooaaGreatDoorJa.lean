import Derived.Test.YtjlknnpgngaooaaGreatDoorRows
import Derived.WalkKit
import Derived.WalkSpells
import Derived.WalkLawsBesides
import Derived.ScopeJumps
import Derived.Laws.BytesArg
import Derived.Laws.AppendOwnNone
import Derived.WalkSmall
import Derived.Deep.QuietTactic
import Derived.BigQuiet
import Derived.Maps.AppendAt
import Derived.Deep.RegionWith
import Derived.Deep.WholeRow
import Derived.StillTailTactics
import Derived.Deep.LoopGhost
import Derived.Deep.DeepCutAuto
import Derived.Deep.RegionLaw
import Derived.StillTail
import Derived.Laws.CopyOwn
import Derived.Lib.SliceRun
namespace Go.Proofs.YtjlknnpgngaooaaGreatDoor
section
open Go.RowKit
theorem hide {p : Prop} (h : p) : Hid p := h

/-- A scope whose run jumps back to one label: as 'wp_scope_jumps', but what is proved of a pass from the label serves the first arrival too. -/
theorem scope_again {P : Program} {a : Act} {w : World} {Q : Exit → Act → World → Prop} {c rest : Code} (l : Nat) (J : Act → World → Prop) (μ : Act → World → Nat) (hf : findLabel c l = some (Code.skip.seq rest))
    (pass : ∀ a w, J a w → rest.wp P (Exit.jump l (fun a' w' => J a' w' ∧ μ a' w' < μ a w) Q) a w)
    (first : Hid (∀ a w, J a w → rest.wp P (Exit.jump l J Q) a w) → c.wp P (Exit.jump l J Q) a w) : (Code.scope c).wp P Q a w :=
  wp_scope_jumps l J μ hf (first (fun a w h => Code.wp_mono (fun e a' w' hq => by
    cases e with
    | goto l' => exact ⟨hq.1, hq.2.1⟩
    | normal => exact hq
    | exit id => exact hq
    | ret => exact hq
    | panic ch => exact hq
    | outgrown => exact hq) (pass a w h))) (fun a w h => wp_seq (wp_skip (pass a w h)))

/-- Bytes as cells. -/
def bv (l : List Nat) : List Value := l.map fun x => Value.int .u8 ((x : Nat) : Int)

theorem bv_app (a b : List Nat) : bv (a ++ b) = bv a ++ bv b := by simp [bv]

theorem Tryz.info5 : (Tryz.prog.info? 5).map (fun i => (i.zero, i.size, i.bytes)) = some (some (.int .u8 0), 1, 1) := by kernel_rfl

theorem info5_ex : ∃ i, Tryz.prog.info? 5 = some i ∧ i.zero = some (.int .u8 0) ∧ i.size = 1 ∧ i.bytes = 1 := by
  have h := Tryz.info5
  cases hi : Tryz.prog.info? 5 with
  | none => rw [hi] at h; cases h
  | some i => rw [hi] at h; simp at h; exact ⟨i, rfl, h.1, h.2.1, h.2.2⟩

theorem own_one (w : World) (x : Nat) : (w.alloc (.cells #[.int .u8 ((x : Nat) : Int)] 5)).ownsRow w.heap.size 5 1 (.slice (some ⟨w.heap.size, 0, none⟩) 1 1) 1 (bv [x]) :=
  ⟨rfl, .inr ⟨w.heap.size, 1, _, rfl, Nat.le_refl _, heap_alloc_new w _, Nat.le_refl _, by decide, rfl, rfl⟩⟩

theorem own_mono {w : World} {base base' : Nat} {e : TypeId} {size : Nat} {v : Value} {n : Nat} {xs : List Value} (h : w.ownsRow base e size v n xs) (hb : base' ≤ base) : w.ownsRow base' e size v n xs := by
  refine ⟨h.1, ?_⟩
  rcases h.2 with hn | ⟨g, cap, cur, hv, hg, r⟩
  · exact .inl hn
  · exact .inr ⟨g, cap, cur, hv, Nat.le_trans hb hg, r⟩
end
section
open Go.RowKit
/-- The slice value v reads, in w, as the bytes xs. -/
structure BSl (w : World) (v : Value) (xs : List Nat) : Prop where
  form : ∃ a cap, v = .slice a xs.length cap ∧ (xs.length ≤ cap ∧ (a = none → cap = 0)) ∧ (xs = [] ∨ ∃ b off, a = some ⟨b, off, none⟩ ∧ ∀ j, j < xs.length → w.cell? ⟨b, off + j, none⟩ = some (.int .u8 ((xs.getD j 0 : Nat) : Int)))
  max : xs.length ≤ 9223372036854775807
  byte : ∀ x ∈ xs, x < 256

theorem BSl.move {w w' : World} {v : Value} {xs : List Nat} (h : BSl w v xs) (hm : ∀ a u, w.cell? a = some u → w'.cell? a = some u) : BSl w' v xs := by
  obtain ⟨⟨a, cap, rfl, hn, hc⟩, hmax, hb⟩ := h
  refine ⟨⟨a, cap, rfl, hn, ?_⟩, hmax, hb⟩
  rcases hc with hc | ⟨b, off, rfl, hc⟩
  · exact .inl hc
  · exact .inr ⟨b, off, rfl, fun j hj => hm _ _ (hc j hj)⟩

theorem keep_alloc (w : World) (o : Obj) : ∀ a u, w.cell? a = some u → (w.alloc o).cell? a = some u := by
  intro a u h
  exact (World.cell?_of_block (Below.heap_alloc w o a.block (World.block_lt_of_cell? w a h))).trans h

theorem keep_below {w w' : World} (hb : Below w.heap.size w w') : ∀ a u, w.cell? a = some u → w'.cell? a = some u := by
  intro a u h
  rw [hb.cell (World.block_lt_of_cell? w a h)]; exact h

/-- Bytes as a string's. -/
def nstr (xs : List Nat) : ByteArray := strOfNums (xs.map fun x => ((x : Nat) : Int))

theorem nstr_inj {xs ys : List Nat} (hx : ∀ x ∈ xs, x < 256) (hy : ∀ x ∈ ys, x < 256) (h : (nstr xs).toList = (nstr ys).toList) : xs = ys := by
  have key : ∀ l : List Nat, (∀ x ∈ l, x < 256) → (nstr l).data.toList.map UInt8.toNat = l := by
    intro l hl
    simp only [nstr, strOfNums_data, List.map_map]
    conv => rhs; rw [← List.map_id l]
    apply List.map_congr_left
    intro x hx
    have := hl x hx
    simp; omega
  rw [ByteArray.toList_eq, ByteArray.toList_eq] at h
  rw [← key xs hx, ← key ys hy, h]

theorem BSl.text {w : World} {v : Value} {xs : List Nat} (h : BSl w v xs) : (convert 23 9 v).run Tryz.prog w = .ok (.string (nstr xs)) w := by
  obtain ⟨⟨a, cap, rfl, _, hc⟩, hmax, hb⟩ := h
  rcases hc with rfl | ⟨b, off, rfl, hc⟩
  · cases a with
    | none => exact run_convert_bytes_nil w 23 5 Tryz.underlying23 Tryz.underlying5 _ _ 9 Tryz.underlying9
    | some a =>
      rw [run_convert_bytes_string w 23 9 5 _ _ _ Tryz.underlying23 Tryz.underlying5 Tryz.underlying9]
      exact run_bytesToString w a 0 cap [] rfl
  · exact run_convert_bytes_arg w 23 5 Tryz.underlying23 Tryz.underlying5 b off xs.length cap (xs.map fun x => ((x : Nat) : Int)) (by simp) (fun i hi => by
      rw [hc i hi]; simp [List.getD, hi]) 9 Tryz.underlying9

theorem bv_get {xs : List Nat} {j : Nat} (h : j < xs.length) : (bv xs)[j]? = some (.int .u8 ((xs.getD j 0 : Nat) : Int)) := by
  simp [bv, h, List.getD]

theorem BSl.own {w : World} {B n : Nat} {v : Value} {xs : List Nat} (h : w.ownsRow B 5 1 v n (bv xs)) (hb : ∀ x ∈ xs, x < 256) : BSl w v xs := by
  have hn : n = xs.length := by have := h.1; simp [bv] at this; omega
  subst hn
  refine ⟨?_, ?_, hb⟩
  · rcases h.2 with ⟨rfl, h0⟩ | ⟨g, cap, cur, rfl, _, hg, h1, h2, h3, h4⟩
    · exact ⟨none, 0, by rw [h0], ⟨by omega, fun _ => rfl⟩, .inl (List.length_eq_zero_iff.1 h0)⟩
    · refine ⟨some ⟨g, 0, none⟩, cap, rfl, ⟨h1, fun h => by (cases h)⟩, .inr ⟨g, 0, rfl, fun j hj => ?_⟩⟩
      have := h.cells (g := g) rfl j _ (bv_get hj)
      have hadd : (⟨g, 0, none⟩ : Addr).add j = ⟨g, 0 + j, none⟩ := by unfold Addr.add; split <;> simp_all
      rw [hadd] at this
      exact this
  · rcases h.2 with ⟨rfl, h0⟩ | ⟨g, cap, cur, rfl, _, hg, h1, h2, h3, h4⟩
    · omega
    · unfold maxLen at h2; omega

/-- What an append takes of it. -/
theorem BSl.src {w : World} {ad : Addr} {n cap : Nat} {xs : List Nat} (h : BSl w (.slice (some ad) n cap) xs) : n = xs.length ∧ ∀ j u, (bv xs)[j]? = some u → w.cell? (ad.add j) = some u := by
  obtain ⟨⟨a, cap', e, _, hc⟩, _, _⟩ := h
  injection e with e1 e2 e3
  subst e1
  refine ⟨e2, ?_⟩
  rcases hc with rfl | ⟨b, off, e, hc⟩
  · intro j u hu; simp [bv] at hu
  · injection e with e
    subst e
    intro j u hu
    have hj : j < xs.length := by
      rcases Nat.lt_or_ge j xs.length with h | h
      · exact h
      · simp [bv, List.getElem?_eq_none h] at hu
    rw [bv_get hj] at hu
    injection hu with hu
    have hadd : (⟨b, off, none⟩ : Addr).add j = ⟨b, off + j, none⟩ := by unfold Addr.add; split <;> simp_all
    rw [hadd, hc j hj, hu]

theorem bv_one (xs : List Nat) : ∀ u ∈ bv xs, u.oneCell' = true := by
  intro u hu
  simp [bv] at hu
  obtain ⟨x, _, rfl⟩ := hu
  rfl

theorem bv_len (xs : List Nat) : (bv xs).length = xs.length := by simp [bv]

/-- 'append(l, x...)' at bytes: l a slice of the call's own, x whatever reads as bytes. -/
theorem append_bsl {ops : Array Oper} {rest : List Oper} {o : Oper} {a : Act} {Q : Exit → Act → World → Prop} {w : World} (hgd : o.guard = none) (s x : Operand)
    (ho : o.op = .call { callee := .builtin .append, args := #[s, x], argTypes := #[23, 23] }) (B : Nat) (v : Value) (n : Nat) (ds : List Nat) (hs : a.eval s = v) (hown : w.ownsRow B 5 1 v n (bv ds))
    (u : Value) (xs : List Nat) (hx : a.eval x = u) (hsl : BSl w u xs) (hlen : n + xs.length ≤ 140737488355328) (hbase : B ≤ w.heap.size)
    (h : ∀ v' w', w'.ownsRow B 5 1 v' (n + xs.length) (bv (ds ++ xs)) → w.grownBy w' v.ownBlock → wpList Tryz.prog ops Q rest (a.put o.dst v') w') : wpList Tryz.prog ops Q (o :: rest) a w := by
  obtain ⟨i5, hi, hz0, hz1, hz2⟩ := info5_ex
  obtain ⟨⟨ad, cap, rfl, hn, hc⟩, hmax, hb⟩ := id hsl
  cases ad with
  | none =>
    rcases hc with rfl | ⟨_, _, e, _⟩
    · have := hn.2 rfl
      subst this
      refine wpList_append_own_none hgd s x 23 ho B 5 i5 1 Tryz.underlying23 hi v n (bv ds) hs hown hx (h v w ?_ ⟨rfl, rfl, rfl, Nat.le_refl _, fun _ _ _ => rfl⟩)
      simpa using hown
    · cases e
  | some ad =>
    refine wpList_append_own w hgd s x 23 ho B 5 i5 (.int .u8 0) 1 1 Tryz.underlying23 hi hz0 hz1 hz2 rfl (by decide) v n (bv ds) hs hown ad xs.length cap (bv xs) hx (by simp [bv]) hsl.src.2 (bv_one xs) (by unfold maxLen; omega) (by omega) hbase fun v' w' h1 h2 _ => ?_
    exact h v' w' (by rw [bv_app]; exact h1) h2

/-- A beginning of it. -/
theorem BSl.take {w : World} {a : Option Addr} {n cap : Nat} {xs : List Nat} (h : BSl w (.slice a n cap) xs) (k : Nat) (hk : k ≤ xs.length) : BSl w (.slice a k cap) (xs.take k) := by
  obtain ⟨⟨a', cap', e, hn, hc⟩, hm, hb⟩ := h
  injection e with e1 e2 e3
  subst e1
  subst e3
  have hl : (xs.take k).length = k := by rw [List.length_take]; omega
  refine ⟨⟨a, cap, by rw [hl], ⟨by rw [hl]; have := hn.1; omega, hn.2⟩, ?_⟩, by rw [hl]; omega, fun x hx => hb x (List.mem_of_mem_take hx)⟩
  rcases hc with rfl | ⟨b, off, e, hc⟩
  · exact .inl (by simp)
  · refine .inr ⟨b, off, e, fun j hj => ?_⟩
    rw [hl] at hj
    rw [hc j (by omega)]
    simp [List.getD, hj]

theorem one_bsl (w : World) (x : Nat) (hx : x < 256) : BSl (w.alloc (.cells #[.int .u8 ((x : Nat) : Int)] 5)) (.slice (some ⟨w.heap.size, 0, none⟩) 1 1) [x] := by
  refine ⟨⟨_, 1, rfl, ⟨by simp, fun h => by (cases h)⟩, .inr ⟨_, 0, rfl, fun j hj => ?_⟩⟩, by simp, by simpa using hx⟩
  match j, hj with
  | 0, _ => simp

/-! ### Walks -/
end
section
open Go.RowKit
theorem mark_any (n : Int) (w : World) (h0 : 0 ≤ n) (h1 : n < 70) : Calls Tryz.prog 29 #[.int .i64 n] w fun e w' => e = .returned (.int .u8 (165 - n)) ∧ w' = w := by
  go_enter Tryz.func29, Tryz.ntmps29
  go_wp2
  go_ret
  exact ⟨rfl, rfl⟩

def marks : List Nat := (List.range 70).map fun i => 165 - i

theorem marks_snoc (k : Nat) (h : k < 70) : marks.take (k + 1) = marks.take k ++ [165 - k] := by
  rw [List.take_succ_eq_append_getElem (by simpa [marks] using h)]
  simp [marks]

set_option maxRecDepth 1000000 in
set_option maxHeartbeats 400000 in
theorem lend_any (w : World) (v : Value) (xs : List Nat) (hsl : BSl w v xs) (hlen : xs.length ≤ 140737488351232) :
    Calls Tryz.prog 8 #[v] w fun e w' => ∃ g cap, e = .returned (.slice (some ⟨g, 0, none⟩) xs.length cap) ∧ w'.ownsRow w.heap.size 5 1 (.slice (some ⟨g, 0, none⟩) (xs.length + 70) cap) (xs.length + 70) (bv (xs ++ marks)) ∧ Below w.heap.size w w' := by
  obtain ⟨i5, hi, hz0, hz1, hz2⟩ := info5_ex
  have HI := hide hi
  have HZ0 := hide hz0
  have HZ1 := hide hz1
  have HZ2 := hide hz2
  have HSL := hide hsl
  obtain ⟨⟨a, cap, rfl, hn, hc⟩, hmax, hb⟩ := hsl
  clear hn hc hmax hb
  obtain ⟨w0, hmk, hown0, hgr0⟩ := run_make_own (P := Tryz.prog) w w.heap.size 23 5 i5 (.int .u8 0) 1 Tryz.underlying23 hi hz0 hz1 .i64 .i64 (xs.length + 70) (by rw [hz2]; omega) (by unfold maxLen; omega) (Nat.le_refl _)
  have ec : ((xs.length + 70 : Nat) : Int) = (xs.length : Int) + 70 := by omega
  rw [ec] at hmk
  clear ec hi hz0 hz1 hz2
  have hbel0 : Below w.heap.size w w0 := (Below.refl _ _).grown hgr0 (Nat.le_refl _) (fun _ h => by cases h)
  have HSL0 := hide (HSL.out.move (keep_below hbel0))
  generalize hB : w.heap.size = B at *
  have HB := hide hB
  clear hB hgr0
  have HO0 := hide hown0
  clear hown0
  have HBL0 := hide hbel0
  clear hbel0
  go_enter Tryz.func8, Tryz.ntmps8
  go_wp2_with (at_builtin; refine append_bsl rfl _ _ rfl B _ 0 [] rfl HO0.out _ xs rfl HSL0.out ?b1 ?b2 ?_)
  case b1 => omega
  case b2 => have := HBL0.out.size; have := HB.out; omega
  intro v1 w1 hown1 hgr1
  have hbel1 : Below B w w1 := HBL0.out.grown hgr1 (by have := HBL0.out.size; have := HB.out; omega) (fun q hq => (HO0.out.lt q hq).1)
  clear hgr1 HO0 HBL0 HSL0 hmk
  have HO1 := hide hown1
  clear hown1
  have HBL1 := hide hbel1
  clear hbel1
  go_wp2
  go_loopw [3, 4] (fun v i wr => ∃ k : Nat, k ≤ 70 ∧ i = .int .i64 k ∧ wr.ownsRow B 5 1 v (xs.length + k) (bv (xs ++ marks.take k)) ∧ Below B w wr) (fun _ i _ => 70 - (intOf i).toNat)
  case atStart => exact ⟨0, by omega, rfl, by simpa using HO1.out, HBL1.out⟩
  case round =>
    obtain ⟨k, hk, rfl, hown, hbel⟩ := hrel
    clear HO1 HBL1
    have HO := hide hown
    have HBL := hide hbel
    clear hown hbel
    by_cases hlt : k < 70
    · have hlt' : (k : Int) < 70 := by omega
      go_wp2_with fail
      refine (mark_any (k : Int) _ (by omega) hlt').mono ?_
      rintro e w' ⟨rfl, rfl⟩
      have em : (165 - (k : Int)) = ((165 - k : Nat) : Int) := by omega
      rw [em]
      clear em
      go_wp2_with (at_builtin; refine append_bsl rfl _ _ rfl B _ (xs.length + k) (xs ++ marks.take k) rfl (HO.out.alloc _) _ [165 - k] rfl (one_bsl _ _ (by omega)) ?b1 ?b2 ?_)
      case b1 => simp; omega
      case b2 => have := HBL.out.size; have := HB.out; simp; omega
      intro v2 w2 hown2 hgr2
      have hbel2 : Below B w w2 := (HBL.out.alloc (by have := HBL.out.size; have := HB.out; omega) _).grown hgr2 (by have := HBL.out.size; have := HB.out; simp; omega) (fun q hq => (HO.out.lt q hq).1)
      have hown3 : w2.ownsRow B 5 1 v2 (xs.length + (k + 1)) (bv (xs ++ marks.take (k + 1))) := by
        rw [marks_snoc k hlt]; exact hown2
      have HO2 := hide hown3
      have HBL2 := hide hbel2
      clear hgr2 hown2 hown3 hbel2
      go_wp2
      go_roundw
      case rel => exact ⟨k + 1, by omega, by go_num, HO2.out, HBL2.out⟩
      case measure => simp [intOf]; omega
    · have hlt' : ¬ (k : Int) < 70 := by omega
      have hk70 : k = 70 := by omega
      have ho := HO.out
      rw [hk70] at ho
      have em : marks.take 70 = marks := List.take_of_length_le (by simp [marks])
      rw [em] at ho
      rcases ho.2 with ⟨_, h0⟩ | ⟨g, cap', cur, hv, _, hg, h1, h2, h3, h4⟩
      · omega
      subst hv
      have HO2 := hide ho
      have h2' : xs.length ≤ cap' := by omega
      clear ho h3 h4 hg em HO hk70 hlt cur
      go_wp2
      go_ret
      exact ⟨g, cap', rfl, HO2.out, HBL.out⟩

/-- What Lend gives reads as what was lent. -/
theorem BSl.lent {w : World} {B g n cap : Nat} {xs : List Nat} (h : w.ownsRow B 5 1 (.slice (some ⟨g, 0, none⟩) (n + 70) cap) (n + 70) (bv (xs ++ marks))) (hn : n = xs.length) (hb : ∀ x ∈ xs, x < 256) :
    BSl w (.slice (some ⟨g, 0, none⟩) xs.length cap) xs := by
  have hm : ∀ x ∈ xs ++ marks, x < 256 := by
    intro x hx
    rcases List.mem_append.1 hx with hx | hx
    · exact hb x hx
    · simp [marks] at hx; omega
  have hall := BSl.own h hm
  obtain ⟨⟨a, cap', e, hcp, hc⟩, hmax, _⟩ := hall
  injection e with e1 e2 e3
  subst e1
  subst e3
  refine ⟨⟨_, cap, rfl, ⟨by have := hcp.1; simp at this; omega, fun h => by (cases h)⟩, ?_⟩, ?_, hb⟩
  · rcases hc with hc | ⟨b, off, e, hc⟩
    · simp [marks] at hc
    · refine .inr ⟨b, off, e, fun j hj => ?_⟩
      rw [hc j (by simp; omega)]
      simp [List.getD, List.getElem?_append_left hj]
  · simp at hmax; omega
end
section
open Go.RowKit
/-! ### What stays -/
/-- What was there stays as it was, but for the blocks S. -/
structure Kp (S : Nat → Prop) (w w' : World) : Prop where
  os : w'.os = w.os
  tape : w'.tape = w.tape
  output : w'.output = w.output
  size : w.heap.size ≤ w'.heap.size
  block : ∀ k, k < w.heap.size → ¬ S k → w'.heap[k]? = w.heap[k]?

theorem Kp.refl (S : Nat → Prop) (w : World) : Kp S w w := ⟨rfl, rfl, rfl, Nat.le_refl _, fun _ _ _ => rfl⟩
theorem Kp.trans {S T : Nat → Prop} {a b c : World} (h : Kp S a b) (g : Kp T b c) (hst : ∀ k, k < a.heap.size → T k → S k) : Kp S a c :=
  ⟨g.os.trans h.os, g.tape.trans h.tape, g.output.trans h.output, Nat.le_trans h.size g.size, fun k hk hs =>
    (g.block k (Nat.lt_of_lt_of_le hk h.size) (fun ht => hs (hst k hk ht))).trans (h.block k hk hs)⟩
theorem Kp.mono {S T : Nat → Prop} {w w' : World} (h : Kp S w w') (hst : ∀ k, k < w.heap.size → S k → T k) : Kp T w w' :=
  ⟨h.os, h.tape, h.output, h.size, fun k hk ht => h.block k hk (fun hs => ht (hst k hk hs))⟩
theorem Kp.alloc {S : Nat → Prop} {a w : World} (h : Kp S a w) (o : Obj) : Kp S a (w.alloc o) :=
  ⟨h.os, h.tape, h.output, by have := h.size; simp; omega, fun k hk hs => (Below.heap_alloc w o k (Nat.lt_of_lt_of_le hk h.size)).trans (h.block k hk hs)⟩
theorem Kp.drew {S : Nat → Prop} {a w : World} (h : Kp S a w) : Kp S a w.drew := ⟨h.os, h.tape, h.output, h.size, h.block⟩
theorem Kp.drewN {S : Nat → Prop} {a w : World} (h : Kp S a w) (n : Nat) : Kp S a (w.drewN n) := ⟨h.os, h.tape, h.output, h.size, h.block⟩
theorem Kp.setCell {S : Nat → Prop} {a w : World} (h : Kp S a w) (p : Addr) (v : Value) (hp : p.block < a.heap.size → S p.block) : Kp S a (w.setCell p v) :=
  ⟨h.os, h.tape, h.output, by have := h.size; simp [World.setCell]; omega, fun k hk hs => (Below.heap_setCell w p v k (fun e => hs (e ▸ hp (e ▸ hk)))).trans (h.block k hk hs)⟩
theorem Kp.grown {S : Nat → Prop} {a w w' : World} {row : Option Nat} (h : Kp S a w) (hg : w.grownBy w' row) (hr : ∀ k, k < a.heap.size → row = some k → S k) : Kp S a w' :=
  ⟨hg.os.trans h.os, hg.tape.trans h.tape, hg.output.trans h.output, Nat.le_trans h.size hg.size, fun k hk hs =>
    (hg.block k (Nat.lt_of_lt_of_le hk h.size) (fun e => hs (hr k hk e.symm))).trans (h.block k hk hs)⟩
theorem Kp.of_below {S : Nat → Prop} {w w' : World} (h : Below w.heap.size w w') : Kp S w w' := ⟨h.os, h.tape, h.output, h.size, fun k hk _ => h.block k hk⟩
theorem Kp.below {S : Nat → Prop} {w w' : World} {B : Nat} (h : Kp S w w') (hB : B ≤ w.heap.size) (hs : ∀ k, S k → B ≤ k) : Below B w w' :=
  ⟨h.os, h.tape, h.output, h.size, fun k hk => h.block k (by omega) (fun hsk => by have := hs k hsk; omega)⟩
theorem Kp.cell {S : Nat → Prop} {w w' : World} (h : Kp S w w') {p : Addr} {v : Value} (hc : w.cell? p = some v) (hs : ¬ S p.block) : w'.cell? p = some v :=
  (World.cell?_of_block (h.block p.block (World.block_lt_of_cell? w p hc) hs)).trans hc
theorem Kp.owns {S : Nat → Prop} {w w' : World} (h : Kp S w w') {base : Nat} {e : TypeId} {size : Nat} {v : Value} {n : Nat} {xs : List Value} (ho : w.ownsRow base e size v n xs) (hs : ∀ k, v.ownBlock = some k → ¬ S k) : w'.ownsRow base e size v n xs := by
  refine ⟨ho.1, ?_⟩
  rcases ho.2 with hn | ⟨g, cap, cur, rfl, hb, hgg, rest⟩
  · exact .inl hn
  · refine .inr ⟨g, cap, cur, rfl, hb, ?_, rest⟩
    rw [h.block g (Array.getElem?_eq_some_iff.1 hgg).1 (hs g rfl)]
    exact hgg
theorem Kp.bsl {S : Nat → Prop} {w w' : World} (h : Kp S w w') {v : Value} {xs : List Nat} (hb : BSl w v xs) (hs : ∀ k, v.ownBlock = some k → ¬ S k) : BSl w' v xs := by
  obtain ⟨⟨a, cap, rfl, hn, hc⟩, hm, hby⟩ := hb
  refine ⟨⟨a, cap, rfl, hn, ?_⟩, hm, hby⟩
  rcases hc with hc | ⟨b, off, rfl, hc⟩
  · exact .inl hc
  · exact .inr ⟨b, off, rfl, fun j hj => h.cell (hc j hj) (hs b rfl)⟩

/-! ### A block of a known row of cells -/
theorem blk_cell {w : World} {b : Nat} {cur : Array Value} {e : TypeId} {j : Nat} {v : Value} (h : w.heap[b]? = some (.cells cur e (0, 0))) (hv : cur[j]? = some v) : w.cell? ⟨b, j, none⟩ = some v := by
  simp [World.cell?, h, hv]
theorem blk_frozen {w : World} {b : Nat} {cur : Array Value} {e : TypeId} (j : Nat) (h : w.heap[b]? = some (.cells cur e (0, 0))) : w.frozen? ⟨b, j, none⟩ = false := by
  simp [World.frozen?, h]
theorem blk_set {w : World} {b : Nat} {cur : Array Value} {e : TypeId} (j : Nat) (v : Value) (h : w.heap[b]? = some (.cells cur e (0, 0))) : (w.setCell ⟨b, j, none⟩ v).heap[b]? = some (.cells (cur.setIfInBounds j v) e (0, 0)) := by
  simp [World.setCell, Array.getElem?_modify, h]
theorem blk_other {w : World} {b c : Nat} {o : Obj} (j : Nat) (v : Value) (h : w.heap[c]? = some o) (hne : c ≠ b) : (w.setCell ⟨b, j, none⟩ v).heap[c]? = some o := by
  rw [Below.heap_setCell w ⟨b, j, none⟩ v c hne]; exact h
theorem blk_lt {w : World} {b : Nat} {o : Obj} (h : w.heap[b]? = some o) : b < w.heap.size := (Array.getElem?_eq_some_iff.1 h).1
theorem blk_alloc {w : World} {b : Nat} {o : Obj} (o' : Obj) (h : w.heap[b]? = some o) : (w.alloc o').heap[b]? = some o := (Below.heap_alloc w o' b (blk_lt h)).trans h
theorem own_block_type {w : World} {base : Nat} {e : TypeId} {size : Nat} {v : Value} {n : Nat} {xs : List Value} (h : w.ownsRow base e size v n xs) {k : Nat} (hk : v.ownBlock = some k) : ∃ cur, w.heap[k]? = some (.cells cur e (0, 0)) := by
  rcases h.2 with ⟨rfl, _⟩ | ⟨g, cap, cur, rfl, _, hg, _⟩
  · simp [Value.ownBlock] at hk
  · simp [Value.ownBlock] at hk; subst hk; exact ⟨cur, hg⟩
/-- Rows of unlike element types lie in unlike blocks. -/
theorem own_apart {w : World} {base base' : Nat} {e e' : TypeId} {size size' : Nat} {v v' : Value} {n n' : Nat} {xs xs' : List Value} (h : w.ownsRow base e size v n xs) (h' : w.ownsRow base' e' size' v' n' xs') (hne : e ≠ e') {k : Nat} (hk : v.ownBlock = some k) : v'.ownBlock ≠ some k := by
  intro hk'
  obtain ⟨c, hc⟩ := own_block_type h hk
  obtain ⟨c', hc'⟩ := own_block_type h' hk'
  rw [hc] at hc'
  injection hc' with hc'
  injection hc' with _ h2
  exact hne h2
theorem own_not {w : World} {base : Nat} {e e' : TypeId} {size : Nat} {v : Value} {n : Nat} {xs : List Value} {b : Nat} {cur : Array Value} (h : w.ownsRow base e size v n xs) (hb : w.heap[b]? = some (.cells cur e' (0, 0))) (hne : e ≠ e') : v.ownBlock ≠ some b := by
  intro hk
  obtain ⟨c, hc⟩ := own_block_type h hk
  rw [hc] at hb
  injection hb with hb
  injection hb with _ h2
  exact hne h2

/-! ### The book -/
/-- The mark of list m at byte k. -/
def atv (m k : Nat) : Nat := if k % 2 = 0 then 1 + m % 251 else 1 + (7 * m + m / 251) % 251
def mkl (m n : Nat) : List Nat := (List.range n).map (atv m)
theorem mkl_len (m n : Nat) : (mkl m n).length = n := by simp [mkl]
theorem mkl_snoc (m n : Nat) : mkl m (n + 1) = mkl m n ++ [atv m n] := by simp [mkl, List.range_succ]
theorem mkl_get (m n j : Nat) (h : j < n) : (mkl m n).getD j 0 = atv m j := by simp [mkl, List.getD, h]

set_option maxRecDepth 100000 in
set_option maxHeartbeats 400000 in
theorem at_any (m k : Int) (w : World) (h0 : 0 ≤ m) (h1 : m < 1099511627776) (h2 : 0 ≤ k) (h3 : k < 1099511627776) :
    Calls Tryz.prog 60 #[.int .i64 m, .int .i64 k] w fun e w' => e = .returned (.int .u8 (atv m.toNat k.toNat : Nat)) ∧ w' = w := by
  obtain ⟨M, rfl⟩ := Int.eq_ofNat_of_zero_le h0
  obtain ⟨K, rfl⟩ := Int.eq_ofNat_of_zero_le h2
  rw [Int.toNat_natCast, Int.toNat_natCast]
  generalize hm : (M : Int) = m at *
  generalize hkk : (K : Int) = k at *
  by_cases hk : k % 2 = 0
  · have hk' : (k % 2 == 0) = true := beq_iff_eq.2 hk
    have hv : ((atv M K : Nat) : Int) = 1 + m % 251 := by unfold atv; rw [if_pos (by omega)]; omega
    rw [hv]
    clear hv hk hm hkk
    go_enter Tryz.func60, Tryz.ntmps60
    go_wp2
    go_ret
    exact ⟨rfl, rfl⟩
  · have hk' : (k % 2 == 0) = false := beq_eq_false_iff_ne.2 hk
    have hv : ((atv M K : Nat) : Int) = 1 + (7 * m + m / 251) % 251 := by
      unfold atv
      rw [if_neg (by omega)]
      have e0 : m / 251 = ((M / 251 : Nat) : Int) := by omega
      have e1 : 7 * m + m / 251 = ((7 * M + M / 251 : Nat) : Int) := by rw [e0, ← hm]; omega
      rw [e1]
      omega
    rw [hv]
    clear hv hk hm hkk
    go_enter Tryz.func60, Tryz.ntmps60
    go_wp2
    go_ret
    exact ⟨rfl, rfl⟩

def bookCells (vb vo : Value) (a t d u : Nat) : Array Value := #[vb, vo, .int .i64 (a : Nat), .slice none 0 0, .slice none 0 0, .int .i64 0, .slice none 0 0, .slice none 0 0, .int .i64 0, .slice none 0 0, .slice none 0 0, .int .i64 0, .slice none 0 0, .slice none 0 0, .int .i64 0, .slice none 0 0, .slice none 0 0, .int .i64 0, .slice none 0 0, .slice none 0 0, .int .i64 0, .slice none 0 0, .slice none 0 0, .int .i64 0, .slice none 0 0, .slice none 0 0, .int .i64 0, .slice none 0 0, .slice none 0 0, .int .i64 0, .slice none 0 0, .slice none 0 0, .int .i64 0, .slice none 0 0, .slice none 0 0, .int .i64 0, .slice none 0 0, .slice none 0 0, .int .i64 0, .slice none 0 0, .slice none 0 0, .int .i64 0, .slice none 0 0, .slice none 0 0, .int .i64 0, .slice none 0 0, .slice none 0 0, .int .i64 0, .slice none 0 0, .slice none 0 0, .int .i64 0, .slice none 0 0, .slice none 0 0, .int .i64 0, .int .i64 (t : Nat), .int .i64 (d : Nat), .int .i64 (u : Nat)]
end
section
open Go.RowKit
/-- The book's own block. -/
def BkBlk (w : World) (B : Nat) (vb vo : Value) (a t d u : Nat) : Prop := w.heap[B]? = some (.cells (bookCells vb vo a t d u) 48 (0, 0))
theorem BkBlk.cell {w : World} {B : Nat} {vb vo : Value} {a t d u : Nat} (h : BkBlk w B vb vo a t d u) (j : Nat) (v : Value) (hv : (bookCells vb vo a t d u)[j]? = some v) : w.cell? ⟨B, j, none⟩ = some v := blk_cell h hv
theorem BkBlk.set {w : World} {B : Nat} {vb vo vb' vo' : Value} {a t d u a' t' d' u' : Nat} (h : BkBlk w B vb vo a t d u) (j : Nat) (v : Value) (he : (bookCells vb vo a t d u).setIfInBounds j v = bookCells vb' vo' a' t' d' u') : BkBlk (w.setCell ⟨B, j, none⟩ v) B vb' vo' a' t' d' u' := by
  unfold BkBlk
  rw [blk_set j v h, he]
theorem BkBlk.kp {S : Nat → Prop} {w w' : World} {B : Nat} {vb vo : Value} {a t d u : Nat} (h : BkBlk w B vb vo a t d u) (hk : Kp S w w') (hs : ¬ S B) : BkBlk w' B vb vo a t d u := (hk.block B (blk_lt h) hs).trans h
theorem BkBlk.alloc {w : World} {B : Nat} {vb vo : Value} {a t d u : Nat} (h : BkBlk w B vb vo a t d u) (o : Obj) : BkBlk (w.alloc o) B vb vo a t d u := blk_alloc o h
theorem BkBlk.grown {w w' : World} {B : Nat} {vb vo : Value} {a t d u : Nat} {row : Option Nat} (h : BkBlk w B vb vo a t d u) (hg : w.grownBy w' row) (hr : row ≠ some B) : BkBlk w' B vb vo a t d u := (hg.block B (blk_lt h) (fun e => hr e.symm)).trans h

set_option maxRecDepth 100000 in
set_option maxHeartbeats 400000 in
theorem tight_full {w : World} {B : Nat} {vb vo : Value} {a t d u : Nat} (h : BkBlk w B vb vo a t d u) (n : Int) (hu : u ≤ 16777216) (hn0 : 0 ≤ n) (hn : n < 1099511627776) (hb : 16777216 < u + n) :
    Calls Tryz.prog 61 #[.pointer (some ⟨B, 0, none⟩), .int .i64 n] w fun e w' => e = .returned (.bool true) ∧ w' = w := by
  have c56 : w.cell? ⟨B, 56, none⟩ = some (.int .i64 (u : Nat)) := h.cell 56 _ rfl
  clear h
  go_enter Tryz.func61, Tryz.ntmps61
  go_wp2
  go_ret
  exact ⟨rfl, rfl⟩
set_option maxRecDepth 100000 in
set_option maxHeartbeats 400000 in
theorem tight_room {w : World} {B : Nat} {vb vo : Value} {a t d u : Nat} (h : BkBlk w B vb vo a t d u) (n : Int) (hu : u ≤ 16777216) (hn0 : 0 ≤ n) (hn : n < 1099511627776) (hb : ¬ 16777216 < u + n) :
    Calls Tryz.prog 61 #[.pointer (some ⟨B, 0, none⟩), .int .i64 n] w fun e w' => e = .returned (.bool false) ∧ BkBlk w' B vb vo a t d (u + n.toNat) ∧ Kp (fun k => k = B) w w' := by
  have c56 : w.cell? ⟨B, 56, none⟩ = some (.int .i64 (u : Nat)) := h.cell 56 _ rfl
  have f56 := blk_frozen 56 h
  have HH := hide h
  have e : (u : Int) + n = ((u + n.toNat : Nat) : Int) := by omega
  have HE := hide e
  clear h e
  go_enter Tryz.func61, Tryz.ntmps61
  go_wp2
  go_ret
  refine ⟨rfl, ?_, (Kp.refl _ _).setCell _ _ (fun _ => rfl)⟩
  rw [HE.out]
  exact HH.out.set 56 _ rfl
set_option maxRecDepth 100000 in
set_option maxHeartbeats 400000 in
theorem kept_any {w : World} {B : Nat} {vb vo : Value} {a t d u : Nat} (h : BkBlk w B vb vo a t d u) :
    Calls Tryz.prog 63 #[.pointer (some ⟨B, 0, none⟩)] w fun e w' => e = .returned (.bool true) ∧ w' = w := by
  have c6 : w.cell? ⟨B, 6, none⟩ = some (.slice none 0 0) := h.cell 6 _ rfl
  have c9 : w.cell? ⟨B, 9, none⟩ = some (.slice none 0 0) := h.cell 9 _ rfl
  have c12 : w.cell? ⟨B, 12, none⟩ = some (.slice none 0 0) := h.cell 12 _ rfl
  have c15 : w.cell? ⟨B, 15, none⟩ = some (.slice none 0 0) := h.cell 15 _ rfl
  clear h
  go_enter Tryz.func63, Tryz.ntmps63
  go_wp2
  iterate 4
    refine wp_loop_rounds 1 ?_
    rw [rounds_succ]
    go_wp2
  go_ret
  exact ⟨rfl, rfl⟩
set_option maxRecDepth 100000 in
set_option maxHeartbeats 400000 in
theorem told_any {w : World} {B : Nat} {vb vo : Value} {a t d u : Nat} (h : BkBlk w B vb vo a t d u) :
    Calls Tryz.prog 64 #[.pointer (some ⟨B, 0, none⟩)] w fun e w' => e = .returned (.bool true) ∧ w' = w := by
  have c18 : w.cell? ⟨B, 18, none⟩ = some (.slice none 0 0) := h.cell 18 _ rfl
  have c21 : w.cell? ⟨B, 21, none⟩ = some (.slice none 0 0) := h.cell 21 _ rfl
  have c24 : w.cell? ⟨B, 24, none⟩ = some (.slice none 0 0) := h.cell 24 _ rfl
  have c27 : w.cell? ⟨B, 27, none⟩ = some (.slice none 0 0) := h.cell 27 _ rfl
  clear h
  go_enter Tryz.func64, Tryz.ntmps64
  go_wp2
  iterate 4
    refine wp_loop_rounds 1 ?_
    rw [rounds_succ]
    go_wp2
  go_ret
  exact ⟨rfl, rfl⟩
set_option maxRecDepth 100000 in
set_option maxHeartbeats 400000 in
theorem held_any {w : World} {B : Nat} {vb vo : Value} {a t d u : Nat} (h : BkBlk w B vb vo a t d u) :
    Calls Tryz.prog 65 #[.pointer (some ⟨B, 0, none⟩)] w fun e w' => e = .returned (.bool true) ∧ w' = w := by
  have c30 : w.cell? ⟨B, 30, none⟩ = some (.slice none 0 0) := h.cell 30 _ rfl
  have c33 : w.cell? ⟨B, 33, none⟩ = some (.slice none 0 0) := h.cell 33 _ rfl
  have c36 : w.cell? ⟨B, 36, none⟩ = some (.slice none 0 0) := h.cell 36 _ rfl
  have c39 : w.cell? ⟨B, 39, none⟩ = some (.slice none 0 0) := h.cell 39 _ rfl
  clear h
  go_enter Tryz.func65, Tryz.ntmps65
  go_wp2
  iterate 4
    refine wp_loop_rounds 1 ?_
    rw [rounds_succ]
    go_wp2
  go_ret
  exact ⟨rfl, rfl⟩
set_option maxRecDepth 100000 in
set_option maxHeartbeats 400000 in
theorem sent_any {w : World} {B : Nat} {vb vo : Value} {a t d u : Nat} (h : BkBlk w B vb vo a t d u) :
    Calls Tryz.prog 66 #[.pointer (some ⟨B, 0, none⟩)] w fun e w' => e = .returned (.bool true) ∧ w' = w := by
  have c42 : w.cell? ⟨B, 42, none⟩ = some (.slice none 0 0) := h.cell 42 _ rfl
  have c45 : w.cell? ⟨B, 45, none⟩ = some (.slice none 0 0) := h.cell 45 _ rfl
  have c48 : w.cell? ⟨B, 48, none⟩ = some (.slice none 0 0) := h.cell 48 _ rfl
  have c51 : w.cell? ⟨B, 51, none⟩ = some (.slice none 0 0) := h.cell 51 _ rfl
  clear h
  go_enter Tryz.func66, Tryz.ntmps66
  go_wp2
  iterate 4
    refine wp_loop_rounds 1 ?_
    rw [rounds_succ]
    go_wp2
  go_ret
  exact ⟨rfl, rfl⟩
set_option maxRecDepth 100000 in
set_option maxHeartbeats 400000 in
theorem grow38_any {w : World} {B : Nat} {vb vo : Value} {a t d u : Nat} (h : BkBlk w B vb vo a t d u) :
    Calls Tryz.prog 68 #[.pointer (some ⟨B, 0, none⟩)] w fun e w' => e = .returned (.tuple #[]) ∧ BkBlk w' B vb vo a t d u ∧ Kp (fun k => k = B) w w' := by
  have c0 : w.cell? ⟨B, 3, none⟩ = some (.slice none 0 0) := h.cell 3 _ rfl
  have c2 : w.cell? ⟨B, 5, none⟩ = some (.int .i64 0) := h.cell 5 _ rfl
  have f2 := blk_frozen 5 h
  have HH := hide h
  clear h
  go_enter Tryz.func68, Tryz.ntmps68
  go_wp2
  refine wp_loop_rounds 1 ?_
  rw [rounds_succ]
  go_wp2
  go_end0
  exact ⟨rfl, HH.out.set 5 _ rfl, (Kp.refl _ _).setCell _ _ (fun _ => rfl)⟩
set_option maxRecDepth 100000 in
set_option maxHeartbeats 400000 in
theorem grow39_any {w : World} {B : Nat} {vb vo : Value} {a t d u : Nat} (h : BkBlk w B vb vo a t d u) :
    Calls Tryz.prog 69 #[.pointer (some ⟨B, 0, none⟩)] w fun e w' => e = .returned (.tuple #[]) ∧ BkBlk w' B vb vo a t d u ∧ Kp (fun k => k = B) w w' := by
  have c0 : w.cell? ⟨B, 6, none⟩ = some (.slice none 0 0) := h.cell 6 _ rfl
  have c2 : w.cell? ⟨B, 8, none⟩ = some (.int .i64 0) := h.cell 8 _ rfl
  have f2 := blk_frozen 8 h
  have HH := hide h
  clear h
  go_enter Tryz.func69, Tryz.ntmps69
  go_wp2
  refine wp_loop_rounds 1 ?_
  rw [rounds_succ]
  go_wp2
  go_end0
  exact ⟨rfl, HH.out.set 8 _ rfl, (Kp.refl _ _).setCell _ _ (fun _ => rfl)⟩
set_option maxRecDepth 100000 in
set_option maxHeartbeats 400000 in
theorem grow40_any {w : World} {B : Nat} {vb vo : Value} {a t d u : Nat} (h : BkBlk w B vb vo a t d u) :
    Calls Tryz.prog 70 #[.pointer (some ⟨B, 0, none⟩)] w fun e w' => e = .returned (.tuple #[]) ∧ BkBlk w' B vb vo a t d u ∧ Kp (fun k => k = B) w w' := by
  have c0 : w.cell? ⟨B, 9, none⟩ = some (.slice none 0 0) := h.cell 9 _ rfl
  have c2 : w.cell? ⟨B, 11, none⟩ = some (.int .i64 0) := h.cell 11 _ rfl
  have f2 := blk_frozen 11 h
  have HH := hide h
  clear h
  go_enter Tryz.func70, Tryz.ntmps70
  go_wp2
  refine wp_loop_rounds 1 ?_
  rw [rounds_succ]
  go_wp2
  go_end0
  exact ⟨rfl, HH.out.set 11 _ rfl, (Kp.refl _ _).setCell _ _ (fun _ => rfl)⟩
set_option maxRecDepth 100000 in
set_option maxHeartbeats 400000 in
theorem grow41_any {w : World} {B : Nat} {vb vo : Value} {a t d u : Nat} (h : BkBlk w B vb vo a t d u) :
    Calls Tryz.prog 71 #[.pointer (some ⟨B, 0, none⟩)] w fun e w' => e = .returned (.tuple #[]) ∧ BkBlk w' B vb vo a t d u ∧ Kp (fun k => k = B) w w' := by
  have c0 : w.cell? ⟨B, 12, none⟩ = some (.slice none 0 0) := h.cell 12 _ rfl
  have c2 : w.cell? ⟨B, 14, none⟩ = some (.int .i64 0) := h.cell 14 _ rfl
  have f2 := blk_frozen 14 h
  have HH := hide h
  clear h
  go_enter Tryz.func71, Tryz.ntmps71
  go_wp2
  refine wp_loop_rounds 1 ?_
  rw [rounds_succ]
  go_wp2
  go_end0
  exact ⟨rfl, HH.out.set 14 _ rfl, (Kp.refl _ _).setCell _ _ (fun _ => rfl)⟩
set_option maxRecDepth 100000 in
set_option maxHeartbeats 400000 in
theorem grow42_any {w : World} {B : Nat} {vb vo : Value} {a t d u : Nat} (h : BkBlk w B vb vo a t d u) :
    Calls Tryz.prog 72 #[.pointer (some ⟨B, 0, none⟩)] w fun e w' => e = .returned (.tuple #[]) ∧ BkBlk w' B vb vo a t d u ∧ Kp (fun k => k = B) w w' := by
  have c0 : w.cell? ⟨B, 15, none⟩ = some (.slice none 0 0) := h.cell 15 _ rfl
  have c2 : w.cell? ⟨B, 17, none⟩ = some (.int .i64 0) := h.cell 17 _ rfl
  have f2 := blk_frozen 17 h
  have HH := hide h
  clear h
  go_enter Tryz.func72, Tryz.ntmps72
  go_wp2
  refine wp_loop_rounds 1 ?_
  rw [rounds_succ]
  go_wp2
  go_end0
  exact ⟨rfl, HH.out.set 17 _ rfl, (Kp.refl _ _).setCell _ _ (fun _ => rfl)⟩
set_option maxRecDepth 100000 in
set_option maxHeartbeats 400000 in
theorem grow43_any {w : World} {B : Nat} {vb vo : Value} {a t d u : Nat} (h : BkBlk w B vb vo a t d u) :
    Calls Tryz.prog 73 #[.pointer (some ⟨B, 0, none⟩)] w fun e w' => e = .returned (.tuple #[]) ∧ BkBlk w' B vb vo a t d u ∧ Kp (fun k => k = B) w w' := by
  have c0 : w.cell? ⟨B, 18, none⟩ = some (.slice none 0 0) := h.cell 18 _ rfl
  have c2 : w.cell? ⟨B, 20, none⟩ = some (.int .i64 0) := h.cell 20 _ rfl
  have f2 := blk_frozen 20 h
  have HH := hide h
  clear h
  go_enter Tryz.func73, Tryz.ntmps73
  go_wp2
  refine wp_loop_rounds 1 ?_
  rw [rounds_succ]
  go_wp2
  go_end0
  exact ⟨rfl, HH.out.set 20 _ rfl, (Kp.refl _ _).setCell _ _ (fun _ => rfl)⟩
set_option maxRecDepth 100000 in
set_option maxHeartbeats 400000 in
theorem grow44_any {w : World} {B : Nat} {vb vo : Value} {a t d u : Nat} (h : BkBlk w B vb vo a t d u) :
    Calls Tryz.prog 74 #[.pointer (some ⟨B, 0, none⟩)] w fun e w' => e = .returned (.tuple #[]) ∧ BkBlk w' B vb vo a t d u ∧ Kp (fun k => k = B) w w' := by
  have c0 : w.cell? ⟨B, 21, none⟩ = some (.slice none 0 0) := h.cell 21 _ rfl
  have c2 : w.cell? ⟨B, 23, none⟩ = some (.int .i64 0) := h.cell 23 _ rfl
  have f2 := blk_frozen 23 h
  have HH := hide h
  clear h
  go_enter Tryz.func74, Tryz.ntmps74
  go_wp2
  refine wp_loop_rounds 1 ?_
  rw [rounds_succ]
  go_wp2
  go_end0
  exact ⟨rfl, HH.out.set 23 _ rfl, (Kp.refl _ _).setCell _ _ (fun _ => rfl)⟩
set_option maxRecDepth 100000 in
set_option maxHeartbeats 400000 in
theorem grow45_any {w : World} {B : Nat} {vb vo : Value} {a t d u : Nat} (h : BkBlk w B vb vo a t d u) :
    Calls Tryz.prog 75 #[.pointer (some ⟨B, 0, none⟩)] w fun e w' => e = .returned (.tuple #[]) ∧ BkBlk w' B vb vo a t d u ∧ Kp (fun k => k = B) w w' := by
  have c0 : w.cell? ⟨B, 24, none⟩ = some (.slice none 0 0) := h.cell 24 _ rfl
  have c2 : w.cell? ⟨B, 26, none⟩ = some (.int .i64 0) := h.cell 26 _ rfl
  have f2 := blk_frozen 26 h
  have HH := hide h
  clear h
  go_enter Tryz.func75, Tryz.ntmps75
  go_wp2
  refine wp_loop_rounds 1 ?_
  rw [rounds_succ]
  go_wp2
  go_end0
  exact ⟨rfl, HH.out.set 26 _ rfl, (Kp.refl _ _).setCell _ _ (fun _ => rfl)⟩
set_option maxRecDepth 100000 in
set_option maxHeartbeats 400000 in
theorem grow46_any {w : World} {B : Nat} {vb vo : Value} {a t d u : Nat} (h : BkBlk w B vb vo a t d u) :
    Calls Tryz.prog 76 #[.pointer (some ⟨B, 0, none⟩)] w fun e w' => e = .returned (.tuple #[]) ∧ BkBlk w' B vb vo a t d u ∧ Kp (fun k => k = B) w w' := by
  have c0 : w.cell? ⟨B, 27, none⟩ = some (.slice none 0 0) := h.cell 27 _ rfl
  have c2 : w.cell? ⟨B, 29, none⟩ = some (.int .i64 0) := h.cell 29 _ rfl
  have f2 := blk_frozen 29 h
  have HH := hide h
  clear h
  go_enter Tryz.func76, Tryz.ntmps76
  go_wp2
  refine wp_loop_rounds 1 ?_
  rw [rounds_succ]
  go_wp2
  go_end0
  exact ⟨rfl, HH.out.set 29 _ rfl, (Kp.refl _ _).setCell _ _ (fun _ => rfl)⟩
set_option maxRecDepth 100000 in
set_option maxHeartbeats 400000 in
theorem grow47_any {w : World} {B : Nat} {vb vo : Value} {a t d u : Nat} (h : BkBlk w B vb vo a t d u) :
    Calls Tryz.prog 77 #[.pointer (some ⟨B, 0, none⟩)] w fun e w' => e = .returned (.tuple #[]) ∧ BkBlk w' B vb vo a t d u ∧ Kp (fun k => k = B) w w' := by
  have c0 : w.cell? ⟨B, 30, none⟩ = some (.slice none 0 0) := h.cell 30 _ rfl
  have c2 : w.cell? ⟨B, 32, none⟩ = some (.int .i64 0) := h.cell 32 _ rfl
  have f2 := blk_frozen 32 h
  have HH := hide h
  clear h
  go_enter Tryz.func77, Tryz.ntmps77
  go_wp2
  refine wp_loop_rounds 1 ?_
  rw [rounds_succ]
  go_wp2
  go_end0
  exact ⟨rfl, HH.out.set 32 _ rfl, (Kp.refl _ _).setCell _ _ (fun _ => rfl)⟩
set_option maxRecDepth 100000 in
set_option maxHeartbeats 400000 in
theorem grow48_any {w : World} {B : Nat} {vb vo : Value} {a t d u : Nat} (h : BkBlk w B vb vo a t d u) :
    Calls Tryz.prog 78 #[.pointer (some ⟨B, 0, none⟩)] w fun e w' => e = .returned (.tuple #[]) ∧ BkBlk w' B vb vo a t d u ∧ Kp (fun k => k = B) w w' := by
  have c0 : w.cell? ⟨B, 33, none⟩ = some (.slice none 0 0) := h.cell 33 _ rfl
  have c2 : w.cell? ⟨B, 35, none⟩ = some (.int .i64 0) := h.cell 35 _ rfl
  have f2 := blk_frozen 35 h
  have HH := hide h
  clear h
  go_enter Tryz.func78, Tryz.ntmps78
  go_wp2
  refine wp_loop_rounds 1 ?_
  rw [rounds_succ]
  go_wp2
  go_end0
  exact ⟨rfl, HH.out.set 35 _ rfl, (Kp.refl _ _).setCell _ _ (fun _ => rfl)⟩
set_option maxRecDepth 100000 in
set_option maxHeartbeats 400000 in
theorem grow49_any {w : World} {B : Nat} {vb vo : Value} {a t d u : Nat} (h : BkBlk w B vb vo a t d u) :
    Calls Tryz.prog 79 #[.pointer (some ⟨B, 0, none⟩)] w fun e w' => e = .returned (.tuple #[]) ∧ BkBlk w' B vb vo a t d u ∧ Kp (fun k => k = B) w w' := by
  have c0 : w.cell? ⟨B, 36, none⟩ = some (.slice none 0 0) := h.cell 36 _ rfl
  have c2 : w.cell? ⟨B, 38, none⟩ = some (.int .i64 0) := h.cell 38 _ rfl
  have f2 := blk_frozen 38 h
  have HH := hide h
  clear h
  go_enter Tryz.func79, Tryz.ntmps79
  go_wp2
  refine wp_loop_rounds 1 ?_
  rw [rounds_succ]
  go_wp2
  go_end0
  exact ⟨rfl, HH.out.set 38 _ rfl, (Kp.refl _ _).setCell _ _ (fun _ => rfl)⟩
set_option maxRecDepth 100000 in
set_option maxHeartbeats 400000 in
theorem grow50_any {w : World} {B : Nat} {vb vo : Value} {a t d u : Nat} (h : BkBlk w B vb vo a t d u) :
    Calls Tryz.prog 80 #[.pointer (some ⟨B, 0, none⟩)] w fun e w' => e = .returned (.tuple #[]) ∧ BkBlk w' B vb vo a t d u ∧ Kp (fun k => k = B) w w' := by
  have c0 : w.cell? ⟨B, 39, none⟩ = some (.slice none 0 0) := h.cell 39 _ rfl
  have c2 : w.cell? ⟨B, 41, none⟩ = some (.int .i64 0) := h.cell 41 _ rfl
  have f2 := blk_frozen 41 h
  have HH := hide h
  clear h
  go_enter Tryz.func80, Tryz.ntmps80
  go_wp2
  refine wp_loop_rounds 1 ?_
  rw [rounds_succ]
  go_wp2
  go_end0
  exact ⟨rfl, HH.out.set 41 _ rfl, (Kp.refl _ _).setCell _ _ (fun _ => rfl)⟩
set_option maxRecDepth 100000 in
set_option maxHeartbeats 400000 in
theorem grow51_any {w : World} {B : Nat} {vb vo : Value} {a t d u : Nat} (h : BkBlk w B vb vo a t d u) :
    Calls Tryz.prog 81 #[.pointer (some ⟨B, 0, none⟩)] w fun e w' => e = .returned (.tuple #[]) ∧ BkBlk w' B vb vo a t d u ∧ Kp (fun k => k = B) w w' := by
  have c0 : w.cell? ⟨B, 42, none⟩ = some (.slice none 0 0) := h.cell 42 _ rfl
  have c2 : w.cell? ⟨B, 44, none⟩ = some (.int .i64 0) := h.cell 44 _ rfl
  have f2 := blk_frozen 44 h
  have HH := hide h
  clear h
  go_enter Tryz.func81, Tryz.ntmps81
  go_wp2
  refine wp_loop_rounds 1 ?_
  rw [rounds_succ]
  go_wp2
  go_end0
  exact ⟨rfl, HH.out.set 44 _ rfl, (Kp.refl _ _).setCell _ _ (fun _ => rfl)⟩
set_option maxRecDepth 100000 in
set_option maxHeartbeats 400000 in
theorem grow52_any {w : World} {B : Nat} {vb vo : Value} {a t d u : Nat} (h : BkBlk w B vb vo a t d u) :
    Calls Tryz.prog 82 #[.pointer (some ⟨B, 0, none⟩)] w fun e w' => e = .returned (.tuple #[]) ∧ BkBlk w' B vb vo a t d u ∧ Kp (fun k => k = B) w w' := by
  have c0 : w.cell? ⟨B, 45, none⟩ = some (.slice none 0 0) := h.cell 45 _ rfl
  have c2 : w.cell? ⟨B, 47, none⟩ = some (.int .i64 0) := h.cell 47 _ rfl
  have f2 := blk_frozen 47 h
  have HH := hide h
  clear h
  go_enter Tryz.func82, Tryz.ntmps82
  go_wp2
  refine wp_loop_rounds 1 ?_
  rw [rounds_succ]
  go_wp2
  go_end0
  exact ⟨rfl, HH.out.set 47 _ rfl, (Kp.refl _ _).setCell _ _ (fun _ => rfl)⟩
set_option maxRecDepth 100000 in
set_option maxHeartbeats 400000 in
theorem grow53_any {w : World} {B : Nat} {vb vo : Value} {a t d u : Nat} (h : BkBlk w B vb vo a t d u) :
    Calls Tryz.prog 83 #[.pointer (some ⟨B, 0, none⟩)] w fun e w' => e = .returned (.tuple #[]) ∧ BkBlk w' B vb vo a t d u ∧ Kp (fun k => k = B) w w' := by
  have c0 : w.cell? ⟨B, 48, none⟩ = some (.slice none 0 0) := h.cell 48 _ rfl
  have c2 : w.cell? ⟨B, 50, none⟩ = some (.int .i64 0) := h.cell 50 _ rfl
  have f2 := blk_frozen 50 h
  have HH := hide h
  clear h
  go_enter Tryz.func83, Tryz.ntmps83
  go_wp2
  refine wp_loop_rounds 1 ?_
  rw [rounds_succ]
  go_wp2
  go_end0
  exact ⟨rfl, HH.out.set 50 _ rfl, (Kp.refl _ _).setCell _ _ (fun _ => rfl)⟩
set_option maxRecDepth 100000 in
set_option maxHeartbeats 400000 in
theorem grow54_any {w : World} {B : Nat} {vb vo : Value} {a t d u : Nat} (h : BkBlk w B vb vo a t d u) :
    Calls Tryz.prog 84 #[.pointer (some ⟨B, 0, none⟩)] w fun e w' => e = .returned (.tuple #[]) ∧ BkBlk w' B vb vo a t d u ∧ Kp (fun k => k = B) w w' := by
  have c0 : w.cell? ⟨B, 51, none⟩ = some (.slice none 0 0) := h.cell 51 _ rfl
  have c2 : w.cell? ⟨B, 53, none⟩ = some (.int .i64 0) := h.cell 53 _ rfl
  have f2 := blk_frozen 53 h
  have HH := hide h
  clear h
  go_enter Tryz.func84, Tryz.ntmps84
  go_wp2
  refine wp_loop_rounds 1 ?_
  rw [rounds_succ]
  go_wp2
  go_end0
  exact ⟨rfl, HH.out.set 53 _ rfl, (Kp.refl _ _).setCell _ _ (fun _ => rfl)⟩
end
section
open Go.RowKit
/-- A list that is kept: its value, its length, its mark. -/
structure Ent where
  val : Value
  n : Nat
  m : Nat

/-- The book: its block, the row of lists, the row of marks' numbers, each list written full of its mark. -/
structure BookOk (w : World) (base B : Nat) (vb vo : Value) (es : List Ent) (a t d u : Nat) : Prop where
  blk : BkBlk w B vb vo a t d u
  hb : w.ownsRow base 23 1 vb es.length (es.map (·.val))
  ho : w.ownsRow base 3 1 vo es.length (es.map fun e => .int .i64 ((e.m : Nat) : Int))
  he : ∀ e ∈ es, w.ownsRow base 5 1 e.val e.n (bv (mkl e.m e.n))
  hs : ∀ e ∈ es, ∀ e' ∈ es, ∀ k, e.val.ownBlock = some k → e'.val.ownBlock = some k → e.m = e'.m
  hbase : base ≤ B
  hm : ∀ e ∈ es, e.m ≤ t ∧ e.n < 68719477000
  ht : t < 68719476736
  hu : u ≤ 16777216
  count : ∃ c r, a = 10 * c ∧ es.length = 10 * c + r ∧ 1200 * (c + r) ≤ u
  hg : ∀ i j ei ej, es[i]? = some ei → es[j]? = some ej → a ≤ j → i ≠ j → ∀ k, ei.val.ownBlock = some k → ej.val.ownBlock ≠ some k
  hn : ∀ (j : Nat) (ej : Ent), es[j]? = some ej → a ≤ j → ej.n < 68719476736

/-- The same without what is said of the lists that have not been grown yet. -/
structure BookC (w : World) (base B : Nat) (vb vo : Value) (es : List Ent) (a t d u : Nat) : Prop where
  blk : BkBlk w B vb vo a t d u
  hb : w.ownsRow base 23 1 vb es.length (es.map (·.val))
  ho : w.ownsRow base 3 1 vo es.length (es.map fun e => .int .i64 ((e.m : Nat) : Int))
  he : ∀ e ∈ es, w.ownsRow base 5 1 e.val e.n (bv (mkl e.m e.n))
  hs : ∀ e ∈ es, ∀ e' ∈ es, ∀ k, e.val.ownBlock = some k → e'.val.ownBlock = some k → e.m = e'.m
  hbase : base ≤ B
  hm : ∀ e ∈ es, e.m ≤ t ∧ e.n < 68719477000
  ht : t < 68719476736
  hu : u ≤ 16777216
theorem BookOk.core {w : World} {base B : Nat} {vb vo : Value} {es : List Ent} {a t d u : Nat} (h : BookOk w base B vb vo es a t d u) : BookC w base B vb vo es a t d u := ⟨h.blk, h.hb, h.ho, h.he, h.hs, h.hbase, h.hm, h.ht, h.hu⟩

theorem BookOk.kp {S : Nat → Prop} {w w' : World} {base B : Nat} {vb vo : Value} {es : List Ent} {a t d u : Nat} (h : BookOk w base B vb vo es a t d u) (hk : Kp S w w')
    (h1 : ¬ S B) (h2 : ∀ k, vb.ownBlock = some k → ¬ S k) (h3 : ∀ k, vo.ownBlock = some k → ¬ S k) (h4 : ∀ e ∈ es, ∀ k, e.val.ownBlock = some k → ¬ S k) : BookOk w' base B vb vo es a t d u :=
  ⟨h.blk.kp hk h1, hk.owns h.hb h2, hk.owns h.ho h3, fun e he => hk.owns (h.he e he) (h4 e he), h.hs, h.hbase, h.hm, h.ht, h.hu, h.count, h.hg, h.hn⟩

theorem own_form {w : World} {base : Nat} {e : TypeId} {v : Value} {n : Nat} {xs : List Value} (h : w.ownsRow base e 1 v n xs) : ∃ a cap, v = .slice a n cap ∧ n ≤ cap ∧ n ≤ 9223372036854775807 ∧ ∀ j u, xs[j]? = some u → ∃ g, a = some ⟨g, 0, none⟩ ∧ w.cell? ⟨g, j, none⟩ = some u := by
  have hlen : xs.length = n := by have := h.1; omega
  rcases h.2 with ⟨rfl, h0⟩ | ⟨g, cap, cur, rfl, _, hg, h1, h2, h3, h4⟩
  · refine ⟨none, 0, by rw [h0], by omega, by omega, fun j u hu => ?_⟩
    have : xs = [] := List.length_eq_zero_iff.1 (by omega)
    rw [this] at hu
    simp at hu
  · refine ⟨some ⟨g, 0, none⟩, cap, rfl, h1, by unfold maxLen at h2; omega, fun j u hu => ⟨g, rfl, ?_⟩⟩
    have := h.cells (g := g) rfl j u hu
    have hadd : (⟨g, 0, none⟩ : Addr).add j = ⟨g, j, none⟩ := by unfold Addr.add; split <;> simp_all
    rw [hadd] at this
    exact this

set_option maxRecDepth 1000000 in
set_option maxHeartbeats 400000 in
theorem plain_any {w : World} {base B : Nat} {vb vo : Value} {es : List Ent} {a t d u : Nat} (h : BookOk w base B vb vo es a t d u) :
    Calls Tryz.prog 62 #[.pointer (some ⟨B, 0, none⟩)] w fun e w' => e = .returned (.bool true) ∧ Kp (fun _ => False) w w' := by
  obtain ⟨ab, capb, rfl, hcb, hxb, hcellb⟩ := own_form h.hb
  obtain ⟨ao, capo, rfl, hco, hxo, hcello⟩ := own_form h.ho
  have HCB := hide hcellb
  have HCO := hide hcello
  have HH := hide h
  clear hcellb hcello h
  go_enter Tryz.func62, Tryz.ntmps62
  go_wp2
  go_loopw [3] (fun i wr => ∃ k : Nat, k ≤ es.length ∧ i = .int .i64 k ∧ Kp (fun _ => False) w wr) (fun i _ => es.length - (intOf i).toNat)
  case atStart => exact ⟨0, Nat.zero_le _, rfl, Kp.refl _ _⟩
  case round =>
    obtain ⟨k, hk, rfl, hkp⟩ := hrel
    have HK := hide hkp
    clear hkp
    have c0 : wr.cell? ⟨B, 0, none⟩ = some (.slice ab es.length capb) := HK.out.cell (HH.out.blk.cell 0 _ rfl) (by simp)
    have c3 : wr.cell? ⟨B, 3, none⟩ = some (.slice none 0 0) := HK.out.cell (HH.out.blk.cell 3 _ rfl) (by simp)
    by_cases hlt : k < es.length
    · have hlt' : (k : Int) < (es.length : Int) := by omega
      have hmem : es[k] ∈ es := List.getElem_mem hlt
      obtain ⟨gb, hab, hcb1⟩ := HCB.out k es[k].val (by simp [hlt])
      obtain ⟨go, hao, hco1⟩ := HCO.out k (.int .i64 ((es[k].m : Nat) : Int)) (by simp [hlt])
      have hown := HH.out.he _ hmem
      have hmm := HH.out.hm _ hmem
      have htt := HH.out.ht
      obtain ⟨av, capv, hval, _, hnv, hcv⟩ := own_form hown
      have HCV := hide hcv
      generalize es[k] = e at *
      obtain ⟨ev, en, em⟩ := e
      simp only at hval hcb1 hco1 hmm hnv HCV
      subst hval
      subst hab
      subst hao
      clear hown hcv hmem
      have HCB1 := hide hcb1
      have HCO1 := hide hco1
      have cb1 := HK.out.cell hcb1 (by simp)
      clear hcb1 hco1
      obtain ⟨wo, rfl⟩ : ∃ x, wr = x := ⟨wr, rfl⟩
      go_wp2
      go_loopw [4] (fun j wr' => ∃ q : Nat, q ≤ en ∧ j = .int .i64 q ∧ Kp (fun _ => False) w wr') (fun j _ => en - (intOf j).toNat)
      case atStart => exact ⟨0, Nat.zero_le _, rfl, HK.out⟩
      case round =>
        obtain ⟨q, hq, rfl, hkp2⟩ := hrel
        have HK2 := hide hkp2
        clear hkp2 c0 c3 cb1
        have c0 : wr.cell? ⟨B, 0, none⟩ = some (.slice (some ⟨gb, 0, none⟩) es.length capb) := HK2.out.cell (HH.out.blk.cell 0 _ rfl) (by simp)
        have c1 : wr.cell? ⟨B, 1, none⟩ = some (.slice (some ⟨go, 0, none⟩) es.length capo) := HK2.out.cell (HH.out.blk.cell 1 _ rfl) (by simp)
        have cb1 := HK2.out.cell HCB1.out (by simp)
        have co1 := HK2.out.cell HCO1.out (by simp)
        by_cases hql : q < en
        · have hql' : (q : Int) < (en : Int) := by omega
          obtain ⟨gv, hav, hcv1⟩ := HCV.out q (.int .u8 ((atv em q : Nat) : Int)) (by rw [bv_get (by rw [mkl_len]; exact hql), mkl_get _ _ _ hql])
          subst hav
          have cv1 := HK2.out.cell hcv1 (by simp)
          clear hcv1
          have HAT : Hid (∀ W, Calls Tryz.prog 60 #[.int .i64 (em : Int), .int .i64 (q : Int)] W fun e w' => e = .returned (.int .u8 ((atv em q : Nat) : Int)) ∧ w' = W) := fun W => by
            have := at_any (em : Int) (q : Int) W (by omega) (by omega) (by omega) (by omega)
            rw [Int.toNat_natCast, Int.toNat_natCast] at this
            exact this
          generalize atv em q = x at *
          go_wp2
          go_quiet ((go_at_call 60; exact Calls.quiet_of_same (HAT.out _)))
          go_wp2
          go_roundw
          case rel => exact ⟨q + 1, by omega, by go_num, HK2.out.drewN _⟩
          case measure => simp [intOf]; omega
        · have hql' : ¬ (q : Int) < (en : Int) := by omega
          go_wp2
          go_roundw
          case rel => exact ⟨k + 1, by omega, by go_num, HK2.out⟩
          case measure => simp [intOf]; omega
    · have hlt' : ¬ (k : Int) < (es.length : Int) := by omega
      go_wp2
      refine wp_loop_rounds 1 ?_
      rw [rounds_succ]
      go_wp2
      go_ret
      exact ⟨rfl, HK.out⟩
end
section
open Go.RowKit
theorem Tryz.info50 : (Tryz.prog.info? 23).map (fun i => (i.zero, i.size, i.bytes)) = some (some (.slice none 0 0), 1, 24) := by kernel_rfl
theorem Tryz.info3 : (Tryz.prog.info? 3).map (fun i => (i.zero, i.size, i.bytes)) = some (some (.int .i64 0), 1, 8) := by kernel_rfl
theorem info50_ex : ∃ i, Tryz.prog.info? 23 = some i ∧ i.zero = some (.slice none 0 0) ∧ i.size = 1 ∧ i.bytes = 24 := by
  have h := Tryz.info50
  cases hi : Tryz.prog.info? 23 with
  | none => rw [hi] at h; cases h
  | some i => rw [hi] at h; simp at h; exact ⟨i, rfl, h.1, h.2.1, h.2.2⟩
theorem info3_ex : ∃ i, Tryz.prog.info? 3 = some i ∧ i.zero = some (.int .i64 0) ∧ i.size = 1 ∧ i.bytes = 8 := by
  have h := Tryz.info3
  cases hi : Tryz.prog.info? 3 with
  | none => rw [hi] at h; cases h
  | some i => rw [hi] at h; simp at h; exact ⟨i, rfl, h.1, h.2.1, h.2.2⟩

/-- 'append(rows, x)' at slices of bytes, one of them. -/
theorem append_row {ops : Array Oper} {rest : List Oper} {o : Oper} {a : Act} {Q : Exit → Act → World → Prop} {w : World} (hgd : o.guard = none) (s x : Operand)
    (ho : o.op = .call { callee := .builtin .append, args := #[s, x], argTypes := #[28, 28] }) (B : Nat) (v : Value) (n : Nat) (ds : List Value) (hs : a.eval s = v) (hown : w.ownsRow B 23 1 v n ds)
    (y : Value) (S : Nat) (hS : w.heap.size = S) (hx : a.eval x = .slice (some ⟨S, 0, none⟩) 1 1) (hone : y.oneCell' = true) (hlen : n < 1099511627776) (hbase : B ≤ w.heap.size)
    (h : ∀ v' w', w'.ownsRow B 23 1 v' (n + 1) (ds ++ [y]) → (w.alloc (.cells #[y] 23)).grownBy w' v.ownBlock → (v'.ownBlock = v.ownBlock ∨ v'.ownBlock = some (w.heap.size + 1)) → wpList Tryz.prog ops Q rest (a.put o.dst v') w') : wpList Tryz.prog ops Q (o :: rest) a (w.alloc (.cells #[y] 23)) := by
  obtain ⟨i, hi, hz0, hz1, hz2⟩ := info50_ex
  subst hS
  refine wpList_append_own_at _ hgd s x 28 ho B 23 i (.slice none 0 0) 1 24 Tryz.underlying28 hi hz0 hz1 hz2 rfl (by decide) v n ds hs (hown.alloc _) ⟨w.heap.size, 0, none⟩ 1 1 [y] hx rfl (cell_one_new _ _ _) ?_ (by unfold maxLen; omega) (by omega) (by simp; omega) fun v' w' h1 h2 _ h4 => h v' w' h1 h2 (by simpa using h4)
  intro u hu
  simp at hu
  subst hu
  exact hone
/-- 'append(ints, x)'. -/
theorem append_int {ops : Array Oper} {rest : List Oper} {o : Oper} {a : Act} {Q : Exit → Act → World → Prop} {w : World} (hgd : o.guard = none) (s x : Operand)
    (ho : o.op = .call { callee := .builtin .append, args := #[s, x], argTypes := #[29, 29] }) (B : Nat) (v : Value) (n : Nat) (ds : List Value) (hs : a.eval s = v) (hown : w.ownsRow B 3 1 v n ds)
    (y : Int) (S : Nat) (hS : w.heap.size = S) (hx : a.eval x = .slice (some ⟨S, 0, none⟩) 1 1) (hlen : n < 1099511627776) (hbase : B ≤ w.heap.size)
    (h : ∀ v' w', w'.ownsRow B 3 1 v' (n + 1) (ds ++ [.int .i64 y]) → (w.alloc (.cells #[.int .i64 y] 3)).grownBy w' v.ownBlock → (v'.ownBlock = v.ownBlock ∨ v'.ownBlock = some (w.heap.size + 1)) → wpList Tryz.prog ops Q rest (a.put o.dst v') w') : wpList Tryz.prog ops Q (o :: rest) a (w.alloc (.cells #[.int .i64 y] 3)) := by
  obtain ⟨i, hi, hz0, hz1, hz2⟩ := info3_ex
  subst hS
  refine wpList_append_own_at _ hgd s x 29 ho B 3 i (.int .i64 0) 1 8 Tryz.underlying29 hi hz0 hz1 hz2 rfl (by decide) v n ds hs (hown.alloc _) ⟨w.heap.size, 0, none⟩ 1 1 [.int .i64 y] hx rfl (cell_one_new _ _ _) ?_ (by unfold maxLen; omega) (by omega) (by simp; omega) fun v' w' h1 h2 _ h4 => h v' w' h1 h2 (by simpa using h4)
  intro u hu
  simp at hu
  subst hu
  rfl

/-- One cell of a row of the call's own is written. -/
theorem own_set {w : World} {base : Nat} {e : TypeId} {g n cap j : Nat} {xs : List Value} (x : Value) (h : w.ownsRow base e 1 (.slice (some ⟨g, 0, none⟩) n cap) n xs) :
    (w.setCell ⟨g, j, none⟩ x).ownsRow base e 1 (.slice (some ⟨g, 0, none⟩) n cap) n (xs.set j x) := by
  refine ⟨by rw [List.length_set]; exact h.1, ?_⟩
  rcases h.2 with ⟨hv, _⟩ | ⟨g', cap', cur, hv, hb, hg, h1, h2, h3, h4⟩
  · cases hv
  · injection hv with e1 e2 e3
    injection e1 with e1
    injection e1 with e1 _ _
    subst e1
    subst e3
    refine .inr ⟨g, cap, _, rfl, hb, blk_set j x hg, h1, h2, by simpa using h3, ?_⟩
    rw [Nat.mul_one] at h4 ⊢
    rw [← h4, Array.toList_setIfInBounds, List.take_set]
theorem own_cell {w : World} {base : Nat} {e : TypeId} {g n m cap : Nat} {xs : List Value} (h : w.ownsRow base e 1 (.slice (some ⟨g, 0, none⟩) m cap) n xs) {j : Nat} {u : Value} (hu : xs[j]? = some u) : w.cell? ⟨g, j, none⟩ = some u ∧ w.frozen? ⟨g, j, none⟩ = false := by
  have := h.cells (g := g) rfl j u hu
  have hadd : (⟨g, 0, none⟩ : Addr).add j = ⟨g, j, none⟩ := by unfold Addr.add; split <;> simp_all
  rw [hadd] at this
  obtain ⟨cur, hcur⟩ := own_block_type h (k := g) rfl
  exact ⟨this, blk_frozen j hcur⟩
theorem own_back {w : World} {base : Nat} {e : TypeId} {v : Value} {n : Nat} {xs : List Value} (h : w.ownsRow base e 1 v n xs) : ∀ k, v.ownBlock = some k → base ≤ k ∧ k < w.heap.size := h.lt

/-- The blocks that a book holds. -/
def Foot (B : Nat) (vb vo : Value) (es : List Ent) (k : Nat) : Prop := k = B ∨ vb.ownBlock = some k ∨ vo.ownBlock = some k ∨ ∃ e ∈ es, e.val.ownBlock = some k
end
section
open Go.RowKit
/-! ### Heads, plainly -/
def hinfo (n : Nat) : Nat := if n < 24 then n else if n < 256 then 24 else if n < 65536 then 25 else if n < 4294967296 then 26 else 27
def hwide (i : Nat) : Nat := if i = 24 then 1 else if i = 25 then 2 else if i = 26 then 4 else if i = 27 then 8 else 0
/-- A number in so many bytes, the highest first. -/
def be : Nat → Nat → List Nat
  | 0, _ => []
  | k + 1, n => (n / 256 ^ k % 256) :: be k n
def hl (m n : Nat) : List Nat := (32 * m + hinfo n) :: be (hwide (hinfo n)) n
def hlay (m : Int) (n : Nat) : List Nat := if 0 ≤ m ∧ m ≤ 7 then hl m.toNat n else []
def hsize (n : Nat) : Nat := 1 + hwide (hinfo n)
/-- The number that bytes are, the highest first. -/
def bnum : Nat → List Nat → Nat
  | a, [] => a
  | a, x :: r => bnum (256 * a + x) r

structure HR where
  m : Nat
  i : Nat
  n : Nat
  u : Nat
  s : Bool
  e : Nat
def HR.bad (e : Nat) : HR := ⟨0, 0, 0, 0, false, e⟩
def HR.val (r : HR) : Value := .agg #[.int .i64 (r.m : Nat), .int .i64 (r.i : Nat), .int .u64 (r.n : Nat), .int .i64 (r.u : Nat), .bool r.s]
def hrd : List Nat → HR
  | [] => .bad 20
  | x :: r =>
    if 27 < x % 32 then (if x % 32 = 31 ∧ x / 32 ≠ 0 ∧ x / 32 ≠ 1 ∧ x / 32 ≠ 6 then ⟨x / 32, 31, 0, 1, true, 0⟩ else .bad 21)
    else if x % 32 < 24 then ⟨x / 32, x % 32, x % 32, 1, true, 0⟩
    else if r.length < hwide (x % 32) then .bad 20
    else if x / 32 = 7 ∧ x % 32 = 24 ∧ bnum 0 (r.take (hwide (x % 32))) < 32 then .bad 21
    else ⟨x / 32, x % 32, bnum 0 (r.take (hwide (x % 32))), 1 + hwide (x % 32), decide (x / 32 = 7) || decide (1 + hwide (x % 32) = hsize (bnum 0 (r.take (hwide (x % 32))))), 0⟩

theorem hinfo_cases (n : Nat) : (n < 24 ∧ hinfo n = n) ∨ (24 ≤ n ∧ n < 256 ∧ hinfo n = 24) ∨ (256 ≤ n ∧ n < 65536 ∧ hinfo n = 25) ∨ (65536 ≤ n ∧ n < 4294967296 ∧ hinfo n = 26) ∨ (4294967296 ≤ n ∧ hinfo n = 27) := by
  unfold hinfo
  by_cases h1 : n < 24
  · rw [if_pos h1]; omega
  · rw [if_neg h1]
    by_cases h2 : n < 256
    · rw [if_pos h2]; omega
    · rw [if_neg h2]
      by_cases h3 : n < 65536
      · rw [if_pos h3]; omega
      · rw [if_neg h3]
        by_cases h4 : n < 4294967296
        · rw [if_pos h4]; omega
        · rw [if_neg h4]; omega
theorem hwide_small {i : Nat} (h : i < 24) : hwide i = 0 := by
  unfold hwide
  rw [if_neg (by omega), if_neg (by omega), if_neg (by omega), if_neg (by omega)]
theorem be_len : ∀ k n, (be k n).length = k
  | 0, _ => rfl
  | k + 1, n => by simp [be, be_len k n]
theorem be_byte : ∀ k n x, x ∈ be k n → x < 256
  | 0, _, _, h => by simp [be] at h
  | k + 1, n, x, h => by
    rcases List.mem_cons.1 h with h | h
    · subst h; exact Nat.mod_lt _ (by decide)
    · exact be_byte k n x h
theorem hinfo_lt (n : Nat) : hinfo n < 28 := by unfold hinfo; repeat (first | omega | split)
theorem hwide_le (i : Nat) : hwide i ≤ 8 := by unfold hwide; repeat (first | omega | split)
theorem hl_len (m n : Nat) : (hl m n).length = hsize n := by simp [hl, hsize, be_len]; omega
theorem hl_byte (m n : Nat) (h : m ≤ 7) : ∀ x ∈ hl m n, x < 256 := by
  intro x hx
  rcases List.mem_cons.1 hx with hx | hx
  · have := hinfo_lt n; omega
  · exact be_byte _ _ _ hx
theorem hlay_len (m : Int) (n : Nat) : (hlay m n).length ≤ 9 := by
  unfold hlay
  split
  · rw [hl_len]; have := hwide_le (hinfo n); unfold hsize; omega
  · simp
theorem hrd_info {x : Nat} {r : List Nat} (h : 27 < x % 32) (h' : ¬ (x % 32 = 31 ∧ x / 32 ≠ 0 ∧ x / 32 ≠ 1 ∧ x / 32 ≠ 6)) : hrd (x :: r) = .bad 21 := by
  simp only [hrd]
  rw [if_pos h, if_neg h']
theorem hrd_end {x : Nat} {r : List Nat} (h : x % 32 = 31) (h' : x / 32 ≠ 0 ∧ x / 32 ≠ 1 ∧ x / 32 ≠ 6) : hrd (x :: r) = ⟨x / 32, 31, 0, 1, true, 0⟩ := by
  simp only [hrd]
  rw [if_pos (by omega), if_pos ⟨h, h'⟩]
theorem hrd_small {x : Nat} {r : List Nat} (h : x % 32 < 24) : hrd (x :: r) = ⟨x / 32, x % 32, x % 32, 1, true, 0⟩ := by
  simp only [hrd]
  rw [if_neg (by omega), if_pos h]
theorem hrd_short {x : Nat} {r : List Nat} (h0 : 24 ≤ x % 32) (h1 : x % 32 ≤ 27) (h : r.length < hwide (x % 32)) : hrd (x :: r) = .bad 20 := by
  simp only [hrd]
  rw [if_neg (by omega), if_neg (by omega), if_pos h]
theorem hrd_low {x : Nat} {r : List Nat} (h1 : x % 32 = 24) (h : ¬ r.length < hwide (x % 32)) (hm : x / 32 = 7) (hn : bnum 0 (r.take (hwide (x % 32))) < 32) : hrd (x :: r) = .bad 21 := by
  simp only [hrd]
  rw [if_neg (by omega), if_neg (by omega), if_neg h, if_pos ⟨hm, h1, hn⟩]
theorem hrd_long {x : Nat} {r : List Nat} (h0 : 24 ≤ x % 32) (h1 : x % 32 ≤ 27) (h : ¬ r.length < hwide (x % 32)) (hn : ¬ (x / 32 = 7 ∧ x % 32 = 24 ∧ bnum 0 (r.take (hwide (x % 32))) < 32)) :
    hrd (x :: r) = ⟨x / 32, x % 32, bnum 0 (r.take (hwide (x % 32))), 1 + hwide (x % 32), decide (x / 32 = 7) || decide (1 + hwide (x % 32) = hsize (bnum 0 (r.take (hwide (x % 32))))), 0⟩ := by
  simp only [hrd]
  rw [if_neg (by omega), if_neg (by omega), if_neg h, if_neg hn]
theorem bnum_lt : ∀ (l : List Nat) (a : Nat), (∀ x ∈ l, x < 256) → bnum a l < (a + 1) * 256 ^ l.length
  | [], a, _ => by simp [bnum]
  | y :: l, a, h => by
    simp only [bnum, List.length_cons]
    have h1 := bnum_lt l (256 * a + y) (fun x hx => h x (List.mem_cons_of_mem _ hx))
    have h2 := h y (by simp)
    have h3 : (256 * a + y + 1) * 256 ^ l.length ≤ (256 * (a + 1)) * 256 ^ l.length := Nat.mul_le_mul_right _ (by omega)
    have h4 : (a + 1) * 256 ^ (l.length + 1) = (256 * (a + 1)) * 256 ^ l.length := by rw [Nat.pow_succ]; simp only [Nat.mul_assoc, Nat.mul_comm]
    omega
theorem take_snoc (l : List Nat) (j : Nat) (h : j < l.length) : l.take (j + 1) = l.take j ++ [l.getD j 0] := by
  rw [List.take_succ_eq_append_getElem h]
  simp [List.getD, h]
end
section
open Go.RowKit Go
/-- The number that digits make, the first one the highest. -/
def valB (b : Nat) (l : List Nat) : Nat := l.foldl (fun r d => r * b + d) 0
theorem foldl_shift (b : Nat) : ∀ (l : List Nat) (r : Nat), l.foldl (fun r d => r * b + d) r = r * b ^ l.length + valB b l
  | [], r => by simp [valB]
  | d :: l, r => by
    have h1 := foldl_shift b l (r * b + d)
    have h2 := foldl_shift b l (0 * b + d)
    simp only [List.foldl_cons, List.length_cons, valB] at *
    rw [h1, h2, Nat.zero_mul, Nat.zero_add, Nat.pow_succ, Nat.add_mul]
    have e : r * b * b ^ l.length = r * (b ^ l.length * b) := by rw [Nat.mul_assoc, Nat.mul_comm b]
    omega
theorem valB_cons (b d : Nat) (l : List Nat) : valB b (d :: l) = d * b ^ l.length + valB b l := by
  have h := foldl_shift b l (0 * b + d)
  unfold valB at *
  rw [List.foldl_cons, h, Nat.zero_mul, Nat.zero_add]
theorem valB_lt {b : Nat} (hb : 0 < b) : ∀ {l : List Nat}, (∀ d ∈ l, d < b) → valB b l < b ^ l.length
  | [], _ => by simp [valB]
  | d :: l, h => by
    have ih := valB_lt hb (l := l) (fun x hx => h x (List.mem_cons_of_mem _ hx))
    have hd := h d (by simp)
    rw [valB_cons, List.length_cons, Nat.pow_succ]
    have : (d + 1) * b ^ l.length ≤ b * b ^ l.length := Nat.mul_le_mul_right _ hd
    rw [Nat.add_mul, Nat.one_mul] at this
    rw [Nat.mul_comm (b ^ l.length) b]
    omega
/-- A number's digits, the highest first, none of 0. -/
def digB (b n : Nat) : List Nat := if _h : n = 0 ∨ b < 2 then [] else digB b (n / b) ++ [n % b]
termination_by n
decreasing_by exact Nat.div_lt_self (by omega) (by omega)
/-- Digits of one base in another one: a 0 for each 0 at the front, then the number. -/
def conv (a b : Nat) (l : List Nat) : List Nat := List.replicate (l.takeWhile (· == 0)).length 0 ++ digB b (valB a (l.dropWhile (· == 0)))
/-- A number's lowest w bits, the highest first. -/
def bitsW (w x : Nat) : List Nat := (List.range w).map fun k => x / 2 ^ (w - 1 - k) % 2
theorem bitsW_succ (w x : Nat) : bitsW (w + 1) x = x / 2 ^ w % 2 :: bitsW w x := by
  unfold bitsW
  rw [List.range_succ_eq_map, List.map_cons, List.map_map]
  congr 1
  refine List.map_congr_left fun k hk => ?_
  have := List.mem_range.1 hk
  simp only [Function.comp]
  congr 3
  omega
theorem bitsW_valB : ∀ (l : List Nat), (∀ d ∈ l, d < 2) → bitsW l.length (valB 2 l) = l
  | [], _ => rfl
  | d :: l, h => by
    have hd := h d (by simp)
    have hl : ∀ x ∈ l, x < 2 := fun x hx => h x (List.mem_cons_of_mem _ hx)
    have hv := valB_lt (b := 2) (by decide) hl
    rw [List.length_cons, bitsW_succ, valB_cons]
    have e1 : (d * 2 ^ l.length + valB 2 l) / 2 ^ l.length % 2 = d := by
      rw [Nat.mul_comm, Nat.mul_add_div (Nat.pow_pos (by decide)), Nat.div_eq_of_lt hv, Nat.add_zero, Nat.mod_eq_of_lt hd]
    have e2 : bitsW l.length (d * 2 ^ l.length + valB 2 l) = bitsW l.length (valB 2 l) := by
      unfold bitsW
      refine List.map_congr_left fun k hk => ?_
      have hk := List.mem_range.1 hk
      have e3 : d * 2 ^ l.length = 2 ^ (l.length - 1 - k) * (2 * (d * 2 ^ k)) := by
        have : 2 ^ l.length = 2 ^ (l.length - 1 - k) * (2 * 2 ^ k) := by
          rw [← Nat.pow_succ', ← Nat.pow_add]
          congr 1
          omega
        rw [this]
        ac_rfl
      rw [e3, Nat.mul_add_div (Nat.pow_pos (by decide)), Nat.add_mod, Nat.mul_mod_right, Nat.zero_add, Nat.mod_mod]
    rw [e1, e2, bitsW_valB l hl]
end
section
open Go.RowKit
/-! ### SHA-256, plainly -/
def kk : List Nat := [0x428a2f98, 0x71374491, 0xb5c0fbcf, 0xe9b5dba5, 0x3956c25b, 0x59f111f1, 0x923f82a4, 0xab1c5ed5,
  0xd807aa98, 0x12835b01, 0x243185be, 0x550c7dc3, 0x72be5d74, 0x80deb1fe, 0x9bdc06a7, 0xc19bf174,
  0xe49b69c1, 0xefbe4786, 0x0fc19dc6, 0x240ca1cc, 0x2de92c6f, 0x4a7484aa, 0x5cb0a9dc, 0x76f988da,
  0x983e5152, 0xa831c66d, 0xb00327c8, 0xbf597fc7, 0xc6e00bf3, 0xd5a79147, 0x06ca6351, 0x14292967,
  0x27b70a85, 0x2e1b2138, 0x4d2c6dfc, 0x53380d13, 0x650a7354, 0x766a0abb, 0x81c2c92e, 0x92722c85,
  0xa2bfe8a1, 0xa81a664b, 0xc24b8b70, 0xc76c51a3, 0xd192e819, 0xd6990624, 0xf40e3585, 0x106aa070,
  0x19a4c116, 0x1e376c08, 0x2748774c, 0x34b0bcb5, 0x391c0cb3, 0x4ed8aa4a, 0x5b9cca4f, 0x682e6ff3,
  0x748f82ee, 0x78a5636f, 0x84c87814, 0x8cc70208, 0x90befffa, 0xa4506ceb, 0xbef9a3f7, 0xc67178f2]
def hh : List Nat := [0x6a09e667, 0xbb67ae85, 0x3c6ef372, 0xa54ff53a, 0x510e527f, 0x9b05688c, 0x1f83d9ab, 0x5be0cd19]
end
section
open Go.RowKit

end
section
open Go.RowKit
/-- Words as cells. -/
def wv (l : List Nat) : List Value := l.map fun x => Value.int .u32 ((x : Nat) : Int)
theorem results_one {fn : Func} {p : Tmp} {ty : TypeId} (h : fn.results = #[.cell p ty]) (tmps : Array Value) (P : Program) (w : World) :
    (results fn tmps).run P w = ((asAddr (tmps.getD p undef)).run P w).andThen fun a w₁ => (loadVar ty a).run P w₁ := by
  simp only [results, h]
  simp [Sem.run_bind, Result.andThen]
end
section
open Go.RowKit

end
section
open Go.RowKit
theorem eight (l : List Nat) (h : l.length = 8) : ∃ a b c d e f g i, l = [a, b, c, d, e, f, g, i] := by
  match l, h with
  | [a, b, c, d, e, f, g, i], _ => exact ⟨a, b, c, d, e, f, g, i, rfl⟩
end
section
open Go.RowKit
/-! ### The landed digest: words -/
end
section
open Go.RowKit
/-! ### Eq -/
end
section
open Go.RowKit
/-- 'append(l, x...)' at bytes, as one step of a region that draws its order. -/
theorem step_append_bsl {ops : Array Oper} {o : Oper} {a : Act} {w : World} {K : Act → World → Prop} {Q : Exit → Act → World → Prop} {E : Prop} (hgd : o.guard = none) (s x : Operand)
    (ho : o.op = .call { callee := .builtin .append, args := #[s, x], argTypes := #[23, 23] }) (B : Nat) (v : Value) (n : Nat) (ds : List Nat) (hs : a.eval s = v) (hown : w.ownsRow B 5 1 v n (bv ds))
    (u : Value) (xs : List Nat) (hx : a.eval x = u) (hsl : BSl w u xs) (hlen : n + xs.length ≤ 140737488355328) (hbase : B ≤ w.heap.size)
    (hK : ∀ v' w', w'.ownsRow B 5 1 v' (n + xs.length) (bv (ds ++ xs)) → w.grownBy w' v.ownBlock → K (a.put o.dst v') w') :
    if Region.wanted o (yielded ops a.tmps) = true then Oper.wp Tryz.prog o a w K Q else E := by
  have hw : Region.wanted o (yielded ops a.tmps) = true := by simp [Region.wanted, hgd]
  rw [if_pos hw]
  obtain ⟨i5, hi, hz0, hz1, hz2⟩ := info5_ex
  obtain ⟨⟨ad, cap, rfl, hn, hc⟩, hmax, hb⟩ := id hsl
  cases ad with
  | none =>
    rcases hc with rfl | ⟨_, _, e, _⟩
    · have := hn.2 rfl
      subst this
      have hrun := run_append_owned_none (P := Tryz.prog) (w := w) B 23 o.type 5 i5 1 Tryz.underlying23 hi v n (bv ds) hown
      unfold Oper.wp
      simp only [List.length_nil] at hx
      simp [execOp, ho, resolve, invoke, builtin, hs, hx, hrun, Result.andThen]
      exact hK v w (by simpa using hown) ⟨rfl, rfl, rfl, Nat.le_refl _, fun _ _ _ => rfl⟩
    · cases e
  | some ad =>
    obtain ⟨v', w', hrun, r1, r2, _⟩ := run_append_own (P := Tryz.prog) w B 23 o.type 5 i5 (.int .u8 0) 1 1 Tryz.underlying23 hi hz0 hz1 hz2 rfl (by decide) v n (bv ds) hown ad xs.length cap (bv xs) (by simp [bv]) hsl.src.2 (bv_one xs) (by unfold maxLen; omega) (by omega) hbase
    unfold Oper.wp
    simp [execOp, ho, resolve, invoke, builtin, hs, hx, hrun, Result.andThen]
    exact hK v' w' (by rw [bv_app]; exact r1) r2
end
section
open Go.RowKit
theorem pow_int8 (k : Nat) : (2 : Int) ^ (8 * k) = ((256 ^ k : Nat) : Int) := by
  rw [Int.pow_mul, Int.natCast_pow]; rfl
end
section
open Go.RowKit
/-! ### Whole rows -/
theorem row_same {w : World} {g : Nat} {old cs : Array Value} {t : TypeId} (h : w.heap[g]? = some (.cells old t (0, 0))) : (w.setRow g cs).heap[g]? = some (.cells cs t (0, 0)) := by
  simp [World.setRow, Array.getElem?_modify, h]
theorem row_other {w : World} {g k : Nat} {cs : Array Value} (h : k ≠ g) : (w.setRow g cs).heap[k]? = w.heap[k]? := by
  have h' : ¬ g = k := fun e => h e.symm
  simp [World.setRow, Array.getElem?_modify, h']
theorem row_kp (w : World) (g : Nat) (cs : Array Value) : Kp (fun q => q = g) w (w.setRow g cs) :=
  ⟨rfl, rfl, rfl, by simp [World.setRow], fun _ _ h => row_other h⟩
theorem wpList_storeRow {ops : Array Oper} {rest : List Oper} {o : Oper} {a : Act} {Q : Exit → Act → World → Prop} {w : World} {T : TypeId} {p x : Operand} (hgd : o.guard = none) (ho : o.op = .store T p x) (g : Nat) (old cs : Array Value) (t : TypeId)
    (hp : a.eval p = .pointer (some ⟨g, 0, none⟩)) (hx : a.eval x = .agg cs) (hg : w.heap[g]? = some (.cells old t (0, 0))) (hi : (Tryz.prog.info? T).map (·.size) = some cs.size) (hn : old.size = cs.size) (h1 : cs.all (·.oneCell') = true)
    (h : wpList Tryz.prog ops Q rest (a.put o.dst undef) (w.setRow g cs)) : wpList Tryz.prog ops Q (o :: rest) a w := by
  refine wpList_plain hgd fun K hK => ?_
  unfold Oper.wp execOp
  have hr : (Instr.storeAt T (.pointer (some ⟨g, 0, none⟩)) (.agg cs)).run Tryz.prog w = .ok () (w.setRow g cs) := by
    simp only [Instr.storeAt, Instr.sureAddr, Sem.run_bind, Sem.run_pure, Result.andThen]
    exact run_storeVar_row (P := Tryz.prog) w g t T old cs hg hi hn h1
  simp only [ho, Sem.run_bind, hp, hx, hr, Result.andThen_ok]
  exact hK _ _ h
end
section
open Go.RowKit
/-! ### Eq -/
end
section
open Go.RowKit
theorem own_two (w : World) (x y : Nat) : (w.alloc (.cells #[.int .u8 ((x : Nat) : Int), .int .u8 ((y : Nat) : Int)] 5)).ownsRow w.heap.size 5 1 (.slice (some ⟨w.heap.size, 0, none⟩) 2 2) 2 (bv [x, y]) :=
  ⟨rfl, .inr ⟨w.heap.size, 2, _, rfl, Nat.le_refl _, heap_alloc_new w _, Nat.le_refl _, by decide, rfl, rfl⟩⟩
/-- What Lay of the document tells. -/
def dlay (h : Nat) (d : List Nat) : List Nat × Nat :=
  if h ≠ 18 ∧ h ≠ 0 then ([], 30) else if (h = 18 ∧ d.length ≠ 32) ∨ (h = 0 ∧ 64 < d.length) then ([], 31) else (h :: d.length :: d, 0)

set_option maxRecDepth 1000000 in
set_option maxHeartbeats 400000 in
theorem refDLay_any (w : World) (h : Nat) (v : Value) (d : List Nat) (hh : h < 18446744073709551616) (hsl : BSl w v d) :
    Calls Tryz.prog 129 #[.int .u64 (h : Nat), v] w fun e w' => ∃ v', e = .returned (.tuple #[v', .int .i64 ((dlay h d).2 : Nat)]) ∧ w'.ownsRow w.heap.size 5 1 v' (dlay h d).1.length (bv (dlay h d).1) ∧ Below w.heap.size w w' := by
  have HSL := hide hsl
  obtain ⟨⟨a, cap, rfl, hn, hc⟩, hmax, hb⟩ := hsl
  clear hn hc hb
  by_cases h18 : h = 18
  · subst h18
    by_cases hd : d.length = 32
    · have e : dlay 18 d = (18 :: d.length :: d, 0) := by simp [dlay, hd]
      rw [e]
      have hd' : ((d.length : Int) != 32) = false := bne_eq_false_iff_eq.2 (by omega)
      have hd64 : d.length ≤ 64 := by omega
      have HO := hide (own_two w 18 d.length)
      have HSA := hide (HSL.out.move (keep_alloc w (.cells #[.int .u8 ((18 : Nat) : Int), .int .u8 ((d.length : Nat) : Int)] 5)))
      clear hd e
      go_enter Tryz.func129, Tryz.ntmps129
      go_wp2_with (at_builtin; refine append_bsl rfl _ _ rfl w.heap.size _ 2 [18, d.length] rfl HO.out _ d rfl HSA.out ?b1 ?b2 ?_)
      case b1 => omega
      case b2 => simp
      intro v1 w1 ho1 hg1
      have hb1 : Below w.heap.size w w1 := ((Below.refl _ _).alloc (Nat.le_refl _) _).grown hg1 (by simp) (fun q hq => by simp [Value.ownBlock] at hq; omega)
      have HO1 := hide ho1
      have HB1 := hide hb1
      clear ho1 hb1 hg1
      go_wp2
      go_ret2
      refine ⟨_, rfl, ?_, HB1.out⟩
      have e2 : d.length + 1 + 1 = 2 + d.length := by omega
      rw [e2]
      exact HO1.out
    · have e : dlay 18 d = ([], 31) := by simp [dlay, hd]
      rw [e]
      have hd' : ((d.length : Int) != 32) = true := bne_iff_ne.2 (by omega)
      go_enter Tryz.func129, Tryz.ntmps129
      go_wp2
      go_ret2
      exact ⟨_, rfl, World.ownsRow_nil _ _ _ _, Below.refl _ _⟩
  · by_cases h0 : h = 0
    · subst h0
      by_cases hd : 64 < d.length
      · have e : dlay 0 d = ([], 31) := by simp [dlay, hd]
        rw [e]
        have hd' : (64 : Int) < (d.length : Int) := by omega
        go_enter Tryz.func129, Tryz.ntmps129
        go_wp2
        go_ret2
        exact ⟨_, rfl, World.ownsRow_nil _ _ _ _, Below.refl _ _⟩
      · have e : dlay 0 d = (0 :: d.length :: d, 0) := by simp [dlay, hd]
        rw [e]
        have hd' : ¬ (64 : Int) < (d.length : Int) := by omega
        have hd64 : d.length ≤ 64 := by omega
        have HO : Hid ((w.alloc (.cells #[.int .u8 0, .int .u8 ((d.length : Nat) : Int)] 5)).ownsRow w.heap.size 5 1 (.slice (some ⟨w.heap.size, 0, none⟩) 2 2) 2 (bv [0, d.length])) := own_two w 0 d.length
        have HSA := hide (HSL.out.move (keep_alloc w (.cells #[.int .u8 0, .int .u8 ((d.length : Nat) : Int)] 5)))
        clear hd e
        go_enter Tryz.func129, Tryz.ntmps129
        go_wp2_with (at_builtin; refine append_bsl rfl _ _ rfl w.heap.size _ 2 [0, d.length] rfl HO.out _ d rfl HSA.out ?b1 ?b2 ?_)
        case b1 => omega
        intro v1 w1 ho1 hg1
        have hb1 : Below w.heap.size w w1 := ((Below.refl _ _).alloc (Nat.le_refl _) _).grown hg1 (by simp) (fun q hq => by simp [Value.ownBlock] at hq; omega)
        have HO1 := hide ho1
        have HB1 := hide hb1
        clear ho1 hb1 hg1
        go_wp2
        go_ret2
        refine ⟨_, rfl, ?_, HB1.out⟩
        have e2 : d.length + 1 + 1 = 2 + d.length := by omega
        rw [e2]
        exact HO1.out
    · have e : dlay h d = ([], 30) := by simp [dlay, h18, h0]
      rw [e]
      have g1 : ((h : Int) != 18) = true := bne_iff_ne.2 (by omega)
      have g2 : ((h : Int) != 0) = true := bne_iff_ne.2 (by omega)
      go_enter Tryz.func129, Tryz.ntmps129
      go_wp2
      go_ret2
      exact ⟨_, rfl, World.ownsRow_nil _ _ _ _, Below.refl _ _⟩
end
section
open Go.RowKit
def digs : Nat → Nat → List Nat
  | 0, _ => []
  | f + 1, n => if n < 128 then [n] else (n % 128 + 128) :: digs f (n / 128)

theorem digs_small {f n : Nat} (h : n < 128) : digs (f + 1) n = [n] := by simp [digs, h]
theorem digs_big {f n : Nat} (h : 128 ≤ n) : digs (f + 1) n = (n % 128 + 128) :: digs f (n / 128) := by
  have : ¬ n < 128 := by omega
  simp [digs, this]
/-- What a step of the loop keeps: the number is 128 or more, so there is fuel for another. -/
theorem fuel_down {f n : Nat} (h : 128 ≤ n) (hf : n < 128 ^ (f + 1)) : ∃ g, f = g + 1 ∧ n / 128 < 128 ^ (g + 1) := by
  match f, hf with
  | 0, hf => simp at hf; omega
  | g + 1, hf => exact ⟨g, rfl, by rw [Nat.pow_succ] at hf; exact Nat.div_lt_of_lt_mul (by omega)⟩
theorem digs_len : ∀ f n, (digs f n).length ≤ f
  | 0, _ => by simp [digs]
  | f + 1, n => by
    unfold digs; split
    · simp
    · have := digs_len f (n / 128); simp; omega
end
section
open Go.RowKit
/-! ### Plain -/
/-- What Read tells: k bytes have gone by, m is what they come to. -/
def rd : Nat → Nat → List Nat → Nat × Nat × Nat
  | k, _, [] => if k = 9 then (0, 0, 11) else (0, 0, 10)
  | k, m, x :: r => if k = 9 then (0, 0, 11) else if 128 ≤ x then rd (k + 1) (m + x % 128 * 128 ^ k) r else if x = 0 ∧ 0 < k then (0, 0, 12) else (m + x % 128 * 128 ^ k, k + 1, 0)

/-! ### The walk -/
end
section
open Go.RowKit
/-- What Number of the document tells. -/
def dnum (xs : List Nat) : Nat × Nat × Nat := if (rd 0 0 xs).2.2 = 0 then rd 0 0 xs else (0, 0, if (rd 0 0 xs).2.2 = 10 then 32 else 33)
end
section
open Go.RowKit
/-- What Read of the document tells. -/
def dread (xs : List Nat) : Nat × List Nat × Nat × Nat :=
  if (dnum xs).2.2 ≠ 0 then (0, [], 0, (dnum xs).2.2)
  else if (dnum (xs.drop (dnum xs).2.1)).2.2 ≠ 0 then (0, [], 0, (dnum (xs.drop (dnum xs).2.1)).2.2)
  else if (dnum xs).1 ≠ 18 ∧ (dnum xs).1 ≠ 0 then (0, [], 0, 30)
  else if ((dnum xs).1 = 18 ∧ (dnum (xs.drop (dnum xs).2.1)).1 ≠ 32) ∨ ((dnum xs).1 = 0 ∧ 64 < (dnum (xs.drop (dnum xs).2.1)).1) then (0, [], 0, 31)
  else if xs.length - ((dnum xs).2.1 + (dnum (xs.drop (dnum xs).2.1)).2.1) < (dnum (xs.drop (dnum xs).2.1)).1 then (0, [], 0, 32)
  else ((dnum xs).1, (xs.drop ((dnum xs).2.1 + (dnum (xs.drop (dnum xs).2.1)).2.1)).take (dnum (xs.drop (dnum xs).2.1)).1, (dnum xs).2.1 + (dnum (xs.drop (dnum xs).2.1)).2.1 + (dnum (xs.drop (dnum xs).2.1)).1, 0)

theorem dread_one {xs : List Nat} (h : (dnum xs).2.2 ≠ 0) : dread xs = (0, [], 0, (dnum xs).2.2) := by unfold dread; rw [if_pos h]
theorem dread_rest {xs : List Nat} {hn u : Nat} (h : dnum xs = (hn, u, 0)) : 
    ((dnum (xs.drop u)).2.2 ≠ 0 → dread xs = (0, [], 0, (dnum (xs.drop u)).2.2)) ∧
    ∀ n m, dnum (xs.drop u) = (n, m, 0) →
      (hn ≠ 18 ∧ hn ≠ 0 → dread xs = (0, [], 0, 30)) ∧ (¬ (hn ≠ 18 ∧ hn ≠ 0) →
      ((hn = 18 ∧ n ≠ 32) ∨ (hn = 0 ∧ 64 < n) → dread xs = (0, [], 0, 31)) ∧ (¬ ((hn = 18 ∧ n ≠ 32) ∨ (hn = 0 ∧ 64 < n)) →
      (xs.length - (u + m) < n → dread xs = (0, [], 0, 32)) ∧ (¬ xs.length - (u + m) < n → dread xs = (hn, (xs.drop (u + m)).take n, u + m + n, 0)))) := by
  have e1 : (dnum xs).1 = hn := by rw [h]
  have e2 : (dnum xs).2.1 = u := by rw [h]
  have e3 : ¬ (dnum xs).2.2 ≠ 0 := by rw [h]; simp
  unfold dread
  rw [if_neg e3, e1, e2]
  refine ⟨fun hb => by rw [if_pos hb], fun n m hq => ?_⟩
  have q1 : (dnum (xs.drop u)).1 = n := by rw [hq]
  have q2 : (dnum (xs.drop u)).2.1 = m := by rw [hq]
  have q3 : ¬ (dnum (xs.drop u)).2.2 ≠ 0 := by rw [hq]; simp
  rw [if_neg q3, q1, q2]
  refine ⟨fun h1 => by rw [if_pos h1], fun h1 => ?_⟩
  rw [if_neg h1]
  refine ⟨fun h2 => by rw [if_pos h2], fun h2 => ?_⟩
  rw [if_neg h2]
  exact ⟨fun h3 => by rw [if_pos h3], fun h3 => by rw [if_neg h3]⟩
/-- The bytes from a place on, where something is left behind it. -/
theorem BSl.drop {w : World} {b off n cap : Nat} {xs : List Nat} (h : BSl w (.slice (some ⟨b, off, none⟩) n cap) xs) (k : Nat) (hk : k ≤ xs.length) : BSl w (.slice (some ⟨b, off + k, none⟩) (n - k) (cap - k)) (xs.drop k) := by
  obtain ⟨⟨a, cap', hv, hn, hc⟩, hmax, hby⟩ := h
  injection hv with h1 h2 h3
  subst h1
  subst h3
  subst h2
  refine ⟨⟨_, cap - k, by rw [List.length_drop], ⟨by rw [List.length_drop]; omega, fun h => by cases h⟩, ?_⟩, by rw [List.length_drop]; omega, fun z hz => hby z (List.mem_of_mem_drop hz)⟩
  rcases hc with hc | ⟨b', off', e, hc⟩
  · exact .inl (by subst hc; simp)
  · injection e with e
    injection e with e1 e2 e3
    subst e1
    subst e2
    refine .inr ⟨b, off + k, rfl, fun j hj => ?_⟩
    rw [List.length_drop] at hj
    have hq := hc (k + j) (by omega)
    have e : off + (k + j) = off + k + j := by omega
    rw [e] at hq
    rw [hq]
    simp [List.getD]

theorem results_four {fn : Func} {p q r s : Tmp} (h : fn.results = #[.tmp p, .tmp q, .tmp r, .tmp s]) (tmps : Array Value) (P : Program) (w : World) :
    (results fn tmps).run P w = .ok (.tuple #[tmps.getD p undef, tmps.getD q undef, tmps.getD r undef, tmps.getD s undef]) w := by
  simp only [results, h]
  simp
end
section
open Go.RowKit

end
section
open Go.RowKit

end
section
open Go.RowKit
/-! ### A hash under way -/
/-- The cells of a hash. -/
def hc (s r : List Nat) (c : Nat) : List Value := wv s ++ (bv r ++ [.int .u64 ((c : Nat) : Int)])
/-- What has not gone into the state. -/
def tl (xs : List Nat) : List Nat := xs.drop (64 * (xs.length / 64))
end
section
open Go.RowKit

end
section
open Go.RowKit

end
section
open Go.RowKit

end
section
open Go.RowKit
/-- The worlds that hold what w holds, and maybe more. -/
structure Ext (w : World) where
  w' : World
  h : Below w.heap.size w w'
instance (w : World) : Nonempty (Ext w) := ⟨⟨w, Below.refl _ _⟩⟩
theorem Ext.cell {w : World} {p : Addr} {v : Value} (h : w.cell? p = some v) (t : Ext w) : t.w'.cell? p = some v := keep_below t.h _ _ h
/-- A region that draws its order, whose operations read and whose callees read or make memory: one walk, in the text's order. -/
theorem region_ext {id : Nat} {Q : Exit → Act → World → Prop} {a : Act} {w : World} {l : List Oper} (hm : Tryz.prog.follows .mixedOrders = true) (hB : Region.lexB .any l.toArray = true)
    (h : wpQuiet Tryz.prog l.toArray (fun w' => ∃ t : Ext w, w' = t.w') (fun a' => ∀ w', (∃ t : Ext w, w' = t.w') → Q .normal a' w') l a) : (Code.region id l.toArray true).wp Tryz.prog Q a w :=
  wp_region_quiet (C := fun w' => ∃ t : Ext w, w' = t.w') hm hB ⟨⟨w.drew, (Below.refl _ _).drew⟩, rfl⟩ (by simpa using h)
/-- A callee that makes memory. -/
theorem Calls.ext_below {f : FuncId} {args : Array Value} {w : World} {t : Ext w} {v : Value} (h : Calls Tryz.prog f args t.w' fun e w' => e = .returned v ∧ Below t.w'.heap.size t.w' w') : Calls Tryz.prog f args t.w' fun e w'' => e = .returned v ∧ ∃ t' : Ext w, w'' = t'.w' :=
  h.mono fun _ w' ⟨he, hb⟩ => ⟨he, ⟨w', t.h.trans (hb.mono t.h.size)⟩, rfl⟩
end
section
open Go.RowKit Go
section
variable {P : Program} {ops : Array Oper} {md : Region.Mode} {C : World → Prop}

end
end
section
open Go.RowKit Go
/-! ### Parts of a block: by value, copied, cleared -/
theorem addr_add (g o j : Nat) : (⟨g, o, none⟩ : Addr).add j = ⟨g, o + j, none⟩ := by unfold Addr.add; split <;> simp_all
theorem part_store {w : World} {T t : TypeId} (g off : Nat) (cur cs : List Value) (hg : w.heap[g]? = some (.cells cur.toArray t (0, 0))) (hi : (Tryz.prog.info? T).map (·.size) = some cs.length) (hf : off + cs.length ≤ cur.length) (h1 : ∀ v ∈ cs, v.oneCell' = true) :
    (Instr.storeAt T (.pointer (some ⟨g, off, none⟩)) (.agg cs.toArray)).run Tryz.prog w = .ok () (w.setRow g (splice cur off cs).toArray) := by
  have hst := run_storeCells_at (P := Tryz.prog) g off t cs 0 cur.toArray w hg (by simpa using hf) h1
  simp only [Nat.add_zero, List.append_assoc] at hst
  simp only [Instr.storeAt, Instr.sureAddr, Sem.run_bind, Sem.run_pure, Result.andThen]
  cases hq : Tryz.prog.info? T with
  | none => simp [hq] at hi
  | some i =>
    have hs : cs.length = i.size := by simp [hq] at hi; omega
    simp [storeVar, sizeOf, typeInfo, hq, Value.cells, hs, hst, splice]
theorem wpList_storePart {ops : Array Oper} {rest : List Oper} {o : Oper} {a : Act} {Q : Exit → Act → World → Prop} {w : World} {T : TypeId} {p x : Operand} (hgd : o.guard = none) (ho : o.op = .store T p x) (g off : Nat) (cur cs : List Value) (t : TypeId)
    (hp : a.eval p = .pointer (some ⟨g, off, none⟩)) (hx : a.eval x = .agg cs.toArray) (hg : w.heap[g]? = some (.cells cur.toArray t (0, 0))) (hi : (Tryz.prog.info? T).map (·.size) = some cs.length) (hf : off + cs.length ≤ cur.length) (h1 : ∀ v ∈ cs, v.oneCell' = true)
    (h : ∀ w', Hid (w'.heap[g]? = some (.cells (splice cur off cs).toArray t (0, 0))) → Hid (Kp (fun q => q = g) w w') → wpList Tryz.prog ops Q rest (a.put o.dst undef) w') : wpList Tryz.prog ops Q (o :: rest) a w := by
  refine wpList_plain hgd fun K hK => ?_
  unfold Oper.wp execOp
  simp only [ho, Sem.run_bind, hp, hx, part_store g off cur cs hg hi hf h1, Result.andThen_ok]
  exact hK _ _ (h _ (row_same hg) (row_kp _ _ _))
end
section
open Go.RowKit Go
/-! ### The state over pieces -/
/-! ### The cells of a hash, by parts -/
end
section
open Go.RowKit Go

end
section
open Go.RowKit Go
theorem wpList_loadAll {ops : Array Oper} {rest : List Oper} {o : Oper} {a : Act} {Q : Exit → Act → World → Prop} {w : World} {T : TypeId} {p : Operand} (hgd : o.guard = none) (ho : o.op = .load T p) (g : Nat) (cs : Array Value) (t : TypeId) {fs : Array Field}
    (hp : a.eval p = .pointer (some ⟨g, 0, none⟩)) (hg : w.heap[g]? = some (.cells cs t (0, 0))) (hu : Tryz.prog.underlying T = some (.struct fs)) (hi : (Tryz.prog.info? T).map (·.size) = some cs.size)
    (h : wpList Tryz.prog ops Q rest (a.put o.dst (.agg cs)) w) : wpList Tryz.prog ops Q (o :: rest) a w := by
  refine wpList_plain hgd fun K hK => ?_
  unfold Oper.wp execOp
  have hr : (Instr.loadAt T (.pointer (some ⟨g, 0, none⟩))).run Tryz.prog w = .ok (.agg cs) w := by
    simp only [Instr.loadAt, Instr.sureAddr, Sem.run_bind, Sem.run_pure, Result.andThen]
    exact run_loadVar_row (P := Tryz.prog) w g t T cs (0, 0) _ hg hu rfl hi
  simp only [ho, Sem.run_bind, hp, hr, Result.andThen_ok]
  exact hK _ _ h
end
section
open Go.RowKit Go
theorem own_lt {w : World} {v : Value} {xs : List Nat} (h : BSl w v xs) (h0 : xs ≠ []) {k : Nat} (hk : v.ownBlock = some k) : k < w.heap.size := by
  obtain ⟨⟨a, cap, rfl, hn, hc⟩, hmax, hb⟩ := h
  rcases hc with hc | ⟨b, off, rfl, hc⟩
  · exact absurd hc h0
  · simp [Value.ownBlock] at hk
    subst hk
    have h1 := hc 0 (List.length_pos_iff.2 h0)
    by_cases hlt : b < w.heap.size
    · exact hlt
    · exfalso
      have e : w.heap[b]? = none := Array.getElem?_eq_none (by omega)
      simp [World.cell?, e] at h1
end
section
open Go.RowKit Go

end
section
open Go.RowKit
theorem lay_byte (m : Nat) (h : m < 9223372036854775808) : bits .or .u8 (bits .and .u64 (m : Int) 127 % 256) 128 = ((m % 128 + 128 : Nat) : Int) := by
  have h1 := u64_and_nat m 127 (by omega) (by omega)
  have h2 : m &&& 127 = m % 128 := Nat.and_two_pow_sub_one_eq_mod m 7
  rw [h2] at h1
  have h3 : bits .and .u64 (m : Int) 127 = ((m % 128 : Nat) : Int) := h1
  rw [h3]
  have e : ((m % 128 : Nat) : Int) % 256 = ((m % 128 : Nat) : Int) := by omega
  rw [e, u8_or128_right _ (by omega) (by omega)]
  omega
theorem pow_lid (f : Nat) (h : f ≤ 8) : 128 ^ (f + 1) ≤ 9223372036854775808 := by
  have h2 : 128 ^ (f + 1) ≤ 128 ^ 9 := Nat.pow_le_pow_right (by decide) (by omega)
  exact h2
theorem make9 (w : World) : (Instr.makeSlice 23 (.int .i64 0) (.int .i64 9)).run Tryz.prog w = .ok (.slice (some ⟨w.heap.size, 0, none⟩) 0 9) (w.alloc (.cells #[.int .u8 0, .int .u8 0, .int .u8 0, .int .u8 0, .int .u8 0, .int .u8 0, .int .u8 0, .int .u8 0, .int .u8 0] 5)) := by kernel_rfl

set_option maxRecDepth 1000000 in
set_option maxHeartbeats 400000 in
theorem vlay_any (n : Int) (w : World) (h0 : 0 ≤ n) (h1 : n < 9223372036854775808) :
    Calls Tryz.prog 153 #[.int .u64 n] w fun e w' => ∃ v, e = .returned (.tuple #[v, .int .i64 0]) ∧ w'.ownsRow w.heap.size 5 1 v (digs 9 n.toNat).length (bv (digs 9 n.toNat)) ∧ Below w.heap.size w w' := by
  have hmk := make9
  obtain ⟨i5, hi, hz0, hz1, hz2⟩ := info5_ex
  have HI : Hid (Tryz.prog.info? 5 = some i5) := hi
  have HZ0 : Hid (i5.zero = some (.int .u8 0)) := hz0
  have HZ1 : Hid (i5.size = 1) := hz1
  have HZ2 : Hid (i5.bytes = 1) := hz2
  clear hi hz0 hz1 hz2
  generalize hB : w.heap.size = B
  generalize hD : digs 9 n.toNat = D
  have HB := hide hB
  have HD := hide hD
  clear hB hD
  go_enter Tryz.func153, Tryz.ntmps153
  go_wp2
  refine scope_again 0 (fun a' w' => Below B w w' ∧ ∃ (m f k : Nat) (pre : List Nat) (v u5 u6 u7 u8 u9 u10 u11 u12 u13 u14 u15 u16 u17 u18 u19 u20 u21 u22 u23 : Value), a' = { tmps := #[.int .u64 m, undef, .slice none 0 0, .int .i64 0, v, u5, u6, u7, u8, u9, u10, u11, u12, u13, u14, u15, u16, u17, u18, u19, u20, u21, u22, u23], defers := [] } ∧ m < 128 ^ (f + 1) ∧ f + k = 8 ∧ w'.ownsRow B 5 1 v k (bv pre) ∧ pre ++ digs (f + 1) m = D) (fun a' _ => (intOf (a'.tmps.getD 0 undef)).toNat) rfl ?_ ?_
  · clear HD hmk h0 h1
    rintro a' w' ⟨hbel, m, f, k, pre, v, u5, u6, u7, u8, u9, u10, u11, u12, u13, u14, u15, u16, u17, u18, u19, u20, u21, u22, u23, rfl, hm, hfk, hown, hrel⟩
    have HREL := hide hrel
    have HFK := hide hfk
    have HM := hide hm
    clear hrel hfk hm
    by_cases hb : 128 ≤ m
    · have hb' : (128 : Int) ≤ (m : Int) := by omega
      have HBY := hide (lay_byte m (by have := pow_lid f (by have := HFK.out; omega); have := HM.out; omega))
      go_wp2_with (first | (at_builtin; refine wpList_append_own _ rfl _ _ 23 rfl B 5 i5 (.int .u8 0) 1 1 Tryz.underlying23 HI.out HZ0.out HZ1.out HZ2.out rfl (by decide) _ _ _ rfl (hown.alloc _) ⟨w'.heap.size, 0, none⟩ 1 1 [.int .u8 (bits .or .u8 (bits .and .u64 (m : Int) 127 % 256) 128)] rfl rfl ?c1 ?c2 ?c3 ?c4 ?c5 ?_))
      case c1 => exact cell_one_new _ _ _
      case c2 => intro u hu; simp at hu; subst hu; rfl
      case c3 => have := HFK.out; unfold maxLen; omega
      case c4 => have := HFK.out; omega
      case c5 => have := hbel.size; have := HB.out; simp; omega
      intro v' w1 hown' hgrow _
      go_wp2
      obtain ⟨g, hg, hlt⟩ := fuel_down hb HM.out
      go_step3
      have hbel' : Below B w w1 := (hbel.alloc (by have := hbel.size; have := HB.out; omega) _).grown hgrow (by have := hbel.size; have := HB.out; simp; omega) (fun q hq => (hown.lt q hq).1)
      rw [HBY.out] at hown'
      refine ⟨rfl, ⟨hbel', m / 128, g, k + 1, pre ++ [m % 128 + 128], v', _, _, _, _, _, _, _, _, _, _, _, _, _, _, _, _, _, _, _, rfl, hlt, by have := HFK.out; omega, by rw [bv_app]; exact hown', ?_⟩, ?_⟩
      · have h := HREL.out
        rw [digs_big hb, hg] at h
        rw [List.append_assoc]
        exact h
      · simp [intOf]; omega
    · have hb' : (m : Int) < 128 := by omega
      go_wp2_with (first | (at_builtin; refine wpList_append_own _ rfl _ _ 23 rfl B 5 i5 (.int .u8 0) 1 1 Tryz.underlying23 HI.out HZ0.out HZ1.out HZ2.out rfl (by decide) _ _ _ rfl (hown.alloc _) ⟨w'.heap.size, 0, none⟩ 1 1 [.int .u8 (m : Int)] rfl rfl ?c1 ?c2 ?c3 ?c4 ?c5 ?_))
      case c1 => exact cell_one_new _ _ _
      case c2 => intro u hu; simp at hu; subst hu; rfl
      case c3 => have := HFK.out; unfold maxLen; omega
      case c4 => have := HFK.out; omega
      case c5 => have := hbel.size; have := HB.out; simp; omega
      intro v' w1 hown' hgrow _
      go_wp2
      have hbel' : Below B w w1 := (hbel.alloc (by have := hbel.size; have := HB.out; omega) _).grown hgrow (by have := hbel.size; have := HB.out; simp; omega) (fun q hq => (hown.lt q hq).1)
      simp only [Exit.jump]
      go_ret2
      have h := HREL.out
      rw [digs_small (by omega)] at h
      refine ⟨v', rfl, ?_, hbel'⟩
      have hl : D.length = k + 1 := by
        have h1 := hown'.1
        rw [← h]
        simp [bv] at h1 ⊢
        omega
      rw [hl, ← h, bv_app]
      exact hown'
  · intro HR
    go_wp2
    go_step3
    rename_i hK
    refine hK _ _ (HR.out _ _ ⟨?_, n.toNat, 8, 0, [], _, _, _, _, _, _, _, _, _, _, _, _, _, _, _, _, _, _, _, _, by rw [Int.toNat_of_nonneg h0], ?_, rfl, ?_, by simpa using HD.out⟩)
    · exact (Below.refl _ _).alloc (by have := HB.out; omega) _
    · show n.toNat < 9223372036854775808
      omega
    · rw [← HB.out]
      exact World.ownsRow_made w _ 9 (Nat.le_refl _) (by decide) rfl
end
section
open Go.RowKit Go
/-- What fits tells. -/
def dfit (h n : Nat) : Nat := if h ≠ 18 ∧ h ≠ 0 then 30 else if (h = 18 ∧ n ≠ 32) ∨ (h = 0 ∧ 64 < n) then 31 else 0

set_option maxRecDepth 1000000 in
theorem fits_any (w : World) (h n : Nat) (hh : h < 18446744073709551616) (hn : n < 18446744073709551616) :
    Calls Tryz.prog 171 #[.int .u64 (h : Nat), .int .u64 (n : Nat)] w fun e w' => e = .returned (.int .i64 (dfit h n : Nat)) ∧ w' = w := by
  by_cases h18 : h = 18
  · subst h18
    by_cases hn32 : n = 32
    · subst hn32
      go_enter Tryz.func171, Tryz.ntmps171
      go_wp2_with fail
      go_ret
      exact ⟨rfl, rfl⟩
    · have e : dfit 18 n = 31 := by simp [dfit, hn32]
      rw [e]
      have g : ((n : Int) != 32) = true := bne_iff_ne.2 (by omega)
      go_enter Tryz.func171, Tryz.ntmps171
      go_wp2_with fail
      go_ret
      exact ⟨rfl, rfl⟩
  · by_cases h0 : h = 0
    · subst h0
      by_cases hn64 : 64 < n
      · have e : dfit 0 n = 31 := by simp [dfit, hn64]
        rw [e]
        have g : (64 : Int) < (n : Int) := by omega
        go_enter Tryz.func171, Tryz.ntmps171
        go_wp2_with fail
        go_ret
        exact ⟨rfl, rfl⟩
      · have e : dfit 0 n = 0 := by simp [dfit, hn64]
        rw [e]
        have g : ¬ (64 : Int) < (n : Int) := by omega
        go_enter Tryz.func171, Tryz.ntmps171
        go_wp2_with fail
        go_ret
        exact ⟨rfl, rfl⟩
    · have e : dfit h n = 30 := by simp [dfit, h18, h0]
      rw [e]
      have g1 : ((h : Int) != 18) = true := bne_iff_ne.2 (by omega)
      have g2 : ((h : Int) != 0) = true := bne_iff_ne.2 (by omega)
      go_enter Tryz.func171, Tryz.ntmps171
      go_wp2_with fail
      go_ret
      exact ⟨rfl, rfl⟩
end
section
open Go.RowKit
theorem own_below {w w' : World} {B base : Nat} {e : TypeId} {size : Nat} {v : Value} {n : Nat} {xs : List Value} (h : w.ownsRow base e size v n xs) (hb : Below w.heap.size w w') (_hB : B = B) : w'.ownsRow base e size v n xs :=
  (Kp.of_below (S := fun _ => False) hb).owns h (fun _ _ hf => hf)

/-- What Lend gave, with its marks behind it. -/
structure Lnt (w : World) (base g cap : Nat) (xs : List Nat) : Prop where
  own : w.ownsRow base 5 1 (.slice (some ⟨g, 0, none⟩) (xs.length + 70) cap) (xs.length + 70) (bv (xs ++ marks))
  byte : ∀ x ∈ xs, x < 256
  len : xs.length ≤ 140737488351232

theorem Lnt.bsl {w : World} {base g cap : Nat} {xs : List Nat} (h : Lnt w base g cap xs) : BSl w (.slice (some ⟨g, 0, none⟩) xs.length cap) xs := BSl.lent h.own rfl h.byte

theorem Lnt.cap {w : World} {base g cap : Nat} {xs : List Nat} (h : Lnt w base g cap xs) : xs.length + 70 ≤ cap := by
  rcases h.own.2 with ⟨hv, _⟩ | ⟨g', cap', cur, hv, _, _, h1, _⟩
  · cases hv
  · injection hv with _ _ e; subst e; exact h1

theorem Lnt.mark {w : World} {base g cap : Nat} {xs : List Nat} (h : Lnt w base g cap xs) (i : Nat) (hi : i < 70) : w.cell? ⟨g, xs.length + i, none⟩ = some (.int .u8 (165 - (i : Int))) := by
  have hl : xs.length + i < (xs ++ marks).length := by simp [marks]; omega
  have := (own_cell h.own (j := xs.length + i) (bv_get hl)).1
  rw [this]
  have e : (xs ++ marks).getD (xs.length + i) 0 = 165 - i := by
    simp [List.getD, marks, hi]
  rw [e]
  congr 2
  omega

set_option maxRecDepth 1000000 in
set_option maxHeartbeats 400000 in
theorem intact_any {w : World} {base g cap : Nat} {xs : List Nat} (h : Lnt w base g cap xs) (vb : Value) (hb : BSl w vb xs) :
    Calls Tryz.prog 11 #[.slice (some ⟨g, 0, none⟩) xs.length cap, vb] w fun e w' => e = .returned (.bool true) ∧ Kp (fun _ => False) w w' := by
  have HH := hide h
  have hcv1 := h.bsl.text
  have hcv2 := hb.text
  have hcap := h.cap
  have hlen := h.len
  have hcap' : (xs.length : Int) + 70 ≤ (cap : Int) := by omega
  have HLEN := hide hlen
  generalize nstr xs = S at *
  clear h hb hlen
  go_enter Tryz.func11, Tryz.ntmps11
  have hl2 : (xs.length : Int) ≤ 140737488351232 := by have := HLEN.out; omega
  go_wp2
  clear hcv1 hcv2
  go_loopw [6] (fun i wr => ∃ k : Nat, k ≤ 70 ∧ i = .int .i64 k ∧ Kp (fun _ => False) w wr) (fun i _ => 70 - (intOf i).toNat)
  case atStart => exact ⟨0, by omega, rfl, Kp.refl _ _⟩
  case round =>
    obtain ⟨k, hk, rfl, hkp⟩ := hrel
    have HK := hide hkp
    clear hkp
    by_cases hlt : k < 70
    · have hlt' : (k : Int) < 70 := by omega
      have hm := HK.out.cell (HH.out.mark k hlt) (by simp)
      have HMK : Hid (∀ W, Calls Tryz.prog 29 #[.int .i64 (k : Int)] W fun e w' => e = .returned (.int .u8 (165 - (k : Int))) ∧ w' = W) := fun W => mark_any (k : Int) W (by omega) hlt'
      have hb1 : (xs.length : Int) + (k : Int) < (xs.length : Int) + 70 := by omega
      have hwr : IntKind.i64.wrap ((xs.length : Int) + (k : Int)) = (xs.length : Int) + (k : Int) := by rw [IntKind.wrap_i64]; omega
      go_wp2
      go_quiet ((go_at_call 29; exact Calls.quiet_of_same (HMK.out _)))
      go_wp2
      go_roundw
      case rel => exact ⟨k + 1, by omega, by go_num, HK.out.drewN _⟩
      case measure => simp [intOf]; omega
    · have hlt' : ¬ (k : Int) < 70 := by omega
      go_wp2
      go_ret
      exact ⟨rfl, HK.out⟩

theorem into_set (xs ys : List Nat) (k : Nat) (hx : k < xs.length) (hy : k < ys.length) : (bv (ys.take k ++ xs.drop k ++ marks)).set k (.int .u8 ((ys.getD k 0 : Nat) : Int)) = bv (ys.take (k + 1) ++ xs.drop (k + 1) ++ marks) := by
  have e1 : ys.take k ++ xs.drop k ++ marks = ys.take k ++ (xs[k] :: (xs.drop (k + 1) ++ marks)) := by rw [List.drop_eq_getElem_cons hx, List.append_assoc, List.cons_append]
  have e2 : ys.take (k + 1) ++ xs.drop (k + 1) ++ marks = ys.take k ++ (ys[k] :: (xs.drop (k + 1) ++ marks)) := by rw [List.take_succ_eq_append_getElem hy]; simp only [List.append_assoc, List.cons_append, List.nil_append]
  have hl2 : (bv (ys.take k)).length = k := by rw [bv_len, List.length_take]; omega
  have hb : ∀ (z : Nat) (l : List Nat), bv (z :: l) = Value.int .u8 ((z : Nat) : Int) :: bv l := fun _ _ => rfl
  rw [e1, e2, bv_app, bv_app, List.set_append_right (h := by omega), hl2, Nat.sub_self, hb, hb, List.set_cons_zero]
  simp [List.getD, hy]

theorem Lnt.kp {w w' : World} {base g cap : Nat} {xs : List Nat} {S : Nat → Prop} (h : Lnt w base g cap xs) (hk : Kp S w w') (hs : ¬ S g) : Lnt w' base g cap xs :=
  ⟨hk.owns h.own (fun q hq => by simp [Value.ownBlock] at hq; subst hq; exact hs), h.byte, h.len⟩
end
end Go.Proofs.YtjlknnpgngaooaaGreatDoor
