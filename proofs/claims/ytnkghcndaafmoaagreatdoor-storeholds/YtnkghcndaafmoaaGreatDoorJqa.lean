import Derived.Test.YtnkghcndaafmoaaGreatDoorRows
import Derived.WalkKit
import Derived.WalkSpells
import Derived.WalkLawsBesides
import Derived.ScopeJumps
import Derived.Laws.BytesArg
import Derived.Laws.AppendOwnNone
import Derived.WalkSmall
import Derived.Sort.Defs
import Derived.Deep.LoopGhost
import Derived.Deep.DeepCutAuto
namespace Go.Proofs.YtnkghcndaafmoaaGreatDoor
section
open Go.RowKit
theorem LsA {α : Type _} (l : List α) (i : Nat) (a : α) : l.toArray.setIfInBounds i a = (l.set i a).toArray := List.setIfInBounds_toArray ..
theorem Ls0 {α : Type _} (a b : α) (l : List α) : (a :: l).set 0 b = b :: l := rfl
theorem LsS {α : Type _} (a b : α) (l : List α) (i : Nat) : (a :: l).set (i + 1) b = a :: l.set i b := rfl

theorem hide {p : Prop} (h : p) : Hid p := h

theorem scope_again {P : Program} {a : Act} {w : World} {Q : Exit → Act → World → Prop} {c rest : Code} (l : Nat) (J : Act → World → Prop) (μ : Act → World → Nat) (hf : findLabel c l = some (Code.skip.seq rest))
    (pass : ∀ a w, J a w → rest.wp P (Exit.jump l (fun a' w' => J a' w' ∧ μ a' w' < μ a w) Q) a w)
    (first : Hid (∀ a w, J a w → rest.wp P (Exit.jump l J Q) a w) → c.wp P (Exit.jump l J Q) a w) : (Code.scope c).wp P Q a w :=
  wp_scope_jumps l J μ hf (first (fun a w h => Code.wp_mono (fun e a' w' hq => by
    cases e with
    | goto l' => exact ⟨hq.1, hq.2.1⟩
    | normal => exact hq
    | exit id => exact hq
    | ret => exact hq
    | panic ch => exact hq
    | outgrown => exact hq) (pass a w h))) (fun a w h => wp_seq (wp_skip (pass a w h)))

def bv (l : List Nat) : List Value := l.map fun x => Value.int .u8 ((x : Nat) : Int)

theorem bv_app (a b : List Nat) : bv (a ++ b) = bv a ++ bv b := by simp [bv]

theorem Tryz.info5 : (Tryz.prog.info? 5).map (fun i => (i.zero, i.size, i.bytes)) = some (some (.int .u8 0), 1, 1) := by kernel_rfl

theorem info5_ex : ∃ i, Tryz.prog.info? 5 = some i ∧ i.zero = some (.int .u8 0) ∧ i.size = 1 ∧ i.bytes = 1 := by
  have h := Tryz.info5
  cases hi : Tryz.prog.info? 5 with
  | none => rw [hi] at h; cases h
  | some i => rw [hi] at h; simp at h; exact ⟨i, rfl, h.1, h.2.1, h.2.2⟩

theorem own_mono {w : World} {base base' : Nat} {e : TypeId} {size : Nat} {v : Value} {n : Nat} {xs : List Value} (h : w.ownsRow base e size v n xs) (hb : base' ≤ base) : w.ownsRow base' e size v n xs := by
  refine ⟨h.1, ?_⟩
  rcases h.2 with hn | ⟨g, cap, cur, hv, hg, r⟩
  · exact .inl hn
  · exact .inr ⟨g, cap, cur, hv, Nat.le_trans hb hg, r⟩
end
section
open Go.RowKit
structure BSl (w : World) (v : Value) (xs : List Nat) : Prop where
  form : ∃ a cap, v = .slice a xs.length cap ∧ (xs.length ≤ cap ∧ (a = none → cap = 0)) ∧ (xs = [] ∨ ∃ b off, a = some ⟨b, off, none⟩ ∧ ∀ j, j < xs.length → w.cell? ⟨b, off + j, none⟩ = some (.int .u8 ((xs.getD j 0 : Nat) : Int)))
  max : xs.length ≤ 9223372036854775807
  byte : ∀ x ∈ xs, x < 256

theorem getD_lt {xs : List Nat} (h : ∀ x ∈ xs, x < 256) (j : Nat) : xs.getD j 0 < 256 := by
  by_cases hj : j < xs.length
  · rw [List.getD_eq_getElem?_getD, List.getElem?_eq_getElem hj]; exact h _ (List.getElem_mem hj)
  · rw [List.getD_eq_getElem?_getD, List.getElem?_eq_none (by omega)]; decide

theorem BSl.move {w w' : World} {v : Value} {xs : List Nat} (h : BSl w v xs) (hm : ∀ a u, w.cell? a = some u → w'.cell? a = some u) : BSl w' v xs := by
  obtain ⟨⟨a, cap, rfl, hn, hc⟩, hmax, hb⟩ := h
  refine ⟨⟨a, cap, rfl, hn, ?_⟩, hmax, hb⟩
  rcases hc with hc | ⟨b, off, rfl, hc⟩
  · exact .inl hc
  · exact .inr ⟨b, off, rfl, fun j hj => hm _ _ (hc j hj)⟩

theorem keep_alloc (w : World) (o : Obj) : ∀ a u, w.cell? a = some u → (w.alloc o).cell? a = some u := by
  intro a u h
  exact (World.cell?_of_block (Below.heap_alloc w o a.block (World.block_lt_of_cell? w a h))).trans h

theorem keep_below {w w' : World} (hb : Below w.heap.size w w') : ∀ a u, w.cell? a = some u → w'.cell? a = some u := by
  intro a u h
  rw [hb.cell (World.block_lt_of_cell? w a h)]; exact h

def nstr (xs : List Nat) : ByteArray := strOfNums (xs.map fun x => ((x : Nat) : Int))

theorem nstr_inj {xs ys : List Nat} (hx : ∀ x ∈ xs, x < 256) (hy : ∀ x ∈ ys, x < 256) (h : (nstr xs).toList = (nstr ys).toList) : xs = ys := by
  have key : ∀ l : List Nat, (∀ x ∈ l, x < 256) → (nstr l).data.toList.map UInt8.toNat = l := by
    intro l hl
    simp only [nstr, strOfNums_data, List.map_map]
    conv => rhs; rw [← List.map_id l]
    apply List.map_congr_left
    intro x hx
    have := hl x hx
    simp; omega
  rw [ByteArray.toList_eq, ByteArray.toList_eq] at h
  rw [← key xs hx, ← key ys hy, h]

theorem BSl.text {w : World} {v : Value} {xs : List Nat} (h : BSl w v xs) : (convert 39 9 v).run Tryz.prog w = .ok (.string (nstr xs)) w := by
  obtain ⟨⟨a, cap, rfl, _, hc⟩, hmax, hb⟩ := h
  rcases hc with rfl | ⟨b, off, rfl, hc⟩
  · cases a with
    | none => exact run_convert_bytes_nil w 39 5 Tryz.underlying39 Tryz.underlying5 _ _ 9 Tryz.underlying9
    | some a =>
      rw [run_convert_bytes_string w 39 9 5 _ _ _ Tryz.underlying39 Tryz.underlying5 Tryz.underlying9]
      exact run_bytesToString w a 0 cap [] rfl
  · exact run_convert_bytes_arg w 39 5 Tryz.underlying39 Tryz.underlying5 b off xs.length cap (xs.map fun x => ((x : Nat) : Int)) (by simp) (fun i hi => by
      rw [hc i hi]; simp [List.getD, hi]) 9 Tryz.underlying9

theorem bv_get {xs : List Nat} {j : Nat} (h : j < xs.length) : (bv xs)[j]? = some (.int .u8 ((xs.getD j 0 : Nat) : Int)) := by
  simp [bv, h, List.getD]

theorem BSl.own {w : World} {B n : Nat} {v : Value} {xs : List Nat} (h : w.ownsRow B 5 1 v n (bv xs)) (hb : ∀ x ∈ xs, x < 256) : BSl w v xs := by
  have hn : n = xs.length := by have := h.1; simp [bv] at this; omega
  subst hn
  refine ⟨?_, ?_, hb⟩
  · rcases h.2 with ⟨rfl, h0⟩ | ⟨g, cap, cur, rfl, _, hg, h1, h2, h3, h4⟩
    · exact ⟨none, 0, by rw [h0], ⟨by omega, fun _ => rfl⟩, .inl (List.length_eq_zero_iff.1 h0)⟩
    · refine ⟨some ⟨g, 0, none⟩, cap, rfl, ⟨h1, fun h => by (cases h)⟩, .inr ⟨g, 0, rfl, fun j hj => ?_⟩⟩
      have := h.cells (g := g) rfl j _ (bv_get hj)
      have hadd : (⟨g, 0, none⟩ : Addr).add j = ⟨g, 0 + j, none⟩ := by unfold Addr.add; split <;> simp_all
      rw [hadd] at this
      exact this
  · rcases h.2 with ⟨rfl, h0⟩ | ⟨g, cap, cur, rfl, _, hg, h1, h2, h3, h4⟩
    · omega
    · unfold maxLen at h2; omega

theorem BSl.src {w : World} {ad : Addr} {n cap : Nat} {xs : List Nat} (h : BSl w (.slice (some ad) n cap) xs) : n = xs.length ∧ ∀ j u, (bv xs)[j]? = some u → w.cell? (ad.add j) = some u := by
  obtain ⟨⟨a, cap', e, _, hc⟩, _, _⟩ := h
  injection e with e1 e2 e3
  subst e1
  refine ⟨e2, ?_⟩
  rcases hc with rfl | ⟨b, off, e, hc⟩
  · intro j u hu; simp [bv] at hu
  · injection e with e
    subst e
    intro j u hu
    have hj : j < xs.length := by
      rcases Nat.lt_or_ge j xs.length with h | h
      · exact h
      · simp [bv, List.getElem?_eq_none h] at hu
    rw [bv_get hj] at hu
    injection hu with hu
    have hadd : (⟨b, off, none⟩ : Addr).add j = ⟨b, off + j, none⟩ := by unfold Addr.add; split <;> simp_all
    rw [hadd, hc j hj, hu]

theorem bv_one (xs : List Nat) : ∀ u ∈ bv xs, u.oneCell' = true := by
  intro u hu
  simp [bv] at hu
  obtain ⟨x, _, rfl⟩ := hu
  rfl

theorem bv_len (xs : List Nat) : (bv xs).length = xs.length := by simp [bv]

theorem append_bsl {ops : Array Oper} {rest : List Oper} {o : Oper} {a : Act} {Q : Exit → Act → World → Prop} {w : World} (hgd : o.guard = none) (s x : Operand)
    (ho : o.op = .call { callee := .builtin .append, args := #[s, x], argTypes := #[39, 39] }) (B : Nat) (v : Value) (n : Nat) (ds : List Nat) (hs : a.eval s = v) (hown : w.ownsRow B 5 1 v n (bv ds))
    (u : Value) (xs : List Nat) (hx : a.eval x = u) (hsl : BSl w u xs) (hlen : n + xs.length ≤ 140737488355328) (hbase : B ≤ w.heap.size)
    (h : ∀ v' w', w'.ownsRow B 5 1 v' (n + xs.length) (bv (ds ++ xs)) → w.grownBy w' v.ownBlock → wpList Tryz.prog ops Q rest (a.put o.dst v') w') : wpList Tryz.prog ops Q (o :: rest) a w := by
  obtain ⟨i5, hi, hz0, hz1, hz2⟩ := info5_ex
  obtain ⟨⟨ad, cap, rfl, hn, hc⟩, hmax, hb⟩ := id hsl
  cases ad with
  | none =>
    rcases hc with rfl | ⟨_, _, e, _⟩
    · have := hn.2 rfl
      subst this
      refine wpList_append_own_none hgd s x 39 ho B 5 i5 1 Tryz.underlying39 hi v n (bv ds) hs hown hx (h v w ?_ ⟨rfl, rfl, rfl, Nat.le_refl _, fun _ _ _ => rfl⟩)
      simpa using hown
    · cases e
  | some ad =>
    refine wpList_append_own w hgd s x 39 ho B 5 i5 (.int .u8 0) 1 1 Tryz.underlying39 hi hz0 hz1 hz2 rfl (by decide) v n (bv ds) hs hown ad xs.length cap (bv xs) hx (by simp [bv]) hsl.src.2 (bv_one xs) (by unfold maxLen; omega) (by omega) hbase fun v' w' h1 h2 _ => ?_
    exact h v' w' (by rw [bv_app]; exact h1) h2

theorem BSl.take {w : World} {a : Option Addr} {n cap : Nat} {xs : List Nat} (h : BSl w (.slice a n cap) xs) (k : Nat) (hk : k ≤ xs.length) : BSl w (.slice a k cap) (xs.take k) := by
  obtain ⟨⟨a', cap', e, hn, hc⟩, hm, hb⟩ := h
  injection e with e1 e2 e3
  subst e1
  subst e3
  have hl : (xs.take k).length = k := by rw [List.length_take]; omega
  refine ⟨⟨a, cap, by rw [hl], ⟨by rw [hl]; have := hn.1; omega, hn.2⟩, ?_⟩, by rw [hl]; omega, fun x hx => hb x (List.mem_of_mem_take hx)⟩
  rcases hc with rfl | ⟨b, off, e, hc⟩
  · exact .inl (by simp)
  · refine .inr ⟨b, off, e, fun j hj => ?_⟩
    rw [hl] at hj
    rw [hc j (by omega)]
    simp [List.getD, hj]

theorem one_bsl (w : World) (x : Nat) (hx : x < 256) : BSl (w.alloc (.cells #[.int .u8 ((x : Nat) : Int)] 5)) (.slice (some ⟨w.heap.size, 0, none⟩) 1 1) [x] := by
  refine ⟨⟨_, 1, rfl, ⟨by simp, fun h => by (cases h)⟩, .inr ⟨_, 0, rfl, fun j hj => ?_⟩⟩, by simp, by simpa using hx⟩
  match j, hj with
  | 0, _ => simp

theorem BSl.take3 {w : World} {a : Option Addr} {n cap : Nat} {xs : List Nat} (h : BSl w (.slice a n cap) xs) (k : Nat) (hk : k ≤ xs.length) : BSl w (.slice a k k) (xs.take k) := by
  obtain ⟨⟨a', cap', e, hn, hc⟩, hm, hb⟩ := h
  injection e with e1 e2 e3
  subst e1
  subst e3
  have hl : (xs.take k).length = k := by rw [List.length_take]; omega
  refine ⟨⟨a, k, by rw [hl], ⟨by rw [hl]; omega, fun h => by have := hn.2 h; have := hn.1; omega⟩, ?_⟩, by rw [hl]; omega, fun x hx => hb x (List.mem_of_mem_take hx)⟩
  rcases hc with rfl | ⟨b, off, e, hc⟩
  · exact .inl (by simp)
  · refine .inr ⟨b, off, e, fun j hj => ?_⟩
    rw [hl] at hj
    rw [hc j (by omega)]
    simp [List.getD, hj]
end
section
open Go.RowKit

end
section
open Go.RowKit
structure Kp (S : Nat → Prop) (w w' : World) : Prop where
  os : w'.os = w.os
  tape : w'.tape = w.tape
  output : w'.output = w.output
  size : w.heap.size ≤ w'.heap.size
  block : ∀ k, k < w.heap.size → ¬ S k → w'.heap[k]? = w.heap[k]?

theorem Kp.refl (S : Nat → Prop) (w : World) : Kp S w w := ⟨rfl, rfl, rfl, Nat.le_refl _, fun _ _ _ => rfl⟩
theorem Kp.trans {S T : Nat → Prop} {a b c : World} (h : Kp S a b) (g : Kp T b c) (hst : ∀ k, k < a.heap.size → T k → S k) : Kp S a c :=
  ⟨g.os.trans h.os, g.tape.trans h.tape, g.output.trans h.output, Nat.le_trans h.size g.size, fun k hk hs =>
    (g.block k (Nat.lt_of_lt_of_le hk h.size) (fun ht => hs (hst k hk ht))).trans (h.block k hk hs)⟩
theorem Kp.mono {S T : Nat → Prop} {w w' : World} (h : Kp S w w') (hst : ∀ k, k < w.heap.size → S k → T k) : Kp T w w' :=
  ⟨h.os, h.tape, h.output, h.size, fun k hk ht => h.block k hk (fun hs => ht (hst k hk hs))⟩
theorem Kp.alloc {S : Nat → Prop} {a w : World} (h : Kp S a w) (o : Obj) : Kp S a (w.alloc o) :=
  ⟨h.os, h.tape, h.output, by have := h.size; simp; omega, fun k hk hs => (Below.heap_alloc w o k (Nat.lt_of_lt_of_le hk h.size)).trans (h.block k hk hs)⟩
theorem Kp.drewN {S : Nat → Prop} {a w : World} (h : Kp S a w) (n : Nat) : Kp S a (w.drewN n) := ⟨h.os, h.tape, h.output, h.size, h.block⟩
theorem Kp.setCell {S : Nat → Prop} {a w : World} (h : Kp S a w) (p : Addr) (v : Value) (hp : p.block < a.heap.size → S p.block) : Kp S a (w.setCell p v) :=
  ⟨h.os, h.tape, h.output, by have := h.size; simp [World.setCell]; omega, fun k hk hs => (Below.heap_setCell w p v k (fun e => hs (e ▸ hp (e ▸ hk)))).trans (h.block k hk hs)⟩
theorem Kp.grown {S : Nat → Prop} {a w w' : World} {row : Option Nat} (h : Kp S a w) (hg : w.grownBy w' row) (hr : ∀ k, k < a.heap.size → row = some k → S k) : Kp S a w' :=
  ⟨hg.os.trans h.os, hg.tape.trans h.tape, hg.output.trans h.output, Nat.le_trans h.size hg.size, fun k hk hs =>
    (hg.block k (Nat.lt_of_lt_of_le hk h.size) (fun e => hs (hr k hk e.symm))).trans (h.block k hk hs)⟩
theorem Kp.of_below {S : Nat → Prop} {w w' : World} (h : Below w.heap.size w w') : Kp S w w' := ⟨h.os, h.tape, h.output, h.size, fun k hk _ => h.block k hk⟩
theorem Kp.below {S : Nat → Prop} {w w' : World} {B : Nat} (h : Kp S w w') (hB : B ≤ w.heap.size) (hs : ∀ k, S k → B ≤ k) : Below B w w' :=
  ⟨h.os, h.tape, h.output, h.size, fun k hk => h.block k (by omega) (fun hsk => by have := hs k hsk; omega)⟩
theorem Kp.cell {S : Nat → Prop} {w w' : World} (h : Kp S w w') {p : Addr} {v : Value} (hc : w.cell? p = some v) (hs : ¬ S p.block) : w'.cell? p = some v :=
  (World.cell?_of_block (h.block p.block (World.block_lt_of_cell? w p hc) hs)).trans hc
theorem Kp.owns {S : Nat → Prop} {w w' : World} (h : Kp S w w') {base : Nat} {e : TypeId} {size : Nat} {v : Value} {n : Nat} {xs : List Value} (ho : w.ownsRow base e size v n xs) (hs : ∀ k, v.ownBlock = some k → ¬ S k) : w'.ownsRow base e size v n xs := by
  refine ⟨ho.1, ?_⟩
  rcases ho.2 with hn | ⟨g, cap, cur, rfl, hb, hgg, rest⟩
  · exact .inl hn
  · refine .inr ⟨g, cap, cur, rfl, hb, ?_, rest⟩
    rw [h.block g (Array.getElem?_eq_some_iff.1 hgg).1 (hs g rfl)]
    exact hgg
theorem Kp.bsl {S : Nat → Prop} {w w' : World} (h : Kp S w w') {v : Value} {xs : List Nat} (hb : BSl w v xs) (hs : ∀ k, v.ownBlock = some k → ¬ S k) : BSl w' v xs := by
  obtain ⟨⟨a, cap, rfl, hn, hc⟩, hm, hby⟩ := hb
  refine ⟨⟨a, cap, rfl, hn, ?_⟩, hm, hby⟩
  rcases hc with hc | ⟨b, off, rfl, hc⟩
  · exact .inl hc
  · exact .inr ⟨b, off, rfl, fun j hj => h.cell (hc j hj) (hs b rfl)⟩

theorem blk_cell {w : World} {b : Nat} {cur : Array Value} {e : TypeId} {j : Nat} {v : Value} (h : w.heap[b]? = some (.cells cur e (0, 0))) (hv : cur[j]? = some v) : w.cell? ⟨b, j, none⟩ = some v := by
  simp [World.cell?, h, hv]
theorem blk_frozen {w : World} {b : Nat} {cur : Array Value} {e : TypeId} (j : Nat) (h : w.heap[b]? = some (.cells cur e (0, 0))) : w.frozen? ⟨b, j, none⟩ = false := by
  simp [World.frozen?, h]
theorem blk_set {w : World} {b : Nat} {cur : Array Value} {e : TypeId} (j : Nat) (v : Value) (h : w.heap[b]? = some (.cells cur e (0, 0))) : (w.setCell ⟨b, j, none⟩ v).heap[b]? = some (.cells (cur.setIfInBounds j v) e (0, 0)) := by
  simp [World.setCell, Array.getElem?_modify, h]
theorem blk_other {w : World} {b c : Nat} {o : Obj} (j : Nat) (v : Value) (h : w.heap[c]? = some o) (hne : c ≠ b) : (w.setCell ⟨b, j, none⟩ v).heap[c]? = some o := by
  rw [Below.heap_setCell w ⟨b, j, none⟩ v c hne]; exact h
theorem blk_lt {w : World} {b : Nat} {o : Obj} (h : w.heap[b]? = some o) : b < w.heap.size := (Array.getElem?_eq_some_iff.1 h).1
theorem blk_alloc {w : World} {b : Nat} {o : Obj} (o' : Obj) (h : w.heap[b]? = some o) : (w.alloc o').heap[b]? = some o := (Below.heap_alloc w o' b (blk_lt h)).trans h
def bookCells (vb vo : Value) (a t d u : Nat) : Array Value := #[vb, vo, .int .i64 (a : Nat), .slice none 0 0, .slice none 0 0, .int .i64 0, .slice none 0 0, .slice none 0 0, .int .i64 0, .slice none 0 0, .slice none 0 0, .int .i64 0, .slice none 0 0, .slice none 0 0, .int .i64 0, .slice none 0 0, .slice none 0 0, .int .i64 0, .slice none 0 0, .slice none 0 0, .int .i64 0, .slice none 0 0, .slice none 0 0, .int .i64 0, .slice none 0 0, .slice none 0 0, .int .i64 0, .slice none 0 0, .slice none 0 0, .int .i64 0, .slice none 0 0, .slice none 0 0, .int .i64 0, .slice none 0 0, .slice none 0 0, .int .i64 0, .slice none 0 0, .slice none 0 0, .int .i64 0, .slice none 0 0, .slice none 0 0, .int .i64 0, .slice none 0 0, .slice none 0 0, .int .i64 0, .slice none 0 0, .slice none 0 0, .int .i64 0, .slice none 0 0, .slice none 0 0, .int .i64 0, .slice none 0 0, .slice none 0 0, .int .i64 0, .int .i64 (t : Nat), .int .i64 (d : Nat), .int .i64 (u : Nat)]
end
section
open Go.RowKit Go
theorem swp_size {α : Type} [Inhabited α] (d : Array α) (i j : Nat) : (Sort.swp d i j).size = d.size := by simp [Sort.swp]
theorem insInner_size {α : Type} [Inhabited α] (lt : α → α → Bool) (a : Nat) : ∀ (j : Nat) (d : Array α), (Sort.insInner lt a j d).size = d.size
  | 0, d => rfl
  | j + 1, d => by
    unfold Sort.insInner
    split
    · rw [insInner_size lt a j, swp_size]
    · rfl
theorem insInner_go {α : Type} [Inhabited α] {lt : α → α → Bool} {a j : Nat} {d : Array α} (h : a < j + 1) (hl : lt d[j + 1]! d[j]! = true) : Sort.insInner lt a (j + 1) d = Sort.insInner lt a j (Sort.swp d (j + 1) j) := by
  conv => lhs; unfold Sort.insInner
  rw [if_pos (by simp [hl]; omega)]
theorem insInner_no {α : Type} [Inhabited α] {lt : α → α → Bool} {a j : Nat} {d : Array α} (h : ¬ (a < j ∧ lt d[j]! d[j - 1]! = true)) : Sort.insInner lt a j d = d := by
  cases j with
  | zero => rfl
  | succ j =>
    unfold Sort.insInner
    rw [if_neg]
    simp only [Bool.and_eq_true, decide_eq_true_eq]
    exact h
theorem ins_go9 {α : Type} [Inhabited α] {lt : α → α → Bool} {a j j' : Nat} {d : Array α} (e : j = j' + 1) (h : a < j) (hl : lt d[j]! d[j']! = true) : Sort.insInner lt a j d = Sort.insInner lt a j' (Sort.swp d j j') := by
  subst e
  exact insInner_go h hl
theorem insOuter_go {α : Type} [Inhabited α] {lt : α → α → Bool} {a b i : Nat} {d : Array α} (h : i < b) : Sort.insOuter lt a b i d = Sort.insOuter lt a b (i + 1) (Sort.insInner lt a i d) := by
  conv => lhs; unfold Sort.insOuter
  rw [if_pos h]
theorem insOuter_no {α : Type} [Inhabited α] {lt : α → α → Bool} {a b i : Nat} {d : Array α} (h : ¬ i < b) : Sort.insOuter lt a b i d = d := by
  unfold Sort.insOuter
  rw [if_neg h]
end
section
open Go.RowKit Go
section
variable {α : Type} [Inhabited α] {lt : α → α → Bool} {hi first root : Nat} {d : Array α}
theorem sift_end (h : hi ≤ 2 * root + 1) : Sort.siftDown lt hi first root d = d := by
  unfold Sort.siftDown
  rw [dif_pos h]
theorem sift_up (h : 2 * root + 2 < hi) (hl : lt d[first + (2 * root + 1)]! d[first + (2 * root + 2)]! = true) : Sort.siftDown lt hi first root d = if !lt d[first + root]! d[first + (2 * root + 2)]! then d else Sort.siftDown lt hi first (2 * root + 2) (Sort.swp d (first + root) (first + (2 * root + 2))) := by
  conv => lhs; unfold Sort.siftDown
  rw [dif_neg (by omega), if_pos (by rw [show first + (2 * root + 1) + 1 = first + (2 * root + 2) by omega, hl]; simp; omega), dif_pos (by omega)]
theorem sift_lo (h0 : ¬ hi ≤ 2 * root + 1) (h : ¬ (2 * root + 2 < hi ∧ lt d[first + (2 * root + 1)]! d[first + (2 * root + 2)]! = true)) : Sort.siftDown lt hi first root d = if !lt d[first + root]! d[first + (2 * root + 1)]! then d else Sort.siftDown lt hi first (2 * root + 1) (Sort.swp d (first + root) (first + (2 * root + 1))) := by
  conv => lhs; unfold Sort.siftDown
  rw [dif_neg (by omega), if_neg]
  rw [show first + (2 * root + 1) + 1 = first + (2 * root + 2) by omega]
  simpa using h
theorem sift_size (hi first : Nat) : ∀ (k root : Nat) (d : Array α), hi - root ≤ k → (Sort.siftDown lt hi first root d).size = d.size
  | 0, root, d, hk => by rw [sift_end (by omega)]
  | k + 1, root, d, hk => by
    by_cases h0 : hi ≤ 2 * root + 1
    · rw [sift_end h0]
    · by_cases h : 2 * root + 2 < hi ∧ lt d[first + (2 * root + 1)]! d[first + (2 * root + 2)]! = true
      · rw [sift_up h.1 h.2]
        split
        · rfl
        · rw [sift_size hi first k _ _ (by omega), swp_size]
      · rw [sift_lo h0 h]
        split
        · rfl
        · rw [sift_size hi first k _ _ (by omega), swp_size]
end
end
section
open Go.RowKit Go
theorem rev_go {α : Type} [Inhabited α] {i j : Nat} {d : Array α} (h : i < j) : Sort.reverseLoop i j d = Sort.reverseLoop (i + 1) (j - 1) (Sort.swp d i j) := by
  conv => lhs; unfold Sort.reverseLoop
  rw [if_pos h]
theorem rev_no {α : Type} [Inhabited α] {i j : Nat} {d : Array α} (h : ¬ i < j) : Sort.reverseLoop i j d = d := by
  unfold Sort.reverseLoop
  rw [if_neg h]
end
section
open Go.RowKit Go
section
variable {α : Type} [Inhabited α] {T : TypeId} {rv : Value} {gl gs : FuncId} {lt : α → α → Bool} {M : Nat} {St : World → Array α → Prop}
end
def Cnt (w : World) (cb : Nat) (s : Nat) : Prop := w.heap[cb]? = some (.cells #[.int .i64 (s : Nat)] 3 (0, 0))
end
section
open Go.RowKit Go
structure Srf {α : Type} [Inhabited α] (gl gs : FuncId) (lb sb : Array Value) (lt : α → α → Bool) (M : Nat) (St : World → Array α → Prop) : Prop where
  el : ∀ args w, (callFunc gl args).run Tryz.prog w = .ok (.enter gl args) w
  low : ∀ {w : World} {d : Array α}, St w d → M ≤ w.heap.size
  keep : ∀ {w w' : World} {d : Array α}, St w d → Below M w w' → St w' d
  less : ∀ {w : World} {d : Array α} (i j : Nat), St w d → i < d.size → j < d.size → Calls Tryz.prog gl (#[.int .i64 (i : Nat), .int .i64 (j : Nat)] ++ lb) w fun e w' => e = .returned (.bool (lt d[i]! d[j]!)) ∧ Below w.heap.size w w'
  swap : ∀ {w : World} {d : Array α} (i j : Nat), St w d → i < d.size → j < d.size → ∃ w', (callFunc gs (#[.int .i64 (i : Nat), .int .i64 (j : Nat)] ++ sb)).run Tryz.prog w = .ok (.value (.tuple #[])) w' ∧ St w' (Sort.swp d i j) ∧ Kp (fun q => q < M) w w'
def lsw (gl gs : FuncId) (lb sb : Array Value) : Array Value := #[.func (.func gl) #[] lb, .func (.func gs) #[] sb]
structure Srb {α : Type} [Inhabited α] (gl gs : FuncId) (lb sb : Array Value) (lt : α → α → Bool) (g : Nat) (St : World → Array α → Prop) : Prop where
  el : ∀ args w, (callFunc gl args).run Tryz.prog w = .ok (.enter gl args) w
  box : ∀ {w : World} {d : Array α}, St w d → w.heap[g]? = some (.cells (lsw gl gs lb sb) 200 (0, 0))
  lz : ∀ {w : World} {d : Array α}, Hid (St w d) → ∀ (i j : Nat) (x y : Int), x = (i : Int) → y = (j : Int) → i < d.size → j < d.size → Calls Tryz.prog gl (#[.int .i64 x, .int .i64 y] ++ lb) w fun e w' => e = .returned (.bool (lt d[i]! d[j]!)) ∧ Hid (St w' d)
  sz : ∀ {w : World} {d : Array α}, Hid (St w d) → ∀ (i j : Nat) (x y : Int), x = (i : Int) → y = (j : Int) → i < d.size → j < d.size → ∃ w', (callFunc gs (#[.int .i64 x, .int .i64 y] ++ sb)).run Tryz.prog w = .ok (.value (.tuple #[])) w' ∧ Hid (St w' (Sort.swp d i j))
theorem below_allocS (w : World) (o : Obj) : Below w.heap.size w (w.alloc o) := (Kp.refl (fun _ => False) w).alloc o |>.below (Nat.le_refl _) (fun _ h => h.elim)
section
variable {α : Type} [Inhabited α] {gl gs : FuncId} {lb sb : Array Value} {lt : α → α → Bool} {M g : Nat} {St : World → Array α → Prop}
theorem Srf.on (hM : Srf gl gs lb sb lt M St) {w w' : World} {d : Array α} (h : St w d) (hb : Below w.heap.size w w') : St w' d :=
  hM.keep h ((Kp.of_below (S := fun _ => False) hb).below (hM.low h) (fun _ h => h.elim))
theorem Srb.c0 (hM : Srb gl gs lb sb lt g St) {w : World} {d : Array α} (h : Hid (St w d)) : w.cell? ⟨g, 0, none⟩ = some (.func (.func gl) #[] lb) := blk_cell (j := 0) (hM.box h.out) rfl
theorem Srb.c1 (hM : Srb gl gs lb sb lt g St) {w : World} {d : Array α} (h : Hid (St w d)) : w.cell? ⟨g, 1, none⟩ = some (.func (.func gs) #[] sb) := blk_cell (j := 1) (hM.box h.out) rfl
theorem Srf.enter (hM : Srf gl gs lb sb lt M St) {w : World} {d : Array α} (h : St w d) : ∃ St2 : World → Array α → Prop, Srb gl gs lb sb lt w.heap.size St2 ∧ Srf gl gs lb sb lt (w.heap.size + 1) St2 ∧ Hid (St2 (w.alloc (.cells (lsw gl gs lb sb) 200)) d) ∧ (∀ {w' d'}, Hid (St2 w' d') → Hid (St w' d')) := by
  obtain ⟨g, hg⟩ : ∃ g, g = w.heap.size := ⟨_, rfl⟩
  have hMg : M ≤ g := hg ▸ hM.low h
  rw [← hg]
  have hf : Srf gl gs lb sb lt (g + 1) (fun w d => St w d ∧ w.heap[g]? = some (.cells (lsw gl gs lb sb) 200 (0, 0))) :=
    { el := hM.el
      low := fun h => blk_lt h.2
      keep := fun h hb => ⟨hM.keep h.1 (hb.mono (by omega)), (hb.block g (by omega)).trans h.2⟩
      less := fun i j h hi hj => hM.less i j h.1 hi hj
      swap := fun i j h hi hj => by
        obtain ⟨w', h1, h2, h3⟩ := hM.swap i j h.1 hi hj
        exact ⟨w', h1, ⟨h2, (h3.block g (blk_lt h.2) (by omega)).trans h.2⟩, h3.mono (fun q _ hq => by omega)⟩ }
  refine ⟨_, ?_, hf, ?_, fun h => h.out.1⟩
  · exact { el := hM.el
            box := fun h => h.2
            lz := fun h i j x y hx hy hi hj => by
              subst hx hy
              exact (hf.less i j h.out hi hj).mono fun _ _ ⟨he, hb⟩ => ⟨he, hf.on h.out hb⟩
            sz := fun h i j x y hx hy hi hj => by
              subst hx hy
              obtain ⟨w', h1, h2, _⟩ := hf.swap i j h.out hi hj
              exact ⟨w', h1, h2⟩ }
  · rw [hg]
    exact ⟨hM.on h (below_allocS w _), heap_alloc_new w _⟩
end
theorem upon_sz {o : Oper} {a : Act} {K : Act → World → Prop} {Q : Exit → Act → World → Prop} {r : Result Next} {S : World → Prop} (hx : ∃ w', r = .ok (.value (.tuple #[])) w' ∧ S w') (h : ∀ w', S w' → K (a.put o.dst (.tuple #[])) w') : o.upon Tryz.prog a K Q r := by
  obtain ⟨w', rfl, hs⟩ := hx
  exact h w' hs
section
variable {α : Type} [Inhabited α] {gl gs : FuncId} {lb sb : Array Value} {lt : α → α → Bool} {g : Nat} {St : World → Array α → Prop}
theorem Srb.less (hM : Srb gl gs lb sb lt g St) {w : World} {d : Array α} (i j : Nat) (h : St w d) (hi : i < d.size) (hj : j < d.size) : Calls Tryz.prog gl (#[.int .i64 (i : Nat), .int .i64 (j : Nat)] ++ lb) w fun e w' => e = .returned (.bool (lt d[i]! d[j]!)) ∧ Hid (St w' d) := hM.lz h i j _ _ rfl rfl hi hj
theorem Srb.swap (hM : Srb gl gs lb sb lt g St) {w : World} {d : Array α} (i j : Nat) (h : St w d) (hi : i < d.size) (hj : j < d.size) : ∃ w', (callFunc gs (#[.int .i64 (i : Nat), .int .i64 (j : Nat)] ++ sb)).run Tryz.prog w = .ok (.value (.tuple #[])) w' ∧ Hid (St w' (Sort.swp d i j)) := hM.sz h i j _ _ rfl rfl hi hj
end
end
section
open Go.RowKit Go
set_option maxRecDepth 1000000 in
set_option maxHeartbeats 4000000 in
theorem insertionSortF_any {α : Type} [Inhabited α] {gl gs : FuncId} {lb sb : Array Value} {lt : α → α → Bool} {M : Nat} {St : World → Array α → Prop} (hM : Srf gl gs lb sb lt M St) {w : World} {d : Array α} (h : St w d) (a b : Nat) (hb : b ≤ d.size) (hab : a ≤ b) (hsz : d.size < 4611686018427387904) : Calls Tryz.prog 197 #[.agg (lsw gl gs lb sb), .int .i64 (a : Nat), .int .i64 (b : Nat)] w fun e w' => e = .returned (.tuple #[]) ∧ Hid (St w' (Sort.insertionSort lt d a b)) := by
  obtain ⟨St2, hB, hM2, h2, hout⟩ := hM.enter h
  suffices key : Calls Tryz.prog 197 #[.agg (lsw gl gs lb sb), .int .i64 (a : Nat), .int .i64 (b : Nat)] w fun e w' => e = .returned (.tuple #[]) ∧ Hid (St2 w' (Sort.insertionSort lt d a b)) from key.mono fun _ _ h => ⟨h.1, hout h.2⟩
  clear hout hM h
  obtain ⟨LS, hLS⟩ : ∃ LS, LS = Sort.insertionSort lt d a b := ⟨_, rfl⟩
  rw [← hLS]
  have HLS : Hid (LS = Sort.insOuter lt a b (a + 1) d) := hLS
  have HM := hide hB
  have HMF := hide hM2
  have el := hB.el
  have HS := h2
  obtain ⟨n, hn⟩ : ∃ n, n = d.size := ⟨_, rfl⟩
  have HN : Hid (n = d.size ∧ b ≤ n ∧ a ≤ b ∧ n < 4611686018427387904) := ⟨hn, by omega, hab, by omega⟩
  obtain ⟨a1, ha1⟩ : ∃ a1, a1 = a + 1 := ⟨_, rfl⟩
  have k1 : (a : Int) + 1 = (a1 : Int) := by omega
  have k2 : wrap64 (a1 : Int) = (a1 : Int) := by have h1 := HN.out; unfold wrap64; omega
  have HA1 := hide ha1
  clear hB hM2 h2 hLS hb hab hsz hn ha1
  go_enter Tryz.func197, Tryz.ntmps197
  go_upto_region 1 with fail
  generalize w.alloc (.cells (lsw gl gs lb sb) 200) = w1 at *
  generalize w.heap.size = g at *
  go_wp2_with fail
  rw [k2]
  go_loopg [6] (b - a) (fun gk s6 wx => ∃ i : Nat, s6 = .int .i64 (i : Nat) ∧ Hid (∃ d' : Array α, St2 wx d' ∧ d'.size = n ∧ LS = Sort.insOuter lt a b i d' ∧ b - i ≤ gk ∧ a < i ∧ i ≤ b + 1))
  case atStart => exact ⟨a1, rfl, d, HS.out, HN.out.1.symm, by rw [HLS.out, HA1.out], by have := HA1.out; omega, by have := HA1.out; omega, by have h1 := HA1.out; have h2 := HN.out; omega⟩
  case round =>
    obtain ⟨i, rfl, hrel⟩ := hrel
    obtain ⟨d1, hs1, hd1, hl1, hg1, hai, hib⟩ := hrel.out
    by_cases hlt : i < b
    · obtain ⟨g', rfl⟩ : ∃ g', gk = g' + 1 := ⟨gk - 1, by omega⟩
      have gi : (i : Int) < (b : Int) := by omega
      have HL1 : Hid (LS = Sort.insOuter lt a b (i + 1) (Sort.insInner lt a i d1)) := by show _ = _; rw [hl1, insOuter_go hlt]
      have HX : Hid (∃ e : Array α, St2 wr e ∧ e.size = n ∧ Sort.insInner lt a i d1 = Sort.insInner lt a i e ∧ i ≤ i) := ⟨d1, hs1, hd1, rfl, Nat.le_refl _⟩
      have HB1 : Hid (b - i ≤ g' + 1 ∧ a < i ∧ i < b) := ⟨hg1, hai, hlt⟩
      obtain ⟨i2, hi2⟩ : ∃ i2, i2 = i + 1 := ⟨_, rfl⟩
      have k3 : (i : Int) + 1 = (i2 : Int) := by omega
      have k4 : wrap64 (i2 : Int) = (i2 : Int) := by have h1 := HN.out; unfold wrap64; omega
      have HI2 := hide hi2
      have HIX : Hid (b - i2 ≤ g' ∧ a < i2 ∧ i2 ≤ b + 1) := by
        clear k1 k2 k3 k4
        show _ ∧ _ ∧ _
        omega
      clear hs1 hl1 hg1 hai hib hlt hrel hi2
      go_wp2_with fail
      go_loopg [7] i (fun gj s7 wx => ∃ j : Nat, s7 = .int .i64 (j : Nat) ∧ Hid (∃ e : Array α, St2 wx e ∧ e.size = n ∧ Sort.insInner lt a i d1 = Sort.insInner lt a j e ∧ j ≤ gj ∧ j ≤ i))
      case atStart =>
        obtain ⟨e, h1, h2, h3, h4⟩ := HX.out
        exact ⟨i, rfl, e, h1, h2, h3, Nat.le_refl _, h4⟩
      case round =>
        obtain ⟨j, rfl, hrel⟩ := hrel
        obtain ⟨e, hs2, he2, hl2, hgj, hji⟩ := hrel.out
        have HS2 := hide hs2
        have HE2 : Hid (e.size = n ∧ j ≤ gk ∧ j ≤ i) := ⟨he2, hgj, hji⟩
        have HL2 := hide hl2
        clear hs2 he2 hl2 hgj hji hrel
        by_cases haj : a < j
        · have gj2 : (j : Int) > (a : Int) := by omega
          obtain ⟨j', hjj⟩ : ∃ j', j = j' + 1 := ⟨j - 1, by omega⟩
          have k5 : (j : Int) - 1 = (j' : Int) := by omega
          have k6 : wrap64 (j' : Int) = (j' : Int) := by have h1 := HN.out; have h2 := HE2.out; have h3 := HB1.out; unfold wrap64; omega
          have b1 : j < e.size := HE2.out.1 ▸ Nat.lt_of_le_of_lt HE2.out.2.2 (Nat.lt_of_lt_of_le HB1.out.2.2 HN.out.2.1)
          have b2 : j' < e.size := Nat.lt_trans (by rw [hjj]; exact Nat.lt_succ_self _) b1
          have HCL := hide (HM.out.less (d := e) j j' HS2.out b1 b2)
          have c0 := HM.out.c0 HS2
          have HAJ := hide haj
          have HBB : Hid (j < e.size ∧ j' < e.size) := ⟨b1, b2⟩
          clear b1 b2
          have HJJ := hide hjj
          have HJX : Hid (j' ≤ gk - 1 ∧ j' ≤ i ∧ gk = gk - 1 + 1) := by
            have h1 := HE2.out.2
            clear k1 k2 k3 k4 k5 k6
            show _ ∧ _ ∧ _
            omega
          clear hjj haj
          go_wp2_with fail
          refine HCL.out.mono ?_
          rintro _ w2 ⟨rfl, hs3⟩
          generalize hlv : lt e[j]! e[j']! = lv at *
          have HLV := hide hlv
          clear hlv HCL HS2
          cases lv with
          | true =>
            obtain ⟨w3, hrun, hs4⟩ := HM.out.swap (d := e) j j' hs3.out HBB.out.1 HBB.out.2
            have c1 := HM.out.c1 hs3
            clear hs3
            have HNX : Hid (∃ e' : Array α, St2 w3 e' ∧ e'.size = n ∧ Sort.insInner lt a i d1 = Sort.insInner lt a j' e' ∧ j' ≤ gk - 1 ∧ j' ≤ i) := ⟨_, hs4.out, (swp_size _ _ _).trans HE2.out.1, HL2.out.trans (ins_go9 HJJ.out HAJ.out HLV.out), HJX.out.1, HJX.out.2.1⟩
            clear hs4
            go_wp2_with fail
            go_roundg (gk - 1)
            case measure => exact Nat.lt_of_succ_le (Nat.le_of_eq HJX.out.2.2.symm)
            case rel => exact ⟨j', by first | rfl | rw [k6], HNX⟩
          | false =>
            as_aux_lemma =>
            have HE3 : Hid (Sort.insInner lt a i d1 = e) := HL2.out.trans (insInner_no (fun h => by have h1 := h.2; rw [HJJ.out, Nat.add_sub_cancel, ← HJJ.out, HLV.out] at h1; cases h1))
            have HNX : Hid (∃ d' : Array α, St2 w2 d' ∧ d'.size = n ∧ LS = Sort.insOuter lt a b i2 d' ∧ b - i2 ≤ g' ∧ a < i2 ∧ i2 ≤ b + 1) := ⟨e, hs3.out, HE2.out.1, by rw [HL1.out, HE3.out, HI2.out], HIX.out⟩
            go_wp2_with fail
            go_roundg g'
            case measure => exact Nat.lt_succ_self _
            case rel => exact ⟨i2, by first | rfl | rw [k4], HNX⟩
        · as_aux_lemma =>
          have gj2 : ¬ ((j : Int) > (a : Int)) := by omega
          have gjb : decide ((j : Int) > (a : Int)) = false := decide_eq_false gj2
          have HE3 : Hid (Sort.insInner lt a i d1 = e) := HL2.out.trans (insInner_no (fun h => haj h.1))
          have hs3 := HS2
          clear haj
          have HNX : Hid (∃ d' : Array α, St2 wr d' ∧ d'.size = n ∧ LS = Sort.insOuter lt a b i2 d' ∧ b - i2 ≤ g' ∧ a < i2 ∧ i2 ≤ b + 1) := ⟨e, hs3.out, HE2.out.1, by rw [HL1.out, HE3.out, HI2.out], HIX.out⟩
          go_wp2_with fail
          go_roundg g'
          case measure => exact Nat.lt_succ_self _
          case rel => exact ⟨i2, by first | rfl | rw [k4], HNX⟩
    · as_aux_lemma =>
      have gi : ¬ ((i : Int) < (b : Int)) := by omega
      have HE : Hid (St2 wr LS) := by show St2 _ _; rw [hl1, insOuter_no hlt]; exact hs1
      clear hs1 hl1 hg1 hai hib hlt hrel
      go_wp2_with fail
      first
        | (go_end0; exact ⟨rfl, HE⟩)
        | exact bodyPost_ret (results_none rfl _ _ _) rfl ⟨rfl, HE⟩
end
end Go.Proofs.YtnkghcndaafmoaaGreatDoor
