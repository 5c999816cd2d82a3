import Derived.Test.YtnbbnainmifenaaGreatDoorRows
import Derived.WalkKit
import Derived.WalkSpells
import Derived.WalkLawsBesides
import Derived.ScopeJumps
import Derived.Laws.BytesArg
import Derived.Laws.AppendOwnNone
import Derived.WalkSmall
import Derived.Lib.ConvBytes
import Derived.Laws.AppendOwn
import Derived.Deep.QuietTactic
import Derived.BigQuiet
import Derived.Maps.AppendAt
import Derived.Deep.RegionWith
import Derived.Deep.WholeRow
import Derived.StillTailTactics
import Derived.Deep.LoopGhost
import Derived.Deep.DeepCutAuto
namespace Go.Proofs.YtnbbnainmifenaaGreatDoor
section
open Go.RowKit
theorem LsA {α : Type _} (l : List α) (i : Nat) (a : α) : l.toArray.setIfInBounds i a = (l.set i a).toArray := List.setIfInBounds_toArray ..
theorem Ls0 {α : Type _} (a b : α) (l : List α) : (a :: l).set 0 b = b :: l := rfl
theorem LsS {α : Type _} (a b : α) (l : List α) (i : Nat) : (a :: l).set (i + 1) b = a :: l.set i b := rfl

theorem hide {p : Prop} (h : p) : Hid p := h

theorem scope_again {P : Program} {a : Act} {w : World} {Q : Exit → Act → World → Prop} {c rest : Code} (l : Nat) (J : Act → World → Prop) (μ : Act → World → Nat) (hf : findLabel c l = some (Code.skip.seq rest))
    (pass : ∀ a w, J a w → rest.wp P (Exit.jump l (fun a' w' => J a' w' ∧ μ a' w' < μ a w) Q) a w)
    (first : Hid (∀ a w, J a w → rest.wp P (Exit.jump l J Q) a w) → c.wp P (Exit.jump l J Q) a w) : (Code.scope c).wp P Q a w :=
  wp_scope_jumps l J μ hf (first (fun a w h => Code.wp_mono (fun e a' w' hq => by
    cases e with
    | goto l' => exact ⟨hq.1, hq.2.1⟩
    | normal => exact hq
    | exit id => exact hq
    | ret => exact hq
    | panic ch => exact hq
    | outgrown => exact hq) (pass a w h))) (fun a w h => wp_seq (wp_skip (pass a w h)))

def bv (l : List Nat) : List Value := l.map fun x => Value.int .u8 ((x : Nat) : Int)

theorem bv_app (a b : List Nat) : bv (a ++ b) = bv a ++ bv b := by simp [bv]

theorem Tryz.info5 : (Tryz.prog.info? 5).map (fun i => (i.zero, i.size, i.bytes)) = some (some (.int .u8 0), 1, 1) := by kernel_rfl

theorem info5_ex : ∃ i, Tryz.prog.info? 5 = some i ∧ i.zero = some (.int .u8 0) ∧ i.size = 1 ∧ i.bytes = 1 := by
  have h := Tryz.info5
  cases hi : Tryz.prog.info? 5 with
  | none => rw [hi] at h; cases h
  | some i => rw [hi] at h; simp at h; exact ⟨i, rfl, h.1, h.2.1, h.2.2⟩

theorem own_mono {w : World} {base base' : Nat} {e : TypeId} {size : Nat} {v : Value} {n : Nat} {xs : List Value} (h : w.ownsRow base e size v n xs) (hb : base' ≤ base) : w.ownsRow base' e size v n xs := by
  refine ⟨h.1, ?_⟩
  rcases h.2 with hn | ⟨g, cap, cur, hv, hg, r⟩
  · exact .inl hn
  · exact .inr ⟨g, cap, cur, hv, Nat.le_trans hb hg, r⟩
end
section
open Go.RowKit
structure BSl (w : World) (v : Value) (xs : List Nat) : Prop where
  form : ∃ a cap, v = .slice a xs.length cap ∧ (xs.length ≤ cap ∧ (a = none → cap = 0)) ∧ (xs = [] ∨ ∃ b off, a = some ⟨b, off, none⟩ ∧ ∀ j, j < xs.length → w.cell? ⟨b, off + j, none⟩ = some (.int .u8 ((xs.getD j 0 : Nat) : Int)))
  max : xs.length ≤ 9223372036854775807
  byte : ∀ x ∈ xs, x < 256

theorem getD_lt {xs : List Nat} (h : ∀ x ∈ xs, x < 256) (j : Nat) : xs.getD j 0 < 256 := by
  by_cases hj : j < xs.length
  · rw [List.getD_eq_getElem?_getD, List.getElem?_eq_getElem hj]; exact h _ (List.getElem_mem hj)
  · rw [List.getD_eq_getElem?_getD, List.getElem?_eq_none (by omega)]; decide

theorem BSl.move {w w' : World} {v : Value} {xs : List Nat} (h : BSl w v xs) (hm : ∀ a u, w.cell? a = some u → w'.cell? a = some u) : BSl w' v xs := by
  obtain ⟨⟨a, cap, rfl, hn, hc⟩, hmax, hb⟩ := h
  refine ⟨⟨a, cap, rfl, hn, ?_⟩, hmax, hb⟩
  rcases hc with hc | ⟨b, off, rfl, hc⟩
  · exact .inl hc
  · exact .inr ⟨b, off, rfl, fun j hj => hm _ _ (hc j hj)⟩

theorem keep_alloc (w : World) (o : Obj) : ∀ a u, w.cell? a = some u → (w.alloc o).cell? a = some u := by
  intro a u h
  exact (World.cell?_of_block (Below.heap_alloc w o a.block (World.block_lt_of_cell? w a h))).trans h

theorem keep_below {w w' : World} (hb : Below w.heap.size w w') : ∀ a u, w.cell? a = some u → w'.cell? a = some u := by
  intro a u h
  rw [hb.cell (World.block_lt_of_cell? w a h)]; exact h

def nstr (xs : List Nat) : ByteArray := strOfNums (xs.map fun x => ((x : Nat) : Int))

theorem nstr_inj {xs ys : List Nat} (hx : ∀ x ∈ xs, x < 256) (hy : ∀ x ∈ ys, x < 256) (h : (nstr xs).toList = (nstr ys).toList) : xs = ys := by
  have key : ∀ l : List Nat, (∀ x ∈ l, x < 256) → (nstr l).data.toList.map UInt8.toNat = l := by
    intro l hl
    simp only [nstr, strOfNums_data, List.map_map]
    conv => rhs; rw [← List.map_id l]
    apply List.map_congr_left
    intro x hx
    have := hl x hx
    simp; omega
  rw [ByteArray.toList_eq, ByteArray.toList_eq] at h
  rw [← key xs hx, ← key ys hy, h]

theorem BSl.text {w : World} {v : Value} {xs : List Nat} (h : BSl w v xs) : (convert 41 9 v).run Tryz.prog w = .ok (.string (nstr xs)) w := by
  obtain ⟨⟨a, cap, rfl, _, hc⟩, hmax, hb⟩ := h
  rcases hc with rfl | ⟨b, off, rfl, hc⟩
  · cases a with
    | none => exact run_convert_bytes_nil w 41 5 Tryz.underlying41 Tryz.underlying5 _ _ 9 Tryz.underlying9
    | some a =>
      rw [run_convert_bytes_string w 41 9 5 _ _ _ Tryz.underlying41 Tryz.underlying5 Tryz.underlying9]
      exact run_bytesToString w a 0 cap [] rfl
  · exact run_convert_bytes_arg w 41 5 Tryz.underlying41 Tryz.underlying5 b off xs.length cap (xs.map fun x => ((x : Nat) : Int)) (by simp) (fun i hi => by
      rw [hc i hi]; simp [List.getD, hi]) 9 Tryz.underlying9

theorem bv_get {xs : List Nat} {j : Nat} (h : j < xs.length) : (bv xs)[j]? = some (.int .u8 ((xs.getD j 0 : Nat) : Int)) := by
  simp [bv, h, List.getD]

theorem BSl.own {w : World} {B n : Nat} {v : Value} {xs : List Nat} (h : w.ownsRow B 5 1 v n (bv xs)) (hb : ∀ x ∈ xs, x < 256) : BSl w v xs := by
  have hn : n = xs.length := by have := h.1; simp [bv] at this; omega
  subst hn
  refine ⟨?_, ?_, hb⟩
  · rcases h.2 with ⟨rfl, h0⟩ | ⟨g, cap, cur, rfl, _, hg, h1, h2, h3, h4⟩
    · exact ⟨none, 0, by rw [h0], ⟨by omega, fun _ => rfl⟩, .inl (List.length_eq_zero_iff.1 h0)⟩
    · refine ⟨some ⟨g, 0, none⟩, cap, rfl, ⟨h1, fun h => by (cases h)⟩, .inr ⟨g, 0, rfl, fun j hj => ?_⟩⟩
      have := h.cells (g := g) rfl j _ (bv_get hj)
      have hadd : (⟨g, 0, none⟩ : Addr).add j = ⟨g, 0 + j, none⟩ := by unfold Addr.add; split <;> simp_all
      rw [hadd] at this
      exact this
  · rcases h.2 with ⟨rfl, h0⟩ | ⟨g, cap, cur, rfl, _, hg, h1, h2, h3, h4⟩
    · omega
    · unfold maxLen at h2; omega

theorem BSl.src {w : World} {ad : Addr} {n cap : Nat} {xs : List Nat} (h : BSl w (.slice (some ad) n cap) xs) : n = xs.length ∧ ∀ j u, (bv xs)[j]? = some u → w.cell? (ad.add j) = some u := by
  obtain ⟨⟨a, cap', e, _, hc⟩, _, _⟩ := h
  injection e with e1 e2 e3
  subst e1
  refine ⟨e2, ?_⟩
  rcases hc with rfl | ⟨b, off, e, hc⟩
  · intro j u hu; simp [bv] at hu
  · injection e with e
    subst e
    intro j u hu
    have hj : j < xs.length := by
      rcases Nat.lt_or_ge j xs.length with h | h
      · exact h
      · simp [bv, List.getElem?_eq_none h] at hu
    rw [bv_get hj] at hu
    injection hu with hu
    have hadd : (⟨b, off, none⟩ : Addr).add j = ⟨b, off + j, none⟩ := by unfold Addr.add; split <;> simp_all
    rw [hadd, hc j hj, hu]

theorem bv_one (xs : List Nat) : ∀ u ∈ bv xs, u.oneCell' = true := by
  intro u hu
  simp [bv] at hu
  obtain ⟨x, _, rfl⟩ := hu
  rfl

theorem bv_len (xs : List Nat) : (bv xs).length = xs.length := by simp [bv]

theorem append_bsl {ops : Array Oper} {rest : List Oper} {o : Oper} {a : Act} {Q : Exit → Act → World → Prop} {w : World} (hgd : o.guard = none) (s x : Operand)
    (ho : o.op = .call { callee := .builtin .append, args := #[s, x], argTypes := #[41, 41] }) (B : Nat) (v : Value) (n : Nat) (ds : List Nat) (hs : a.eval s = v) (hown : w.ownsRow B 5 1 v n (bv ds))
    (u : Value) (xs : List Nat) (hx : a.eval x = u) (hsl : BSl w u xs) (hlen : n + xs.length ≤ 140737488355328) (hbase : B ≤ w.heap.size)
    (h : ∀ v' w', w'.ownsRow B 5 1 v' (n + xs.length) (bv (ds ++ xs)) → w.grownBy w' v.ownBlock → wpList Tryz.prog ops Q rest (a.put o.dst v') w') : wpList Tryz.prog ops Q (o :: rest) a w := by
  obtain ⟨i5, hi, hz0, hz1, hz2⟩ := info5_ex
  obtain ⟨⟨ad, cap, rfl, hn, hc⟩, hmax, hb⟩ := id hsl
  cases ad with
  | none =>
    rcases hc with rfl | ⟨_, _, e, _⟩
    · have := hn.2 rfl
      subst this
      refine wpList_append_own_none hgd s x 41 ho B 5 i5 1 Tryz.underlying41 hi v n (bv ds) hs hown hx (h v w ?_ ⟨rfl, rfl, rfl, Nat.le_refl _, fun _ _ _ => rfl⟩)
      simpa using hown
    · cases e
  | some ad =>
    refine wpList_append_own w hgd s x 41 ho B 5 i5 (.int .u8 0) 1 1 Tryz.underlying41 hi hz0 hz1 hz2 rfl (by decide) v n (bv ds) hs hown ad xs.length cap (bv xs) hx (by simp [bv]) hsl.src.2 (bv_one xs) (by unfold maxLen; omega) (by omega) hbase fun v' w' h1 h2 _ => ?_
    exact h v' w' (by rw [bv_app]; exact h1) h2

theorem BSl.take {w : World} {a : Option Addr} {n cap : Nat} {xs : List Nat} (h : BSl w (.slice a n cap) xs) (k : Nat) (hk : k ≤ xs.length) : BSl w (.slice a k cap) (xs.take k) := by
  obtain ⟨⟨a', cap', e, hn, hc⟩, hm, hb⟩ := h
  injection e with e1 e2 e3
  subst e1
  subst e3
  have hl : (xs.take k).length = k := by rw [List.length_take]; omega
  refine ⟨⟨a, cap, by rw [hl], ⟨by rw [hl]; have := hn.1; omega, hn.2⟩, ?_⟩, by rw [hl]; omega, fun x hx => hb x (List.mem_of_mem_take hx)⟩
  rcases hc with rfl | ⟨b, off, e, hc⟩
  · exact .inl (by simp)
  · refine .inr ⟨b, off, e, fun j hj => ?_⟩
    rw [hl] at hj
    rw [hc j (by omega)]
    simp [List.getD, hj]

theorem one_bsl (w : World) (x : Nat) (hx : x < 256) : BSl (w.alloc (.cells #[.int .u8 ((x : Nat) : Int)] 5)) (.slice (some ⟨w.heap.size, 0, none⟩) 1 1) [x] := by
  refine ⟨⟨_, 1, rfl, ⟨by simp, fun h => by (cases h)⟩, .inr ⟨_, 0, rfl, fun j hj => ?_⟩⟩, by simp, by simpa using hx⟩
  match j, hj with
  | 0, _ => simp

theorem BSl.take3 {w : World} {a : Option Addr} {n cap : Nat} {xs : List Nat} (h : BSl w (.slice a n cap) xs) (k : Nat) (hk : k ≤ xs.length) : BSl w (.slice a k k) (xs.take k) := by
  obtain ⟨⟨a', cap', e, hn, hc⟩, hm, hb⟩ := h
  injection e with e1 e2 e3
  subst e1
  subst e3
  have hl : (xs.take k).length = k := by rw [List.length_take]; omega
  refine ⟨⟨a, k, by rw [hl], ⟨by rw [hl]; omega, fun h => by have := hn.2 h; have := hn.1; omega⟩, ?_⟩, by rw [hl]; omega, fun x hx => hb x (List.mem_of_mem_take hx)⟩
  rcases hc with rfl | ⟨b, off, e, hc⟩
  · exact .inl (by simp)
  · refine .inr ⟨b, off, e, fun j hj => ?_⟩
    rw [hl] at hj
    rw [hc j (by omega)]
    simp [List.getD, hj]
end
section
open Go.RowKit

end
section
open Go.RowKit
structure Kp (S : Nat → Prop) (w w' : World) : Prop where
  os : w'.os = w.os
  tape : w'.tape = w.tape
  output : w'.output = w.output
  size : w.heap.size ≤ w'.heap.size
  block : ∀ k, k < w.heap.size → ¬ S k → w'.heap[k]? = w.heap[k]?

theorem Kp.refl (S : Nat → Prop) (w : World) : Kp S w w := ⟨rfl, rfl, rfl, Nat.le_refl _, fun _ _ _ => rfl⟩
theorem Kp.trans {S T : Nat → Prop} {a b c : World} (h : Kp S a b) (g : Kp T b c) (hst : ∀ k, k < a.heap.size → T k → S k) : Kp S a c :=
  ⟨g.os.trans h.os, g.tape.trans h.tape, g.output.trans h.output, Nat.le_trans h.size g.size, fun k hk hs =>
    (g.block k (Nat.lt_of_lt_of_le hk h.size) (fun ht => hs (hst k hk ht))).trans (h.block k hk hs)⟩
theorem Kp.mono {S T : Nat → Prop} {w w' : World} (h : Kp S w w') (hst : ∀ k, k < w.heap.size → S k → T k) : Kp T w w' :=
  ⟨h.os, h.tape, h.output, h.size, fun k hk ht => h.block k hk (fun hs => ht (hst k hk hs))⟩
theorem Kp.alloc {S : Nat → Prop} {a w : World} (h : Kp S a w) (o : Obj) : Kp S a (w.alloc o) :=
  ⟨h.os, h.tape, h.output, by have := h.size; simp; omega, fun k hk hs => (Below.heap_alloc w o k (Nat.lt_of_lt_of_le hk h.size)).trans (h.block k hk hs)⟩
theorem Kp.drewN {S : Nat → Prop} {a w : World} (h : Kp S a w) (n : Nat) : Kp S a (w.drewN n) := ⟨h.os, h.tape, h.output, h.size, h.block⟩
theorem Kp.setCell {S : Nat → Prop} {a w : World} (h : Kp S a w) (p : Addr) (v : Value) (hp : p.block < a.heap.size → S p.block) : Kp S a (w.setCell p v) :=
  ⟨h.os, h.tape, h.output, by have := h.size; simp [World.setCell]; omega, fun k hk hs => (Below.heap_setCell w p v k (fun e => hs (e ▸ hp (e ▸ hk)))).trans (h.block k hk hs)⟩
theorem Kp.grown {S : Nat → Prop} {a w w' : World} {row : Option Nat} (h : Kp S a w) (hg : w.grownBy w' row) (hr : ∀ k, k < a.heap.size → row = some k → S k) : Kp S a w' :=
  ⟨hg.os.trans h.os, hg.tape.trans h.tape, hg.output.trans h.output, Nat.le_trans h.size hg.size, fun k hk hs =>
    (hg.block k (Nat.lt_of_lt_of_le hk h.size) (fun e => hs (hr k hk e.symm))).trans (h.block k hk hs)⟩
theorem Kp.of_below {S : Nat → Prop} {w w' : World} (h : Below w.heap.size w w') : Kp S w w' := ⟨h.os, h.tape, h.output, h.size, fun k hk _ => h.block k hk⟩
theorem Kp.below {S : Nat → Prop} {w w' : World} {B : Nat} (h : Kp S w w') (hB : B ≤ w.heap.size) (hs : ∀ k, S k → B ≤ k) : Below B w w' :=
  ⟨h.os, h.tape, h.output, h.size, fun k hk => h.block k (by omega) (fun hsk => by have := hs k hsk; omega)⟩
theorem Kp.cell {S : Nat → Prop} {w w' : World} (h : Kp S w w') {p : Addr} {v : Value} (hc : w.cell? p = some v) (hs : ¬ S p.block) : w'.cell? p = some v :=
  (World.cell?_of_block (h.block p.block (World.block_lt_of_cell? w p hc) hs)).trans hc
theorem Kp.owns {S : Nat → Prop} {w w' : World} (h : Kp S w w') {base : Nat} {e : TypeId} {size : Nat} {v : Value} {n : Nat} {xs : List Value} (ho : w.ownsRow base e size v n xs) (hs : ∀ k, v.ownBlock = some k → ¬ S k) : w'.ownsRow base e size v n xs := by
  refine ⟨ho.1, ?_⟩
  rcases ho.2 with hn | ⟨g, cap, cur, rfl, hb, hgg, rest⟩
  · exact .inl hn
  · refine .inr ⟨g, cap, cur, rfl, hb, ?_, rest⟩
    rw [h.block g (Array.getElem?_eq_some_iff.1 hgg).1 (hs g rfl)]
    exact hgg
theorem Kp.bsl {S : Nat → Prop} {w w' : World} (h : Kp S w w') {v : Value} {xs : List Nat} (hb : BSl w v xs) (hs : ∀ k, v.ownBlock = some k → ¬ S k) : BSl w' v xs := by
  obtain ⟨⟨a, cap, rfl, hn, hc⟩, hm, hby⟩ := hb
  refine ⟨⟨a, cap, rfl, hn, ?_⟩, hm, hby⟩
  rcases hc with hc | ⟨b, off, rfl, hc⟩
  · exact .inl hc
  · exact .inr ⟨b, off, rfl, fun j hj => h.cell (hc j hj) (hs b rfl)⟩

theorem blk_cell {w : World} {b : Nat} {cur : Array Value} {e : TypeId} {j : Nat} {v : Value} (h : w.heap[b]? = some (.cells cur e (0, 0))) (hv : cur[j]? = some v) : w.cell? ⟨b, j, none⟩ = some v := by
  simp [World.cell?, h, hv]
theorem blk_frozen {w : World} {b : Nat} {cur : Array Value} {e : TypeId} (j : Nat) (h : w.heap[b]? = some (.cells cur e (0, 0))) : w.frozen? ⟨b, j, none⟩ = false := by
  simp [World.frozen?, h]
theorem blk_set {w : World} {b : Nat} {cur : Array Value} {e : TypeId} (j : Nat) (v : Value) (h : w.heap[b]? = some (.cells cur e (0, 0))) : (w.setCell ⟨b, j, none⟩ v).heap[b]? = some (.cells (cur.setIfInBounds j v) e (0, 0)) := by
  simp [World.setCell, Array.getElem?_modify, h]
theorem blk_other {w : World} {b c : Nat} {o : Obj} (j : Nat) (v : Value) (h : w.heap[c]? = some o) (hne : c ≠ b) : (w.setCell ⟨b, j, none⟩ v).heap[c]? = some o := by
  rw [Below.heap_setCell w ⟨b, j, none⟩ v c hne]; exact h
theorem blk_lt {w : World} {b : Nat} {o : Obj} (h : w.heap[b]? = some o) : b < w.heap.size := (Array.getElem?_eq_some_iff.1 h).1
theorem blk_alloc {w : World} {b : Nat} {o : Obj} (o' : Obj) (h : w.heap[b]? = some o) : (w.alloc o').heap[b]? = some o := (Below.heap_alloc w o' b (blk_lt h)).trans h
end
section
open Go.RowKit Go
def sl (s : ByteArray) : List Nat := s.data.toList.map UInt8.toNat
theorem sl_byte (s : ByteArray) : ∀ x ∈ sl s, x < 256 := fun x hx => by
  obtain ⟨u, _, rfl⟩ := List.mem_map.1 hx
  exact u.toNat_lt
theorem sl_len (s : ByteArray) : (sl s).length = s.size := by
  unfold sl
  rw [List.length_map, Array.length_toList]
  rfl
theorem sl_get (s : ByteArray) (j : Nat) : (sl s).getD j 0 = (s.data.toList.getD j 0).toNat := by
  simp only [sl, List.getD, List.getElem?_map]
  cases s.data.toList[j]? <;> simp
theorem conv_sb (w : World) (s : ByteArray) : (convert 9 41 (.string s)).run Tryz.prog w = .ok (.slice (some ⟨w.heap.size, 0, none⟩) s.size (grownCap w s.size 0 5)) (Lib.bytesWorld w 5 s) := Lib.run_convert_string_bytes w 9 41 5 s Tryz.underlying9 Tryz.underlying41 Tryz.underlying5
theorem conv_sb_below (w : World) (s : ByteArray) : Below w.heap.size w (Lib.bytesWorld w 5 s) :=
  ⟨rfl, rfl, rfl, by rw [Lib.bytesWorld_size]; omega, fun k hk => Lib.bytesWorld_at_old w 5 s k hk⟩
theorem conv_sb_bsl (w : World) (s : ByteArray) (hs : s.size ≤ 9223372036854775807) : BSl (Lib.bytesWorld w 5 s) (.slice (some ⟨w.heap.size, 0, none⟩) s.size (grownCap w s.size 0 5)) (sl s) := by
  refine ⟨⟨_, _, by rw [sl_len], ⟨by rw [sl_len]; exact grownCap_ge w s.size 0 5, fun h => by cases h⟩, .inr ⟨w.heap.size, 0, rfl, fun j hj => ?_⟩⟩, by rw [sl_len]; exact hs, sl_byte s⟩
  rw [sl_len] at hj
  rw [Nat.zero_add, Lib.bytesWorld_cell w 5 s j hj, sl_get]
end
section
open Go.RowKit

end
section
open Go.RowKit
theorem own_form {w : World} {base : Nat} {e : TypeId} {v : Value} {n : Nat} {xs : List Value} (h : w.ownsRow base e 1 v n xs) : ∃ a cap, v = .slice a n cap ∧ n ≤ cap ∧ n ≤ 9223372036854775807 ∧ ∀ j u, xs[j]? = some u → ∃ g, a = some ⟨g, 0, none⟩ ∧ w.cell? ⟨g, j, none⟩ = some u := by
  have hlen : xs.length = n := by have := h.1; omega
  rcases h.2 with ⟨rfl, h0⟩ | ⟨g, cap, cur, rfl, _, hg, h1, h2, h3, h4⟩
  · refine ⟨none, 0, by rw [h0], by omega, by omega, fun j u hu => ?_⟩
    have : xs = [] := List.length_eq_zero_iff.1 (by omega)
    rw [this] at hu
    simp at hu
  · refine ⟨some ⟨g, 0, none⟩, cap, rfl, h1, by unfold maxLen at h2; omega, fun j u hu => ⟨g, rfl, ?_⟩⟩
    have := h.cells (g := g) rfl j u hu
    have hadd : (⟨g, 0, none⟩ : Addr).add j = ⟨g, j, none⟩ := by unfold Addr.add; split <;> simp_all
    rw [hadd] at this
    exact this
end
section
open Go.RowKit

end
section
open Go.RowKit
def beb : Nat → Nat → List Nat
  | 0, _ => []
  | k + 1, n => (n / 256 ^ k % 256) :: beb k n
theorem beb_len : ∀ k n, (beb k n).length = k
  | 0, _ => rfl
  | k + 1, n => by simp [beb, beb_len k n]
theorem beb_byte : ∀ k n x, x ∈ beb k n → x < 256
  | 0, _, _, h => by simp [beb] at h
  | k + 1, n, x, h => by
    rcases List.mem_cons.1 h with h | h
    · subst h; exact Nat.mod_lt _ (by decide)
    · exact beb_byte k n x h
def rt (x n : Nat) : Nat := x / 2 ^ n + x % 2 ^ n * 2 ^ (32 - n)
def ls0 (x : Nat) : Nat := rt x 7 ^^^ rt x 18 ^^^ x / 8
def ls1 (x : Nat) : Nat := rt x 17 ^^^ rt x 19 ^^^ x / 1024
def us0 (x : Nat) : Nat := rt x 2 ^^^ rt x 13 ^^^ rt x 22
def us1 (x : Nat) : Nat := rt x 6 ^^^ rt x 11 ^^^ rt x 25
def cho (e f g : Nat) : Nat := (e &&& f) ^^^ ((4294967295 - e) &&& g)
def maj (a b c : Nat) : Nat := (a &&& b) ^^^ (a &&& c) ^^^ (b &&& c)
def kk : List Nat := [0x428a2f98, 0x71374491, 0xb5c0fbcf, 0xe9b5dba5, 0x3956c25b, 0x59f111f1, 0x923f82a4, 0xab1c5ed5,
  0xd807aa98, 0x12835b01, 0x243185be, 0x550c7dc3, 0x72be5d74, 0x80deb1fe, 0x9bdc06a7, 0xc19bf174,
  0xe49b69c1, 0xefbe4786, 0x0fc19dc6, 0x240ca1cc, 0x2de92c6f, 0x4a7484aa, 0x5cb0a9dc, 0x76f988da,
  0x983e5152, 0xa831c66d, 0xb00327c8, 0xbf597fc7, 0xc6e00bf3, 0xd5a79147, 0x06ca6351, 0x14292967,
  0x27b70a85, 0x2e1b2138, 0x4d2c6dfc, 0x53380d13, 0x650a7354, 0x766a0abb, 0x81c2c92e, 0x92722c85,
  0xa2bfe8a1, 0xa81a664b, 0xc24b8b70, 0xc76c51a3, 0xd192e819, 0xd6990624, 0xf40e3585, 0x106aa070,
  0x19a4c116, 0x1e376c08, 0x2748774c, 0x34b0bcb5, 0x391c0cb3, 0x4ed8aa4a, 0x5b9cca4f, 0x682e6ff3,
  0x748f82ee, 0x78a5636f, 0x84c87814, 0x8cc70208, 0x90befffa, 0xa4506ceb, 0xbef9a3f7, 0xc67178f2]
def hh : List Nat := [0x6a09e667, 0xbb67ae85, 0x3c6ef372, 0xa54ff53a, 0x510e527f, 0x9b05688c, 0x1f83d9ab, 0x5be0cd19]
def rT (v : List Nat) (k w : Nat) : Nat := (v.getD 7 0 + us1 (v.getD 4 0) + cho (v.getD 4 0) (v.getD 5 0) (v.getD 6 0) + k + w) % 4294967296
def rU (v : List Nat) : Nat := (us0 (v.getD 0 0) + maj (v.getD 0 0) (v.getD 1 0) (v.getD 2 0)) % 4294967296
def rnd (v : List Nat) (k w : Nat) : List Nat := [(rT v k w + rU v) % 4294967296, v.getD 0 0, v.getD 1 0, v.getD 2 0, (v.getD 3 0 + rT v k w) % 4294967296, v.getD 4 0, v.getD 5 0, v.getD 6 0]
def wrd (l : List Nat) (p : Nat) : Nat := ((l.getD p 0 * 256 + l.getD (p + 1) 0) * 256 + l.getD (p + 2) 0) * 256 + l.getD (p + 3) 0
def nextW (l : List Nat) (n : Nat) : Nat := (ls1 (l.getD (n - 2) 0) + l.getD (n - 7) 0 + ls0 (l.getD (n - 15) 0) + l.getD (n - 16) 0) % 4294967296
def wl (b : List Nat) (p : Nat) : Nat → List Nat
  | 0 => []
  | n + 1 => wl b p n ++ [if n < 16 then wrd b (p + 4 * n) else nextW (wl b p n) n]
def rl (b : List Nat) (p : Nat) (s : List Nat) : Nat → List Nat
  | 0 => s
  | n + 1 => rnd (rl b p s n) (kk.getD n 0) ((wl b p (n + 1)).getD n 0)
def cmp (b : List Nat) (p : Nat) (s : List Nat) : List Nat := List.zipWith (fun x y => (x + y) % 4294967296) s (rl b p s 64)
def abs (b s : List Nat) : Nat → List Nat
  | 0 => s
  | n + 1 => cmp b (64 * n) (abs b s n)
def zer (n : Nat) : Nat := (119 - n % 64) % 64
def pad (b : List Nat) : List Nat := b ++ [128] ++ List.replicate (zer b.length) 0 ++ beb 8 (8 * b.length)
def outb (s : List Nat) : List Nat := s.flatMap (beb 4)
def sha (b : List Nat) : List Nat := outb (abs (pad b) hh ((pad b).length / 64))

theorem rt_lt {x n : Nat} (hx : x < 4294967296) (hn : n ≤ 32) : rt x n < 4294967296 := by
  unfold rt
  have hp : 0 < 2 ^ n := Nat.pow_pos (by decide)
  have hq : 0 < 2 ^ (32 - n) := Nat.pow_pos (by decide)
  have he : 2 ^ n * 2 ^ (32 - n) = 4294967296 := by rw [← Nat.pow_add]; have : n + (32 - n) = 32 := by omega
                                                    rw [this]
  have h1 : x / 2 ^ n < 2 ^ (32 - n) := by rw [Nat.div_lt_iff_lt_mul hp, Nat.mul_comm, he]; exact hx
  have h2 : x % 2 ^ n + 1 ≤ 2 ^ n := Nat.mod_lt _ hp
  have h3 : (x % 2 ^ n + 1) * 2 ^ (32 - n) ≤ 2 ^ n * 2 ^ (32 - n) := Nat.mul_le_mul_right _ h2
  rw [he, Nat.add_mul, Nat.one_mul] at h3
  omega
theorem xor_lt {a b : Nat} (ha : a < 4294967296) (hb : b < 4294967296) : a ^^^ b < 4294967296 := Nat.xor_lt_two_pow (n := 32) ha hb
theorem and_lt {a b : Nat} (ha : a < 4294967296) : a &&& b < 4294967296 := Nat.lt_of_le_of_lt Nat.and_le_left ha
theorem us0_lt {x : Nat} (h : x < 4294967296) : us0 x < 4294967296 := xor_lt (xor_lt (rt_lt h (by decide)) (rt_lt h (by decide))) (rt_lt h (by decide))
theorem us1_lt {x : Nat} (h : x < 4294967296) : us1 x < 4294967296 := xor_lt (xor_lt (rt_lt h (by decide)) (rt_lt h (by decide))) (rt_lt h (by decide))
theorem ls0_lt {x : Nat} (h : x < 4294967296) : ls0 x < 4294967296 := xor_lt (xor_lt (rt_lt h (by decide)) (rt_lt h (by decide))) (by omega)
theorem ls1_lt {x : Nat} (h : x < 4294967296) : ls1 x < 4294967296 := xor_lt (xor_lt (rt_lt h (by decide)) (rt_lt h (by decide))) (by omega)
theorem cho_lt {e f g : Nat} (h : e < 4294967296) : cho e f g < 4294967296 := xor_lt (and_lt h) (and_lt (by omega))
theorem maj_lt {a b c : Nat} (ha : a < 4294967296) (hb : b < 4294967296) : maj a b c < 4294967296 := xor_lt (xor_lt (and_lt ha) (and_lt ha)) (and_lt hb)
theorem wl_len (b : List Nat) (p : Nat) : ∀ n, (wl b p n).length = n
  | 0 => rfl
  | n + 1 => by simp [wl, wl_len b p n]
theorem getD_app {l : List Nat} {x j : Nat} (h : j < l.length) : (l ++ [x]).getD j 0 = l.getD j 0 := by
  simp [List.getD, List.getElem?_append_left h]
theorem wl_get (b : List Nat) (p : Nat) : ∀ n m j, j < n → n ≤ m → (wl b p m).getD j 0 = (wl b p n).getD j 0
  | n, m, j, hj, hm => by
    induction m with
    | zero => omega
    | succ m ih =>
      by_cases h : n = m + 1
      · rw [h]
      · rw [wl, getD_app (by rw [wl_len]; omega)]
        exact ih (by omega)
theorem rl_len (b : List Nat) (p : Nat) (s : List Nat) (h : s.length = 8) : ∀ n, (rl b p s n).length = 8
  | 0 => h
  | _ + 1 => rfl
theorem cmp_len (b : List Nat) (p : Nat) (s : List Nat) (h : s.length = 8) : (cmp b p s).length = 8 := by
  simp [cmp, h, rl_len b p s h]
theorem abs_len (b s : List Nat) (h : s.length = 8) : ∀ n, (abs b s n).length = 8
  | 0 => h
  | n + 1 => cmp_len _ _ _ (abs_len b s h n)
end
section
open Go.RowKit
set_option maxRecDepth 1000000 in
theorem refTurn_any (x n : Nat) (w : World) (hx : x < 4294967296) (hn : n = 2 ∨ n = 6 ∨ n = 7 ∨ n = 11 ∨ n = 13 ∨ n = 17 ∨ n = 18 ∨ n = 19 ∨ n = 22 ∨ n = 25) :
    Calls Tryz.prog 78 #[.int .u32 (x : Nat), .int .i64 (n : Nat)] w fun e w' => e = .returned (.int .u32 (rt x n : Nat)) ∧ w' = w := by
  have hr := rt_lt (n := n) hx (by omega)
  unfold rt at hr ⊢
  rcases hn with rfl | rfl | rfl | rfl | rfl | rfl | rfl | rfl | rfl | rfl
  · have e : ((x / 2 ^ 2 + x % 2 ^ 2 * 2 ^ (32 - 2) : Nat) : Int) = (x : Int) / 4 + (x : Int) % 4 * 1073741824 := by omega
    rw [e]
    have hb : (x : Int) / 4 + (x : Int) % 4 * 1073741824 < 4294967296 := by omega
    clear hr e
    go_enter Tryz.func78, Tryz.ntmps78
    go_wp2
    go_ret
    exact ⟨rfl, rfl⟩
  · have e : ((x / 2 ^ 6 + x % 2 ^ 6 * 2 ^ (32 - 6) : Nat) : Int) = (x : Int) / 64 + (x : Int) % 64 * 67108864 := by omega
    rw [e]
    have hb : (x : Int) / 64 + (x : Int) % 64 * 67108864 < 4294967296 := by omega
    clear hr e
    go_enter Tryz.func78, Tryz.ntmps78
    go_wp2
    go_ret
    exact ⟨rfl, rfl⟩
  · have e : ((x / 2 ^ 7 + x % 2 ^ 7 * 2 ^ (32 - 7) : Nat) : Int) = (x : Int) / 128 + (x : Int) % 128 * 33554432 := by omega
    rw [e]
    have hb : (x : Int) / 128 + (x : Int) % 128 * 33554432 < 4294967296 := by omega
    clear hr e
    go_enter Tryz.func78, Tryz.ntmps78
    go_wp2
    go_ret
    exact ⟨rfl, rfl⟩
  · have e : ((x / 2 ^ 11 + x % 2 ^ 11 * 2 ^ (32 - 11) : Nat) : Int) = (x : Int) / 2048 + (x : Int) % 2048 * 2097152 := by omega
    rw [e]
    have hb : (x : Int) / 2048 + (x : Int) % 2048 * 2097152 < 4294967296 := by omega
    clear hr e
    go_enter Tryz.func78, Tryz.ntmps78
    go_wp2
    go_ret
    exact ⟨rfl, rfl⟩
  · have e : ((x / 2 ^ 13 + x % 2 ^ 13 * 2 ^ (32 - 13) : Nat) : Int) = (x : Int) / 8192 + (x : Int) % 8192 * 524288 := by omega
    rw [e]
    have hb : (x : Int) / 8192 + (x : Int) % 8192 * 524288 < 4294967296 := by omega
    clear hr e
    go_enter Tryz.func78, Tryz.ntmps78
    go_wp2
    go_ret
    exact ⟨rfl, rfl⟩
  · have e : ((x / 2 ^ 17 + x % 2 ^ 17 * 2 ^ (32 - 17) : Nat) : Int) = (x : Int) / 131072 + (x : Int) % 131072 * 32768 := by omega
    rw [e]
    have hb : (x : Int) / 131072 + (x : Int) % 131072 * 32768 < 4294967296 := by omega
    clear hr e
    go_enter Tryz.func78, Tryz.ntmps78
    go_wp2
    go_ret
    exact ⟨rfl, rfl⟩
  · have e : ((x / 2 ^ 18 + x % 2 ^ 18 * 2 ^ (32 - 18) : Nat) : Int) = (x : Int) / 262144 + (x : Int) % 262144 * 16384 := by omega
    rw [e]
    have hb : (x : Int) / 262144 + (x : Int) % 262144 * 16384 < 4294967296 := by omega
    clear hr e
    go_enter Tryz.func78, Tryz.ntmps78
    go_wp2
    go_ret
    exact ⟨rfl, rfl⟩
  · have e : ((x / 2 ^ 19 + x % 2 ^ 19 * 2 ^ (32 - 19) : Nat) : Int) = (x : Int) / 524288 + (x : Int) % 524288 * 8192 := by omega
    rw [e]
    have hb : (x : Int) / 524288 + (x : Int) % 524288 * 8192 < 4294967296 := by omega
    clear hr e
    go_enter Tryz.func78, Tryz.ntmps78
    go_wp2
    go_ret
    exact ⟨rfl, rfl⟩
  · have e : ((x / 2 ^ 22 + x % 2 ^ 22 * 2 ^ (32 - 22) : Nat) : Int) = (x : Int) / 4194304 + (x : Int) % 4194304 * 1024 := by omega
    rw [e]
    have hb : (x : Int) / 4194304 + (x : Int) % 4194304 * 1024 < 4294967296 := by omega
    clear hr e
    go_enter Tryz.func78, Tryz.ntmps78
    go_wp2
    go_ret
    exact ⟨rfl, rfl⟩
  · have e : ((x / 2 ^ 25 + x % 2 ^ 25 * 2 ^ (32 - 25) : Nat) : Int) = (x : Int) / 33554432 + (x : Int) % 33554432 * 128 := by omega
    rw [e]
    have hb : (x : Int) / 33554432 + (x : Int) % 33554432 * 128 < 4294967296 := by omega
    clear hr e
    go_enter Tryz.func78, Tryz.ntmps78
    go_wp2
    go_ret
    exact ⟨rfl, rfl⟩

theorem refTurn_gen (x : Nat) (n : Int) (w : World) (hx : x < 4294967296) (hn : n = 2 ∨ n = 6 ∨ n = 7 ∨ n = 11 ∨ n = 13 ∨ n = 17 ∨ n = 18 ∨ n = 19 ∨ n = 22 ∨ n = 25) :
    Calls Tryz.prog 78 #[.int .u32 (x : Nat), .int .i64 n] w fun e w' => e = .returned (.int .u32 (rt x n.toNat : Nat)) ∧ w' = w := by
  obtain ⟨k, rfl⟩ := Int.eq_ofNat_of_zero_le (show 0 ≤ n by omega)
  rw [Int.toNat_natCast]
  exact refTurn_any x k w hx (by omega)
def pwd (l : List Nat) (p : Nat) : Nat → Nat
  | 0 => 0
  | j + 1 => 256 * pwd l p j + l.getD (p + j) 0
theorem pwd_lt {l : List Nat} (h : ∀ x ∈ l, x < 256) (p : Nat) : ∀ j, pwd l p j < 256 ^ j
  | 0 => by simp [pwd]
  | j + 1 => by
    have h1 := pwd_lt h p j
    have h2 := getD_lt h (p + j)
    simp only [pwd, Nat.pow_succ]
    omega
theorem pwd_four (l : List Nat) (p : Nat) : pwd l p 4 = wrd l p := by
  simp only [pwd, wrd, Nat.add_zero]
  omega
theorem wrd_lt {l : List Nat} (h : ∀ x ∈ l, x < 256) (p : Nat) : wrd l p < 4294967296 := by
  rw [← pwd_four]; exact pwd_lt h p 4

set_option maxRecDepth 1000000 in
theorem refWord_any (w : World) (v : Value) (l : List Nat) (p : Nat) (hsl : BSl w v l) (hp : p + 4 ≤ l.length) :
    Calls Tryz.prog 77 #[v, .int .i64 (p : Nat)] w fun e w' => e = .returned (.int .u32 (wrd l p : Nat)) ∧ w' = w := by
  obtain ⟨⟨a, cap, rfl, hn, hc⟩, hmax, hb⟩ := hsl
  rcases hc with hc | ⟨b, off, rfl, hc⟩
  · subst hc; simp at hp
  have HC := hide hc
  have HB := hide hb
  clear hn hc hb
  rw [← pwd_four]
  go_enter Tryz.func77, Tryz.ntmps77
  go_wp2
  go_loop [5, 6] (fun n i => ∃ j : Nat, j ≤ 4 ∧ i = .int .i64 (j : Nat) ∧ n = .int .u32 (pwd l p j : Nat)) (fun _ i => 4 - (intOf i).toNat)
  case atStart => exact ⟨0, by omega, rfl, rfl⟩
  case round =>
    obtain ⟨j, hj, rfl, rfl⟩ := hrel
    by_cases hlt : j < 4
    · have hlt' : (j : Int) < 4 := by omega
      have c : w.cell? ⟨b, off + (p + j), none⟩ = some (.int .u8 ((l.getD (p + j) 0 : Nat) : Int)) := HC.out (p + j) (by omega)
      have hy := getD_lt HB.out (p + j)
      have hN : pwd l p j < 16777216 := by
        have h1 := pwd_lt HB.out p j
        have h2 : 256 ^ j ≤ 256 ^ 3 := Nat.pow_le_pow_right (by decide) (by omega)
        simp at h2
        omega
      have HE : Hid (pwd l p (j + 1) = 256 * pwd l p j + l.getD (p + j) 0) := rfl
      generalize l.getD (p + j) 0 = y at *
      generalize pwd l p j = N at *
      have hi : (p : Int) + (j : Int) < (l.length : Int) := by omega
      go_wp2
      go_round
      case rel => exact ⟨j + 1, by omega, by go_num, by rw [HE.out]; go_num⟩
      case measure => simp [intOf]; omega
    · have hj4 : j = 4 := by omega
      subst hj4
      go_wp2
      go_ret
      exact ⟨rfl, rfl⟩
end
section
open Go.RowKit
def wv (l : List Nat) : List Value := l.map fun x => Value.int .u32 ((x : Nat) : Int)
theorem wv_len (l : List Nat) : (wv l).length = l.length := by simp [wv]
theorem wv_get {l : List Nat} {j : Nat} (h : j < l.length) : (wv l)[j]? = some (.int .u32 ((l.getD j 0 : Nat) : Int)) := by
  simp [wv, h, List.getD]
theorem wv_set (l : List Nat) (j x : Nat) : (wv l).set j (.int .u32 ((x : Nat) : Int)) = wv (l.set j x) := by
  simp [wv, List.map_set]

theorem info64 : (Tryz.prog.info? 131).map (·.size) = some (wv kk).toArray.size := by kernel_rfl
theorem results_one {fn : Func} {p : Tmp} {ty : TypeId} (h : fn.results = #[.cell p ty]) (tmps : Array Value) (P : Program) (w : World) :
    (results fn tmps).run P w = ((asAddr (tmps.getD p undef)).run P w).andThen fun a w₁ => (loadVar ty a).run P w₁ := by
  simp only [results, h]
  simp [Sem.run_bind, Result.andThen]

def evs (a : Act) (parts : Array (Nat × Operand)) : Array (Nat × Value) := parts.map fun (i, x) => (i, a.eval x)
theorem wpList_buildW {T : TypeId} {A : Array Value} {parts : Array (Nat × Operand)} {ops : Array Oper} {rest : List Oper} {o : Oper} {a : Act} {Q : Exit → Act → World → Prop} {w : World} (hgd : o.guard = none) (ho : o.op = .build T parts)
    (hb : Tryz.prog.built T (evs a parts).toList = some A)
    (h : wpList Tryz.prog ops Q rest (a.put o.dst (.agg A)) w) : wpList Tryz.prog ops Q (o :: rest) a w := by
  refine wpList_plain hgd fun K hK => ?_
  unfold Oper.wp execOp
  have hr := run_build (P := Tryz.prog) w T (evs a parts) A hb
  unfold evs at hr
  simp only [ho, Sem.run_bind, hr, Result.andThen_ok]
  exact hK _ _ h
theorem wvkk_len : (wv kk).length = 64 := by kernel_rfl
theorem store_kk (w : World) : Sem.run Tryz.prog (storeCells ⟨w.heap.size, 0, none⟩ (wv kk)) (w.alloc (.cells #[.int .u32 0, .int .u32 0, .int .u32 0, .int .u32 0, .int .u32 0, .int .u32 0, .int .u32 0, .int .u32 0, .int .u32 0, .int .u32 0, .int .u32 0, .int .u32 0, .int .u32 0, .int .u32 0, .int .u32 0, .int .u32 0, .int .u32 0, .int .u32 0, .int .u32 0, .int .u32 0, .int .u32 0, .int .u32 0, .int .u32 0, .int .u32 0, .int .u32 0, .int .u32 0, .int .u32 0, .int .u32 0, .int .u32 0, .int .u32 0, .int .u32 0, .int .u32 0, .int .u32 0, .int .u32 0, .int .u32 0, .int .u32 0, .int .u32 0, .int .u32 0, .int .u32 0, .int .u32 0, .int .u32 0, .int .u32 0, .int .u32 0, .int .u32 0, .int .u32 0, .int .u32 0, .int .u32 0, .int .u32 0, .int .u32 0, .int .u32 0, .int .u32 0, .int .u32 0, .int .u32 0, .int .u32 0, .int .u32 0, .int .u32 0, .int .u32 0, .int .u32 0, .int .u32 0, .int .u32 0, .int .u32 0, .int .u32 0, .int .u32 0, .int .u32 0] 131)) = .ok () (w.alloc (.cells (wv kk).toArray 131)) := by
  have h := run_storeCells_new (P := Tryz.prog) w 131 #[.int .u32 0, .int .u32 0, .int .u32 0, .int .u32 0, .int .u32 0, .int .u32 0, .int .u32 0, .int .u32 0, .int .u32 0, .int .u32 0, .int .u32 0, .int .u32 0, .int .u32 0, .int .u32 0, .int .u32 0, .int .u32 0, .int .u32 0, .int .u32 0, .int .u32 0, .int .u32 0, .int .u32 0, .int .u32 0, .int .u32 0, .int .u32 0, .int .u32 0, .int .u32 0, .int .u32 0, .int .u32 0, .int .u32 0, .int .u32 0, .int .u32 0, .int .u32 0, .int .u32 0, .int .u32 0, .int .u32 0, .int .u32 0, .int .u32 0, .int .u32 0, .int .u32 0, .int .u32 0, .int .u32 0, .int .u32 0, .int .u32 0, .int .u32 0, .int .u32 0, .int .u32 0, .int .u32 0, .int .u32 0, .int .u32 0, .int .u32 0, .int .u32 0, .int .u32 0, .int .u32 0, .int .u32 0, .int .u32 0, .int .u32 0, .int .u32 0, .int .u32 0, .int .u32 0, .int .u32 0, .int .u32 0, .int .u32 0, .int .u32 0, .int .u32 0] (wv kk).toArray info64 (by kernel_rfl) (by kernel_rfl)
  exact h

set_option maxRecDepth 1000000 in
set_option maxHeartbeats 4000000 in
theorem refFactor_any (w : World) : Calls Tryz.prog 76 #[] w fun e w' => e = .returned (.agg (wv kk).toArray) ∧ Below w.heap.size w w' := by
  have hst := store_kk w
  have hkl := wvkk_len
  go_enter Tryz.func76, Tryz.ntmps76
  go_wp2_with (refine wpList_buildW (A := (wv kk).toArray) rfl rfl (by kernel_rfl) ?_)
  refine bodyPost_ret (v := .agg (wv kk).toArray) ((results_one (p := 0) (ty := 131) rfl _ _ _).trans (run_loadVar_new w 131 _ 64 49 Tryz.underlying131 info64)) rfl ⟨rfl, ?_⟩
  exact (Below.refl _ _).alloc (Nat.le_refl _) _
end
section
open Go.RowKit
theorem zero64 : (wv (List.replicate 64 0)).toArray = #[.int .u32 0, .int .u32 0, .int .u32 0, .int .u32 0, .int .u32 0, .int .u32 0, .int .u32 0, .int .u32 0, .int .u32 0, .int .u32 0, .int .u32 0, .int .u32 0, .int .u32 0, .int .u32 0, .int .u32 0, .int .u32 0, .int .u32 0, .int .u32 0, .int .u32 0, .int .u32 0, .int .u32 0, .int .u32 0, .int .u32 0, .int .u32 0, .int .u32 0, .int .u32 0, .int .u32 0, .int .u32 0, .int .u32 0, .int .u32 0, .int .u32 0, .int .u32 0, .int .u32 0, .int .u32 0, .int .u32 0, .int .u32 0, .int .u32 0, .int .u32 0, .int .u32 0, .int .u32 0, .int .u32 0, .int .u32 0, .int .u32 0, .int .u32 0, .int .u32 0, .int .u32 0, .int .u32 0, .int .u32 0, .int .u32 0, .int .u32 0, .int .u32 0, .int .u32 0, .int .u32 0, .int .u32 0, .int .u32 0, .int .u32 0, .int .u32 0, .int .u32 0, .int .u32 0, .int .u32 0, .int .u32 0, .int .u32 0, .int .u32 0, .int .u32 0] := by kernel_rfl

structure RBk (wx : World) (B K : Nat) (s ws v : List Nat) : Prop where
  s : wx.heap[B]? = some (.cells (wv s).toArray 93 (0, 0))
  r : wx.heap[B + 1]? = some (.cells #[.int .u32 0, .int .u32 0, .int .u32 0, .int .u32 0, .int .u32 0, .int .u32 0, .int .u32 0, .int .u32 0] 93 (0, 0))
  w : wx.heap[B + 1 + 1]? = some (.cells (wv ws).toArray 131 (0, 0))
  k : wx.heap[K]? = some (.cells (wv kk).toArray 131 (0, 0))
  v : wx.heap[K + 1]? = some (.cells (wv v).toArray 93 (0, 0))
theorem wvt_get {l : List Nat} {j : Nat} (h : j < l.length) : (wv l).toArray[j]? = some (.int .u32 ((l.getD j 0 : Nat) : Int)) := by
  rw [List.getElem?_toArray]; exact wv_get h
theorem wvt_set (l : List Nat) (j x : Nat) : (wv l).toArray.setIfInBounds j (.int .u32 ((x : Nat) : Int)) = (wv (l.set j x)).toArray := by
  rw [List.setIfInBounds_toArray, wv_set]
theorem RBk.drew {wx : World} {B K : Nat} {s ws v : List Nat} (h : RBk wx B K s ws v) : RBk wx.drew B K s ws v := ⟨h.s, h.r, h.w, h.k, h.v⟩
theorem RBk.drewN {wx : World} {B K : Nat} {s ws v : List Nat} (h : RBk wx B K s ws v) (n : Nat) : RBk (wx.drewN n) B K s ws v := ⟨h.s, h.r, h.w, h.k, h.v⟩
theorem RBk.setw {wx : World} {B K : Nat} {s ws v : List Nat} (h : RBk wx B K s ws v) (hK : B + 1 + 1 < K) (j x : Nat) : RBk (wx.setCell ⟨B + 1 + 1, j, none⟩ (.int .u32 ((x : Nat) : Int))) B K s (ws.set j x) v :=
  ⟨blk_other j _ h.s (by omega), blk_other j _ h.r (by omega), by rw [← wvt_set]; exact blk_set j _ h.w, blk_other j _ h.k (by omega), blk_other j _ h.v (by omega)⟩
theorem RBk.setv {wx : World} {B K : Nat} {s ws v : List Nat} (h : RBk wx B K s ws v) (hK : B + 1 + 1 < K) (j x : Nat) : RBk (wx.setCell ⟨K + 1, j, none⟩ (.int .u32 ((x : Nat) : Int))) B K s ws (v.set j x) :=
  ⟨blk_other j _ h.s (by omega), blk_other j _ h.r (by omega), blk_other j _ h.w (by omega), blk_other j _ h.k (by omega), by rw [← wvt_set]; exact blk_set j _ h.v⟩
theorem RBk.sets {wx : World} {B K : Nat} {s ws v : List Nat} (h : RBk wx B K s ws v) (hK : B + 1 + 1 < K) (j x : Nat) : RBk (wx.setCell ⟨B, j, none⟩ (.int .u32 ((x : Nat) : Int))) B K (s.set j x) ws v :=
  ⟨by rw [← wvt_set]; exact blk_set j _ h.s, blk_other j _ h.r (by omega), blk_other j _ h.w (by omega), blk_other j _ h.k (by omega), blk_other j _ h.v (by omega)⟩
theorem below_set3 {A : Nat} {w wc : World} (h : Below A w wc) (b j : Nat) (hb : A ≤ b) (v : Value) : Below A w (wc.setCell ⟨b, j, none⟩ v) := h.setCell hb v
theorem wl_set (l : List Nat) (p i : Nat) (h : i < 64) : (wl l p i ++ List.replicate (64 - i) 0).set i (if i < 16 then wrd l (p + 4 * i) else nextW (wl l p i) i) = wl l p (i + 1) ++ List.replicate (64 - (i + 1)) 0 := by
  have e : 64 - i = (64 - (i + 1)) + 1 := by omega
  rw [e, List.replicate_succ, List.set_append_right _ _ (by rw [wl_len]; omega), wl_len, Nat.sub_self, List.set_cons_zero, wl]
  simp
theorem wl_at (l : List Nat) (p i j : Nat) (h : j < i) : (wl l p i ++ List.replicate (64 - i) 0).getD j 0 = (wl l p i).getD j 0 := by
  simp only [List.getD]
  rw [List.getElem?_append_left (by rw [wl_len]; exact h)]
theorem wl_wlen (l : List Nat) (p i : Nat) (h : i ≤ 64) : (wl l p i ++ List.replicate (64 - i) 0).length = 64 := by
  rw [List.length_append, wl_len, List.length_replicate]; omega
theorem wl_lt (l : List Nat) (p : Nat) (hb : ∀ x ∈ l, x < 256) : ∀ n, ∀ x ∈ wl l p n, x < 4294967296
  | 0, x, h => by cases h
  | n + 1, x, h => by
    rw [wl] at h
    rcases List.mem_append.1 h with h | h
    · exact wl_lt l p hb n x h
    · simp only [List.mem_singleton] at h
      subst h
      split
      · exact wrd_lt hb _
      · exact Nat.mod_lt _ (by decide)
theorem getD_w {l : List Nat} (h : ∀ x ∈ l, x < 4294967296) (j : Nat) : l.getD j 0 < 4294967296 := by
  by_cases hj : j < l.length
  · rw [List.getD_eq_getElem?_getD, List.getElem?_eq_getElem hj]; exact h _ (List.getElem_mem hj)
  · rw [List.getD_eq_getElem?_getD, List.getElem?_eq_none (by omega)]; decide
theorem rl_lt (l : List Nat) (p : Nat) (s : List Nat) (hs : ∀ x ∈ s, x < 4294967296) : ∀ n, ∀ x ∈ rl l p s n, x < 4294967296
  | 0, x, h => hs x h
  | n + 1, x, h => by
    have ih := getD_w (rl_lt l p s hs n)
    rw [rl, rnd] at h
    simp only [List.mem_cons, List.not_mem_nil, or_false] at h
    rcases h with h | h | h | h | h | h | h | h <;> subst h <;> first | exact ih _ | exact Nat.mod_lt _ (by decide)

theorem ls1_bits (y : Nat) (hy : y < 4294967296) : ∃ A3 A4 : Nat, bits .xor .u32 ((rt y 17 : Nat) : Int) ((rt y 19 : Nat) : Int) = (A3 : Int) ∧ bits .xor .u32 (A3 : Int) ((y : Int) / 1024) = (A4 : Int) ∧ A4 < 4294967296 ∧ ls1 y = A4 := by
  have h1 := rt_lt (n := 17) hy (by decide)
  have h2 := rt_lt (n := 19) hy (by decide)
  refine ⟨rt y 17 ^^^ rt y 19, ls1 y, u32_xor_nat _ _ h1 h2, ?_, ls1_lt hy, rfl⟩
  have e : (y : Int) / 1024 = ((y / 1024 : Nat) : Int) := by omega
  rw [e, u32_xor_nat _ _ (xor_lt h1 h2) (by omega)]
  rfl
theorem ls0_bits (y : Nat) (hy : y < 4294967296) : ∃ A3 A4 : Nat, bits .xor .u32 ((rt y 7 : Nat) : Int) ((rt y 18 : Nat) : Int) = (A3 : Int) ∧ bits .xor .u32 (A3 : Int) ((y : Int) / 8) = (A4 : Int) ∧ A4 < 4294967296 ∧ ls0 y = A4 := by
  have h1 := rt_lt (n := 7) hy (by decide)
  have h2 := rt_lt (n := 18) hy (by decide)
  refine ⟨rt y 7 ^^^ rt y 18, ls0 y, u32_xor_nat _ _ h1 h2, ?_, ls0_lt hy, rfl⟩
  have e : (y : Int) / 8 = ((y / 8 : Nat) : Int) := by omega
  rw [e, u32_xor_nat _ _ (xor_lt h1 h2) (by omega)]
  rfl

theorem us1_bits (y : Nat) (hy : y < 4294967296) : ∃ A3 A4 : Nat, bits .xor .u32 ((rt y 6 : Nat) : Int) ((rt y 11 : Nat) : Int) = (A3 : Int) ∧ bits .xor .u32 (A3 : Int) ((rt y 25 : Nat) : Int) = (A4 : Int) ∧ A4 < 4294967296 ∧ us1 y = A4 := by
  have h1 := rt_lt (n := 6) hy (by decide)
  have h2 := rt_lt (n := 11) hy (by decide)
  have h3 := rt_lt (n := 25) hy (by decide)
  exact ⟨rt y 6 ^^^ rt y 11, us1 y, u32_xor_nat _ _ h1 h2, u32_xor_nat _ _ (xor_lt h1 h2) h3, us1_lt hy, rfl⟩
theorem us0_bits (y : Nat) (hy : y < 4294967296) : ∃ A3 A4 : Nat, bits .xor .u32 ((rt y 2 : Nat) : Int) ((rt y 13 : Nat) : Int) = (A3 : Int) ∧ bits .xor .u32 (A3 : Int) ((rt y 22 : Nat) : Int) = (A4 : Int) ∧ A4 < 4294967296 ∧ us0 y = A4 := by
  have h1 := rt_lt (n := 2) hy (by decide)
  have h2 := rt_lt (n := 13) hy (by decide)
  have h3 := rt_lt (n := 22) hy (by decide)
  exact ⟨rt y 2 ^^^ rt y 13, us0 y, u32_xor_nat _ _ h1 h2, u32_xor_nat _ _ (xor_lt h1 h2) h3, us0_lt hy, rfl⟩
theorem maj_bits (a b c : Nat) (ha : a < 4294967296) (hb : b < 4294967296) (hc : c < 4294967296) : ∃ P Q R S T : Nat, bits .and .u32 (a : Int) (b : Int) = (P : Int) ∧ bits .and .u32 (a : Int) (c : Int) = (Q : Int) ∧ bits .xor .u32 (P : Int) (Q : Int) = (R : Int) ∧ bits .and .u32 (b : Int) (c : Int) = (S : Int) ∧ bits .xor .u32 (R : Int) (S : Int) = (T : Int) ∧ T < 4294967296 ∧ maj a b c = T :=
  ⟨a &&& b, a &&& c, (a &&& b) ^^^ (a &&& c), b &&& c, maj a b c, u32_and_nat _ _ ha hb, u32_and_nat _ _ ha hc, u32_xor_nat _ _ (and_lt ha) (and_lt ha), u32_and_nat _ _ hb hc, u32_xor_nat _ _ (xor_lt (and_lt ha) (and_lt ha)) (and_lt hb), maj_lt ha hb, rfl⟩
theorem not_xor (e : Nat) (he : e < 4294967296) : 4294967295 ^^^ e = 4294967295 - e := by
  have h := BitVec.toNat_not (x := BitVec.ofNat 32 e)
  have h2 : ~~~(BitVec.ofNat 32 e) = BitVec.allOnes 32 ^^^ BitVec.ofNat 32 e := BitVec.not_def
  rw [h2, BitVec.toNat_xor, BitVec.toNat_allOnes, BitVec.toNat_ofNat, Nat.mod_eq_of_lt (by simpa using he)] at h
  simpa using h
theorem cho_bits (e f g : Nat) (he : e < 4294967296) (hf : f < 4294967296) (hg : g < 4294967296) : ∃ N P Q R : Nat, bits .xor .u32 (if IntKind.u32.signed = true then -1 else IntKind.u32.max) (e : Int) = (N : Int) ∧ bits .and .u32 (e : Int) (f : Int) = (P : Int) ∧ bits .and .u32 (N : Int) (g : Int) = (Q : Int) ∧ bits .xor .u32 (P : Int) (Q : Int) = (R : Int) ∧ R < 4294967296 ∧ cho e f g = R := by
  have hn : (if IntKind.u32.signed = true then -1 else IntKind.u32.max) = ((4294967295 : Nat) : Int) := rfl
  rw [hn]
  exact ⟨4294967295 - e, e &&& f, (4294967295 - e) &&& g, cho e f g, by rw [u32_xor_nat _ _ (by decide) he, not_xor e he], u32_and_nat _ _ he hf, u32_and_nat _ _ (by omega) hg, u32_xor_nat _ _ (and_lt he) (and_lt (by omega)), cho_lt he, rfl⟩
def shf (V : List Nat) (n : Nat) : List Nat := (List.range 8).map fun j => if n < j then V.getD (j - 1) 0 else V.getD j 0
theorem shf_len (V : List Nat) (n : Nat) : (shf V n).length = 8 := by simp [shf]
theorem shf_set (V : List Nat) (n : Nat) (h0 : 0 < n) (h7 : n ≤ 7) : (shf V n).set n ((shf V n).getD (n - 1) 0) = shf V (n - 1) := by
  rcases (by omega : n = 1 ∨ n = 2 ∨ n = 3 ∨ n = 4 ∨ n = 5 ∨ n = 6 ∨ n = 7) with rfl | rfl | rfl | rfl | rfl | rfl | rfl <;> rfl
theorem shf_all (V : List Nat) (h : V.length = 8) : shf V 7 = V := by
  match V, h with
  | [_, _, _, _, _, _, _, _], _ => rfl
theorem rnd_shf (V : List Nat) (k w : Nat) : rnd V k w = ((shf V 0).set 4 (((shf V 0).getD 4 0 + rT V k w) % 4294967296)).set 0 ((rT V k w + rU V) % 4294967296) := rfl
def zps (s V : List Nat) (j : Nat) : List Nat := (List.zipWith (fun x y => (x + y) % 4294967296) s V).take j ++ s.drop j
theorem zps_none (s V : List Nat) : zps s V 0 = s := by simp [zps]
theorem zps_all (s V : List Nat) (h : s.length = 8) (h' : V.length = 8) : zps s V 8 = List.zipWith (fun x y => (x + y) % 4294967296) s V := by
  unfold zps
  rw [List.take_of_length_le (by simp [h, h']), List.drop_of_length_le (by omega), List.append_nil]
theorem zps_len (s V : List Nat) (j : Nat) (h : s.length = 8) (h' : V.length = 8) (hj : j ≤ 8) : (zps s V j).length = 8 := by
  simp [zps, h, h']; omega
theorem zps_get (s V : List Nat) (j : Nat) (h : s.length = 8) (h' : V.length = 8) (hj : j < 8) : (zps s V j).getD j 0 = s.getD j 0 := by
  simp only [zps, List.getD]
  rw [List.getElem?_append_right (by simp [h, h']; omega)]
  simp [h, h', Nat.min_eq_left (Nat.le_of_lt hj)]
theorem zps_set (s V : List Nat) (j : Nat) (h : s.length = 8) (h' : V.length = 8) (hj : j < 8) : (zps s V j).set j ((s.getD j 0 + V.getD j 0) % 4294967296) = zps s V (j + 1) := by
  match s, h, V, h' with
  | [_, _, _, _, _, _, _, _], _, [_, _, _, _, _, _, _, _], _ =>
    rcases (by omega : j = 0 ∨ j = 1 ∨ j = 2 ∨ j = 3 ∨ j = 4 ∨ j = 5 ∨ j = 6 ∨ j = 7) with rfl | rfl | rfl | rfl | rfl | rfl | rfl | rfl <;> rfl
theorem eight (l : List Nat) (h : l.length = 8) : ∃ a b c d e f g i, l = [a, b, c, d, e, f, g, i] := by
  match l, h with
  | [a, b, c, d, e, f, g, i], _ => exact ⟨a, b, c, d, e, f, g, i, rfl⟩
theorem kk_lt : ∀ x ∈ kk, x < 4294967296 := by decide

set_option maxRecDepth 1000000 in
set_option maxHeartbeats 40000000 in
theorem refRounds_any (w : World) (v : Value) (l s : List Nat) (p : Nat) (hsl : BSl w v l) (hp : p + 64 ≤ l.length) (hs : s.length = 8) (hw : ∀ x ∈ s, x < 4294967296) :
    Calls Tryz.prog 49 #[.agg (wv s).toArray, v, .int .i64 (p : Nat)] w fun e w' => e = .returned (.agg (wv (cmp l p s)).toArray) ∧ Below w.heap.size w w' := by
  have HSL := hide hsl
  have HW := hide hw
  clear hsl hw
  match s, hs with
  | [s0, s1, s2, s3, s4, s5, s6, s7], _ =>
  have hlit : (wv [s0, s1, s2, s3, s4, s5, s6, s7]).toArray = #[.int .u32 (s0 : Nat), .int .u32 (s1 : Nat), .int .u32 (s2 : Nat), .int .u32 (s3 : Nat), .int .u32 (s4 : Nat), .int .u32 (s5 : Nat), .int .u32 (s6 : Nat), .int .u32 (s7 : Nat)] := rfl
  rw [hlit]
  clear hlit
  have HS0 : Hid ((((w.alloc (.cells #[.int .u32 (s0 : Nat), .int .u32 (s1 : Nat), .int .u32 (s2 : Nat), .int .u32 (s3 : Nat), .int .u32 (s4 : Nat), .int .u32 (s5 : Nat), .int .u32 (s6 : Nat), .int .u32 (s7 : Nat)] 93)).alloc (.cells #[.int .u32 0, .int .u32 0, .int .u32 0, .int .u32 0, .int .u32 0, .int .u32 0, .int .u32 0, .int .u32 0] 93)).alloc (.cells #[.int .u32 0, .int .u32 0, .int .u32 0, .int .u32 0, .int .u32 0, .int .u32 0, .int .u32 0, .int .u32 0, .int .u32 0, .int .u32 0, .int .u32 0, .int .u32 0, .int .u32 0, .int .u32 0, .int .u32 0, .int .u32 0, .int .u32 0, .int .u32 0, .int .u32 0, .int .u32 0, .int .u32 0, .int .u32 0, .int .u32 0, .int .u32 0, .int .u32 0, .int .u32 0, .int .u32 0, .int .u32 0, .int .u32 0, .int .u32 0, .int .u32 0, .int .u32 0, .int .u32 0, .int .u32 0, .int .u32 0, .int .u32 0, .int .u32 0, .int .u32 0, .int .u32 0, .int .u32 0, .int .u32 0, .int .u32 0, .int .u32 0, .int .u32 0, .int .u32 0, .int .u32 0, .int .u32 0, .int .u32 0, .int .u32 0, .int .u32 0, .int .u32 0, .int .u32 0, .int .u32 0, .int .u32 0, .int .u32 0, .int .u32 0, .int .u32 0, .int .u32 0, .int .u32 0, .int .u32 0, .int .u32 0, .int .u32 0, .int .u32 0, .int .u32 0] 131)).heap[w.heap.size]? = some (.cells #[.int .u32 (s0 : Nat), .int .u32 (s1 : Nat), .int .u32 (s2 : Nat), .int .u32 (s3 : Nat), .int .u32 (s4 : Nat), .int .u32 (s5 : Nat), .int .u32 (s6 : Nat), .int .u32 (s7 : Nat)] 93 (0, 0))) := blk_alloc _ (blk_alloc _ (heap_alloc_new w _))
  have HR0 : Hid ((((w.alloc (.cells #[.int .u32 (s0 : Nat), .int .u32 (s1 : Nat), .int .u32 (s2 : Nat), .int .u32 (s3 : Nat), .int .u32 (s4 : Nat), .int .u32 (s5 : Nat), .int .u32 (s6 : Nat), .int .u32 (s7 : Nat)] 93)).alloc (.cells #[.int .u32 0, .int .u32 0, .int .u32 0, .int .u32 0, .int .u32 0, .int .u32 0, .int .u32 0, .int .u32 0] 93)).alloc (.cells #[.int .u32 0, .int .u32 0, .int .u32 0, .int .u32 0, .int .u32 0, .int .u32 0, .int .u32 0, .int .u32 0, .int .u32 0, .int .u32 0, .int .u32 0, .int .u32 0, .int .u32 0, .int .u32 0, .int .u32 0, .int .u32 0, .int .u32 0, .int .u32 0, .int .u32 0, .int .u32 0, .int .u32 0, .int .u32 0, .int .u32 0, .int .u32 0, .int .u32 0, .int .u32 0, .int .u32 0, .int .u32 0, .int .u32 0, .int .u32 0, .int .u32 0, .int .u32 0, .int .u32 0, .int .u32 0, .int .u32 0, .int .u32 0, .int .u32 0, .int .u32 0, .int .u32 0, .int .u32 0, .int .u32 0, .int .u32 0, .int .u32 0, .int .u32 0, .int .u32 0, .int .u32 0, .int .u32 0, .int .u32 0, .int .u32 0, .int .u32 0, .int .u32 0, .int .u32 0, .int .u32 0, .int .u32 0, .int .u32 0, .int .u32 0, .int .u32 0, .int .u32 0, .int .u32 0, .int .u32 0, .int .u32 0, .int .u32 0, .int .u32 0, .int .u32 0] 131)).heap[w.heap.size + 1]? = some (.cells #[.int .u32 0, .int .u32 0, .int .u32 0, .int .u32 0, .int .u32 0, .int .u32 0, .int .u32 0, .int .u32 0] 93 (0, 0))) := by
    have h := heap_alloc_new (w.alloc (.cells #[.int .u32 (s0 : Nat), .int .u32 (s1 : Nat), .int .u32 (s2 : Nat), .int .u32 (s3 : Nat), .int .u32 (s4 : Nat), .int .u32 (s5 : Nat), .int .u32 (s6 : Nat), .int .u32 (s7 : Nat)] 93)) (.cells #[.int .u32 0, .int .u32 0, .int .u32 0, .int .u32 0, .int .u32 0, .int .u32 0, .int .u32 0, .int .u32 0] 93)
    have e : (w.alloc (.cells #[.int .u32 (s0 : Nat), .int .u32 (s1 : Nat), .int .u32 (s2 : Nat), .int .u32 (s3 : Nat), .int .u32 (s4 : Nat), .int .u32 (s5 : Nat), .int .u32 (s6 : Nat), .int .u32 (s7 : Nat)] 93)).heap.size = w.heap.size + 1 := by simp
    rw [e] at h
    exact blk_alloc _ h
  have HW0 : Hid ((((w.alloc (.cells #[.int .u32 (s0 : Nat), .int .u32 (s1 : Nat), .int .u32 (s2 : Nat), .int .u32 (s3 : Nat), .int .u32 (s4 : Nat), .int .u32 (s5 : Nat), .int .u32 (s6 : Nat), .int .u32 (s7 : Nat)] 93)).alloc (.cells #[.int .u32 0, .int .u32 0, .int .u32 0, .int .u32 0, .int .u32 0, .int .u32 0, .int .u32 0, .int .u32 0] 93)).alloc (.cells #[.int .u32 0, .int .u32 0, .int .u32 0, .int .u32 0, .int .u32 0, .int .u32 0, .int .u32 0, .int .u32 0, .int .u32 0, .int .u32 0, .int .u32 0, .int .u32 0, .int .u32 0, .int .u32 0, .int .u32 0, .int .u32 0, .int .u32 0, .int .u32 0, .int .u32 0, .int .u32 0, .int .u32 0, .int .u32 0, .int .u32 0, .int .u32 0, .int .u32 0, .int .u32 0, .int .u32 0, .int .u32 0, .int .u32 0, .int .u32 0, .int .u32 0, .int .u32 0, .int .u32 0, .int .u32 0, .int .u32 0, .int .u32 0, .int .u32 0, .int .u32 0, .int .u32 0, .int .u32 0, .int .u32 0, .int .u32 0, .int .u32 0, .int .u32 0, .int .u32 0, .int .u32 0, .int .u32 0, .int .u32 0, .int .u32 0, .int .u32 0, .int .u32 0, .int .u32 0, .int .u32 0, .int .u32 0, .int .u32 0, .int .u32 0, .int .u32 0, .int .u32 0, .int .u32 0, .int .u32 0, .int .u32 0, .int .u32 0, .int .u32 0, .int .u32 0] 131)).heap[w.heap.size + 1 + 1]? = some (.cells (wv (List.replicate 64 0)).toArray 131 (0, 0))) := by
    have h := heap_alloc_new ((w.alloc (.cells #[.int .u32 (s0 : Nat), .int .u32 (s1 : Nat), .int .u32 (s2 : Nat), .int .u32 (s3 : Nat), .int .u32 (s4 : Nat), .int .u32 (s5 : Nat), .int .u32 (s6 : Nat), .int .u32 (s7 : Nat)] 93)).alloc (.cells #[.int .u32 0, .int .u32 0, .int .u32 0, .int .u32 0, .int .u32 0, .int .u32 0, .int .u32 0, .int .u32 0] 93)) (.cells #[.int .u32 0, .int .u32 0, .int .u32 0, .int .u32 0, .int .u32 0, .int .u32 0, .int .u32 0, .int .u32 0, .int .u32 0, .int .u32 0, .int .u32 0, .int .u32 0, .int .u32 0, .int .u32 0, .int .u32 0, .int .u32 0, .int .u32 0, .int .u32 0, .int .u32 0, .int .u32 0, .int .u32 0, .int .u32 0, .int .u32 0, .int .u32 0, .int .u32 0, .int .u32 0, .int .u32 0, .int .u32 0, .int .u32 0, .int .u32 0, .int .u32 0, .int .u32 0, .int .u32 0, .int .u32 0, .int .u32 0, .int .u32 0, .int .u32 0, .int .u32 0, .int .u32 0, .int .u32 0, .int .u32 0, .int .u32 0, .int .u32 0, .int .u32 0, .int .u32 0, .int .u32 0, .int .u32 0, .int .u32 0, .int .u32 0, .int .u32 0, .int .u32 0, .int .u32 0, .int .u32 0, .int .u32 0, .int .u32 0, .int .u32 0, .int .u32 0, .int .u32 0, .int .u32 0, .int .u32 0, .int .u32 0, .int .u32 0, .int .u32 0, .int .u32 0] 131)
    have e : ((w.alloc (.cells #[.int .u32 (s0 : Nat), .int .u32 (s1 : Nat), .int .u32 (s2 : Nat), .int .u32 (s3 : Nat), .int .u32 (s4 : Nat), .int .u32 (s5 : Nat), .int .u32 (s6 : Nat), .int .u32 (s7 : Nat)] 93)).alloc (.cells #[.int .u32 0, .int .u32 0, .int .u32 0, .int .u32 0, .int .u32 0, .int .u32 0, .int .u32 0, .int .u32 0] 93)).heap.size = w.heap.size + 1 + 1 := by simp
    rw [e, ← zero64] at h
    rw [← zero64]
    exact h
  have HB0 : Hid (Below w.heap.size w (((w.alloc (.cells #[.int .u32 (s0 : Nat), .int .u32 (s1 : Nat), .int .u32 (s2 : Nat), .int .u32 (s3 : Nat), .int .u32 (s4 : Nat), .int .u32 (s5 : Nat), .int .u32 (s6 : Nat), .int .u32 (s7 : Nat)] 93)).alloc (.cells #[.int .u32 0, .int .u32 0, .int .u32 0, .int .u32 0, .int .u32 0, .int .u32 0, .int .u32 0, .int .u32 0] 93)).alloc (.cells #[.int .u32 0, .int .u32 0, .int .u32 0, .int .u32 0, .int .u32 0, .int .u32 0, .int .u32 0, .int .u32 0, .int .u32 0, .int .u32 0, .int .u32 0, .int .u32 0, .int .u32 0, .int .u32 0, .int .u32 0, .int .u32 0, .int .u32 0, .int .u32 0, .int .u32 0, .int .u32 0, .int .u32 0, .int .u32 0, .int .u32 0, .int .u32 0, .int .u32 0, .int .u32 0, .int .u32 0, .int .u32 0, .int .u32 0, .int .u32 0, .int .u32 0, .int .u32 0, .int .u32 0, .int .u32 0, .int .u32 0, .int .u32 0, .int .u32 0, .int .u32 0, .int .u32 0, .int .u32 0, .int .u32 0, .int .u32 0, .int .u32 0, .int .u32 0, .int .u32 0, .int .u32 0, .int .u32 0, .int .u32 0, .int .u32 0, .int .u32 0, .int .u32 0, .int .u32 0, .int .u32 0, .int .u32 0, .int .u32 0, .int .u32 0, .int .u32 0, .int .u32 0, .int .u32 0, .int .u32 0, .int .u32 0, .int .u32 0, .int .u32 0, .int .u32 0] 131))) := (((Below.refl _ _).alloc (Nat.le_refl _) _).alloc (by simp) _).alloc (by simp; omega) _
  go_enter Tryz.func49, Tryz.ntmps49
  go_wp2_with fail
  generalize ((w.alloc (.cells #[.int .u32 (s0 : Nat), .int .u32 (s1 : Nat), .int .u32 (s2 : Nat), .int .u32 (s3 : Nat), .int .u32 (s4 : Nat), .int .u32 (s5 : Nat), .int .u32 (s6 : Nat), .int .u32 (s7 : Nat)] 93)).alloc (.cells #[.int .u32 0, .int .u32 0, .int .u32 0, .int .u32 0, .int .u32 0, .int .u32 0, .int .u32 0, .int .u32 0] 93)).alloc (.cells #[.int .u32 0, .int .u32 0, .int .u32 0, .int .u32 0, .int .u32 0, .int .u32 0, .int .u32 0, .int .u32 0, .int .u32 0, .int .u32 0, .int .u32 0, .int .u32 0, .int .u32 0, .int .u32 0, .int .u32 0, .int .u32 0, .int .u32 0, .int .u32 0, .int .u32 0, .int .u32 0, .int .u32 0, .int .u32 0, .int .u32 0, .int .u32 0, .int .u32 0, .int .u32 0, .int .u32 0, .int .u32 0, .int .u32 0, .int .u32 0, .int .u32 0, .int .u32 0, .int .u32 0, .int .u32 0, .int .u32 0, .int .u32 0, .int .u32 0, .int .u32 0, .int .u32 0, .int .u32 0, .int .u32 0, .int .u32 0, .int .u32 0, .int .u32 0, .int .u32 0, .int .u32 0, .int .u32 0, .int .u32 0, .int .u32 0, .int .u32 0, .int .u32 0, .int .u32 0, .int .u32 0, .int .u32 0, .int .u32 0, .int .u32 0, .int .u32 0, .int .u32 0, .int .u32 0, .int .u32 0, .int .u32 0, .int .u32 0, .int .u32 0, .int .u32 0] 131) = w1 at *
  generalize hB : w.heap.size = B at *
  have HBB := hide hB
  clear hB
  refine (refFactor_any _).mono ?_
  rintro e w2 ⟨rfl, hb2⟩
  have HS2 := hide ((hb2.block B (blk_lt HS0.out)).trans HS0.out)
  have HR2 := hide ((hb2.block (B + 1) (blk_lt HR0.out)).trans HR0.out)
  have HW2 := hide ((hb2.block (B + 1 + 1) (blk_lt HW0.out)).trans HW0.out)
  have HB2 : Hid (Below B w w2) := HB0.out.trans (hb2.mono (by have := HB0.out.size; have := HBB.out; omega))
  clear hb2 HS0 HR0 HW0 HB0
  have q0 : w2.cell? ⟨B, 0, none⟩ = some (.int .u32 (s0 : Nat)) := blk_cell HS2.out rfl
  have q1 : w2.cell? ⟨B, 1, none⟩ = some (.int .u32 (s1 : Nat)) := blk_cell HS2.out rfl
  have q2 : w2.cell? ⟨B, 2, none⟩ = some (.int .u32 (s2 : Nat)) := blk_cell HS2.out rfl
  have q3 : w2.cell? ⟨B, 3, none⟩ = some (.int .u32 (s3 : Nat)) := blk_cell HS2.out rfl
  have q4 : w2.cell? ⟨B, 4, none⟩ = some (.int .u32 (s4 : Nat)) := blk_cell HS2.out rfl
  have q5 : w2.cell? ⟨B, 5, none⟩ = some (.int .u32 (s5 : Nat)) := blk_cell HS2.out rfl
  have q6 : w2.cell? ⟨B, 6, none⟩ = some (.int .u32 (s6 : Nat)) := blk_cell HS2.out rfl
  have q7 : w2.cell? ⟨B, 7, none⟩ = some (.int .u32 (s7 : Nat)) := blk_cell HS2.out rfl
  have hBl : B < w2.heap.size := blk_lt HS2.out
  have hst := store_kk w2
  have hkl := wvkk_len
  go_wp2_with fail
  have HK : Hid (B + 1 + 1 < w2.heap.size) := blk_lt HW2.out
  have HRB : Hid (RBk ((w2.alloc (.cells (wv kk).toArray 131)).alloc (.cells #[.int .u32 (s0 : Nat), .int .u32 (s1 : Nat), .int .u32 (s2 : Nat), .int .u32 (s3 : Nat), .int .u32 (s4 : Nat), .int .u32 (s5 : Nat), .int .u32 (s6 : Nat), .int .u32 (s7 : Nat)] 93)) B w2.heap.size [s0, s1, s2, s3, s4, s5, s6, s7] (List.replicate 64 0) [s0, s1, s2, s3, s4, s5, s6, s7]) := by
    refine ⟨blk_alloc _ (blk_alloc _ HS2.out), blk_alloc _ (blk_alloc _ HR2.out), blk_alloc _ (blk_alloc _ HW2.out), blk_alloc _ (heap_alloc_new w2 _), ?_⟩
    have h := heap_alloc_new (w2.alloc (.cells (wv kk).toArray 131)) (.cells #[.int .u32 (s0 : Nat), .int .u32 (s1 : Nat), .int .u32 (s2 : Nat), .int .u32 (s3 : Nat), .int .u32 (s4 : Nat), .int .u32 (s5 : Nat), .int .u32 (s6 : Nat), .int .u32 (s7 : Nat)] 93)
    have e : (w2.alloc (.cells (wv kk).toArray 131)).heap.size = w2.heap.size + 1 := by simp
    rw [e] at h
    exact h
  have HB3 : Hid (Below B w ((w2.alloc (.cells (wv kk).toArray 131)).alloc (.cells #[.int .u32 (s0 : Nat), .int .u32 (s1 : Nat), .int .u32 (s2 : Nat), .int .u32 (s3 : Nat), .int .u32 (s4 : Nat), .int .u32 (s5 : Nat), .int .u32 (s6 : Nat), .int .u32 (s7 : Nat)] 93))) := (HB2.out.alloc (by omega) _).alloc (by simp; omega) _
  clear q0 q1 q2 q3 q4 q5 q6 q7 hst hkl HS2 HR2 HW2 HB2
  generalize (w2.alloc (.cells (wv kk).toArray 131)).alloc (.cells #[.int .u32 (s0 : Nat), .int .u32 (s1 : Nat), .int .u32 (s2 : Nat), .int .u32 (s3 : Nat), .int .u32 (s4 : Nat), .int .u32 (s5 : Nat), .int .u32 (s6 : Nat), .int .u32 (s7 : Nat)] 93) = w3 at *
  generalize w2.heap.size = K at *
  have hsl : [s0, s1, s2, s3, s4, s5, s6, s7].length = 8 := rfl
  generalize hsE : [s0, s1, s2, s3, s4, s5, s6, s7] = s at *
  have HSE := hide hsE
  clear hsE
  have HLB := hide HSL.out.byte
  have hlm := HSL.out.max
  go_loopw [10] (fun ii wx => ∃ i : Nat, i ≤ 64 ∧ ii = .int .i64 (i : Nat) ∧ Hid (RBk wx B K s (wl l p i ++ List.replicate (64 - i) 0) (rl l p s i)) ∧ Hid (Below B w wx)) (fun ii _ => 64 - (intOf ii).toNat)
  case atStart => exact ⟨0, by omega, rfl, HRB, HB3⟩
  case round =>
    obtain ⟨i, hi, rfl, HR1, HL1⟩ := hrel
    clear HRB HB3
    by_cases hlt : i < 64
    · have hlt' : (i : Int) < 64 := by omega
      have HKB := HK.out
      have HV : Hid (BSl wr v l) := HSL.out.move (keep_below (by rw [HBB.out]; exact HL1.out))
      go_upto_if 26 with fail
      go_cut [] (fun wx => Hid (RBk wx B K s (wl l p (i + 1) ++ List.replicate (64 - (i + 1)) 0) (rl l p s i)) ∧ Hid (Below B w wx))
      case first => as_aux_lemma =>
        have HST := hide (wl_set l p i hlt)
        have HLN := hide (wl_wlen l p i hi)
        have f0 := blk_frozen i HR1.out.w
        by_cases h16 : i < 16
        · have h16' : (i : Int) < 16 := by omega
          rw [if_pos h16] at HST
          have c0 : wr.cell? ⟨B + 1 + 1, i, none⟩ = some (.int .u32 (((wl l p i ++ List.replicate (64 - i) 0).getD i 0 : Nat) : Int)) := blk_cell HR1.out.w (wvt_get (by rw [HLN.out]; exact hlt))
          generalize (wl l p i ++ List.replicate (64 - i) 0).getD i 0 = o at *
          go_wp2_with fail
          have hat : (p : Int) + 4 * (i : Int) = ((p + 4 * i : Nat) : Int) := by omega
          rw [hat]
          clear hat
          refine (refWord_any _ v l (p + 4 * i) HV.out (by omega)).mono ?_
          rintro e w5 ⟨rfl, rfl⟩
          go_wp2_with fail
          go_meet
          case rel => exact ⟨by rw [← HST.out]; exact HR1.out.setw HKB i _, below_set3 HL1.out _ _ (by omega) _⟩
        · have h16' : ¬ (i : Int) < 16 := by omega
          rw [if_neg h16] at HST
          have HG : Hid (∀ j, j < i → wr.cell? ⟨B + 1 + 1, j, none⟩ = some (.int .u32 (((wl l p i).getD j 0 : Nat) : Int))) := fun j hj => blk_cell HR1.out.w (by rw [wvt_get (by rw [HLN.out]; omega), wl_at l p i j hj])
          have c15 := HG.out (i - 15) (by omega)
          have c2 := HG.out (i - 2) (by omega)
          have c7 := HG.out (i - 7) (by omega)
          have c16 := HG.out (i - 16) (by omega)
          have c0 : wr.cell? ⟨B + 1 + 1, i, none⟩ = some (.int .u32 (((wl l p i ++ List.replicate (64 - i) 0).getD i 0 : Nat) : Int)) := blk_cell HR1.out.w (wvt_get (by rw [HLN.out]; exact hlt))
          have hx := getD_w (wl_lt l p HLB.out i) (i - 15)
          have hy := getD_w (wl_lt l p HLB.out i) (i - 2)
          have h7 := getD_w (wl_lt l p HLB.out i) (i - 7)
          have h6 := getD_w (wl_lt l p HLB.out i) (i - 16)
          have HNX : Hid (nextW (wl l p i) i = (ls1 ((wl l p i).getD (i - 2) 0) + (wl l p i).getD (i - 7) 0 + ls0 ((wl l p i).getD (i - 15) 0) + (wl l p i).getD (i - 16) 0) % 4294967296) := rfl
          generalize (wl l p i ++ List.replicate (64 - i) 0).getD i 0 = o at *
          generalize (wl l p i).getD (i - 15) 0 = x at *
          generalize (wl l p i).getD (i - 2) 0 = y at *
          generalize (wl l p i).getD (i - 7) 0 = x7 at *
          generalize (wl l p i).getD (i - 16) 0 = x6 at *
          obtain ⟨A3, A4, e1, e2, hA4, e3⟩ := ls1_bits y hy
          obtain ⟨C3, C4, g1, g2, hC4, g3⟩ := ls0_bits x hx
          rw [e3, g3] at HNX
          clear e3 g3
          go_wp2_with fail
          have n7 : (7 : Int) ≤ (i : Int) := by omega
          have m7 : (i : Int) - 7 < 64 := by omega
          have t7 : ((i : Int) - 7).toNat = i - 7 := by omega
          have n6 : (16 : Int) ≤ (i : Int) := by omega
          have m6 : (i : Int) - 16 < 64 := by omega
          have t6 : ((i : Int) - 16).toNat = i - 16 := by omega
          have y7 : IntKind.i64.wrap ((i : Int) - 7) = (i : Int) - 7 := by rw [IntKind.wrap_i64]; omega
          have y6 : IntKind.i64.wrap ((i : Int) - 16) = (i : Int) - 16 := by rw [IntKind.wrap_i64]; omega
          refine wp_region_still_tail 29 (by kernel_rfl) (by kernel_rfl) ?_
          simp only [List.take_succ_cons, List.take_zero, List.drop_succ_cons, List.drop_zero]
          repeat (
            refine wpStill_step (fun K hK => ?_)
            go_simp
            first
              | (refine hK _ ?_; clear hK K)
              | (refine ⟨_, refTurn_gen _ _ _ (by assumption) (by decide), hK _ ?_⟩; clear hK K))
          refine wpStill_nil ?_
          go_wp2_with fail
          go_meet
          case rel =>
            have ev : (((((A4 : Int) + (x7 : Int)) % 4294967296 + (C4 : Int)) % 4294967296 + (x6 : Int)) % 4294967296) = ((nextW (wl l p i) i : Nat) : Int) := by rw [HNX.out]; omega
            rw [ev]
            exact ⟨by rw [← HST.out]; exact (HR1.out.setw HKB i _).drew, Below.drew (below_set3 HL1.out _ _ (by omega) _)⟩
      case rest => as_aux_lemma =>
        obtain ⟨HR2, HL2⟩ := hcut
        clear HR1 HL1
        have HVL := hide (rl_len l p s hsl i)
        have HVB := hide (rl_lt l p s HW.out i)
        have HVC : Hid (∀ j, j < 8 → wc.cell? ⟨K + 1, j, none⟩ = some (.int .u32 (((rl l p s i).getD j 0 : Nat) : Int))) := fun j hj => blk_cell HR2.out.v (wvt_get (by rw [HVL.out]; exact hj))
        have hkc : wc.cell? ⟨K, i, none⟩ = some (.int .u32 ((kk.getD i 0 : Nat) : Int)) := blk_cell HR2.out.k (wvt_get (by show i < 64; exact hlt))
        have hwc : wc.cell? ⟨B + 1 + 1, i, none⟩ = some (.int .u32 (((wl l p (i + 1)).getD i 0 : Nat) : Int)) := blk_cell HR2.out.w (by rw [wvt_get (by rw [wl_wlen l p (i + 1) (by omega)]; exact hlt), wl_at l p (i + 1) i (by omega)])
        have v0 := HVC.out 0 (by omega)
        have v1 := HVC.out 1 (by omega)
        have v2 := HVC.out 2 (by omega)
        have v3 := HVC.out 3 (by omega)
        have v4 := HVC.out 4 (by omega)
        have v5 := HVC.out 5 (by omega)
        have v6 := HVC.out 6 (by omega)
        have v7 := HVC.out 7 (by omega)
        have HRL : Hid (rl l p s (i + 1) = rnd (rl l p s i) (kk.getD i 0) ((wl l p (i + 1)).getD i 0)) := rfl
        have hwb := getD_w (wl_lt l p HLB.out (i + 1)) i
        have hkb : kk.getD i 0 < 4294967296 := getD_w kk_lt i
        generalize (wl l p (i + 1)).getD i 0 = wi at *
        generalize kk.getD i 0 = ki at *
        have hb0 := getD_w HVB.out 0
        have hb1 := getD_w HVB.out 1
        have hb2 := getD_w HVB.out 2
        have hb3 := getD_w HVB.out 3
        have hb4 := getD_w HVB.out 4
        have hb5 := getD_w HVB.out 5
        have hb6 := getD_w HVB.out 6
        have hb7 := getD_w HVB.out 7
        have HRT : Hid (rT (rl l p s i) ki wi = ((rl l p s i).getD 7 0 + us1 ((rl l p s i).getD 4 0) + cho ((rl l p s i).getD 4 0) ((rl l p s i).getD 5 0) ((rl l p s i).getD 6 0) + ki + wi) % 4294967296) := rfl
        have HRU : Hid (rU (rl l p s i) = (us0 ((rl l p s i).getD 0 0) + maj ((rl l p s i).getD 0 0) ((rl l p s i).getD 1 0) ((rl l p s i).getD 2 0)) % 4294967296) := rfl
        have HRE : Hid (rl l p s (i + 1) = ((shf (rl l p s i) 0).set 4 (((shf (rl l p s i) 0).getD 4 0 + rT (rl l p s i) ki wi) % 4294967296)).set 0 ((rT (rl l p s i) ki wi + rU (rl l p s i)) % 4294967296)) := HRL.out.trans (rnd_shf _ _ _)
        have HF4 : Hid ((shf (rl l p s i) 0).getD 4 0 = (rl l p s i).getD 3 0) := rfl
        have HTL : Hid (rT (rl l p s i) ki wi < 4294967296) := Nat.mod_lt _ (by decide)
        have HUL : Hid (rU (rl l p s i) < 4294967296) := Nat.mod_lt _ (by decide)
        clear HRL HVC
        generalize rT (rl l p s i) ki wi = T at *
        generalize rU (rl l p s i) = U at *
        have HVA : Hid (∀ wx, RBk wx B K s (wl l p (i + 1) ++ List.replicate (64 - (i + 1)) 0) (rl l p s i) → wx.cell? ⟨K + 1, 0, none⟩ = some (.int .u32 (((rl l p s i).getD 0 0 : Nat) : Int))) := fun wx h => blk_cell h.v (wvt_get (by rw [HVL.out]; decide))
        have HVB1 : Hid (∀ wx, RBk wx B K s (wl l p (i + 1) ++ List.replicate (64 - (i + 1)) 0) (rl l p s i) → wx.cell? ⟨K + 1, 1, none⟩ = some (.int .u32 (((rl l p s i).getD 1 0 : Nat) : Int))) := fun wx h => blk_cell h.v (wvt_get (by rw [HVL.out]; decide))
        have HVC1 : Hid (∀ wx, RBk wx B K s (wl l p (i + 1) ++ List.replicate (64 - (i + 1)) 0) (rl l p s i) → wx.cell? ⟨K + 1, 2, none⟩ = some (.int .u32 (((rl l p s i).getD 2 0 : Nat) : Int))) := fun wx h => blk_cell h.v (wvt_get (by rw [HVL.out]; decide))
        generalize (rl l p s i).getD 0 0 = va at *
        generalize (rl l p s i).getD 1 0 = vb at *
        generalize (rl l p s i).getD 2 0 = vc at *
        generalize (rl l p s i).getD 3 0 = vd at *
        generalize (rl l p s i).getD 4 0 = ve at *
        generalize (rl l p s i).getD 5 0 = vf at *
        generalize (rl l p s i).getD 6 0 = vg at *
        generalize (rl l p s i).getD 7 0 = vh at *
        obtain ⟨A3, A4, e1, e2, hA4, e3⟩ := us1_bits ve hb4
        obtain ⟨C3, C4, g1, g2, hC4, g3⟩ := us0_bits va hb0
        obtain ⟨M1, M2, M3, M4, M5, k1, k2, k3, k4, k5, hM5, k6⟩ := maj_bits va vb vc hb0 hb1 hb2
        obtain ⟨H0, H1, H2, H3, l0, l1, l2, l3, hH3, l4⟩ := cho_bits ve vf vg hb4 hb5 hb6
        rw [e3, l4] at HRT
        rw [g3, k6] at HRU
        clear e3 g3 k6 l4
        go_upto_region 14 with fail
        go_cut [15] (fun tt wx => tt = .int .u32 (T : Nat) ∧ Hid (RBk wx B K s (wl l p (i + 1) ++ List.replicate (64 - (i + 1)) 0) (rl l p s i)) ∧ Hid (Below B w wx))
        case first => as_aux_lemma =>
          go_quiet (first | (go_at_call 78; exact Calls.quiet_of_same (refTurn_gen _ _ _ (by assumption) (by decide))))
          go_wp2_with fail
          go_meet
          case rel => exact ⟨congrArg (Value.int .u32) (by rw [HRT.out]; omega), HR2.out.drewN _, below_drewN HL2.out _⟩
        case rest => as_aux_lemma =>
          obtain ⟨rfl, HR3, HL3⟩ := hcut
          clear HR2 HL2 v0 v1 v2 v3 v4 v5 v6 v7 hkc hwc
          rename World => wt
          have v0 : wt.cell? ⟨K + 1, 0, none⟩ = some (.int .u32 (va : Nat)) := HVA.out wt HR3.out
          have v1 : wt.cell? ⟨K + 1, 1, none⟩ = some (.int .u32 (vb : Nat)) := HVB1.out wt HR3.out
          have v2 : wt.cell? ⟨K + 1, 2, none⟩ = some (.int .u32 (vc : Nat)) := HVC1.out wt HR3.out
          go_upto_region 15 with fail
          go_cut [16] (fun uu wx => uu = .int .u32 (U : Nat) ∧ Hid (RBk wx B K s (wl l p (i + 1) ++ List.replicate (64 - (i + 1)) 0) (rl l p s i)) ∧ Hid (Below B w wx))
          case first => as_aux_lemma =>
            go_quiet (first | (go_at_call 78; exact Calls.quiet_of_same (refTurn_gen _ _ _ (by assumption) (by decide))))
            go_wp2_with fail
            go_meet
            case rel => exact ⟨congrArg (Value.int .u32) (by rw [HRU.out]; omega), HR3.out.drewN _, below_drewN HL3.out _⟩
          case rest => as_aux_lemma =>
            obtain ⟨rfl, HR4, HL4⟩ := hcut
            clear HR3 HL3 v0 v1 v2
            have HR5 := HR4
            rw [← shf_all (rl l p s i) HVL.out] at HR5
            go_wp2
            go_loopw [17] (fun nn wx => ∃ n : Nat, n ≤ 7 ∧ nn = .int .i64 (n : Nat) ∧ Hid (RBk wx B K s (wl l p (i + 1) ++ List.replicate (64 - (i + 1)) 0) (shf (rl l p s i) n)) ∧ Hid (Below B w wx)) (fun nn _ => (intOf nn).toNat)
            case atStart => exact ⟨7, by omega, rfl, HR5, HL4⟩
            case round =>
              obtain ⟨n, hn7, rfl, HR6, HL6⟩ := hrel
              clear HR4 HR5 HL4
              rename World => wz
              by_cases hn0 : 0 < n
              · have hn0' : (0 : Int) < (n : Int) := by omega
                have HSS := hide (shf_set (rl l p s i) n hn0 hn7)
                have HSL8 := hide (shf_len (rl l p s i) n)
                have c1 : wz.cell? ⟨K + 1, n - 1, none⟩ = some (.int .u32 (((shf (rl l p s i) n).getD (n - 1) 0 : Nat) : Int)) := blk_cell HR6.out.v (wvt_get (by rw [HSL8.out]; omega))
                have c2 : wz.cell? ⟨K + 1, n, none⟩ = some (.int .u32 (((shf (rl l p s i) n).getD n 0 : Nat) : Int)) := blk_cell HR6.out.v (wvt_get (by rw [HSL8.out]; omega))
                have f2 := blk_frozen n HR6.out.v
                have n1 : (1 : Int) ≤ (n : Int) := by omega
                have n8 : (n : Int) < 8 := by omega
                generalize (shf (rl l p s i) n).getD (n - 1) 0 = z1 at *
                generalize (shf (rl l p s i) n).getD n 0 = z2 at *
                go_wp2
                go_roundw
                case rel => exact ⟨n - 1, by omega, by congr 1; omega, by rw [← HSS.out]; exact HR6.out.setv HKB n _, below_set3 HL6.out _ _ (by omega) _⟩
                case measure => simp [intOf]; omega
              · have hn00 : n = 0 := by omega
                subst hn00
                have HSL8 := hide (shf_len (rl l p s i) 0)
                have c4 : wz.cell? ⟨K + 1, 4, none⟩ = some (.int .u32 (((shf (rl l p s i) 0).getD 4 0 : Nat) : Int)) := blk_cell HR6.out.v (wvt_get (by rw [HSL8.out]; decide))
                have c0 : wz.cell? ⟨K + 1, 0, none⟩ = some (.int .u32 (((shf (rl l p s i) 0).getD 0 0 : Nat) : Int)) := blk_cell HR6.out.v (wvt_get (by rw [HSL8.out]; decide))
                have f4 := blk_frozen 4 HR6.out.v
                have f0 := blk_frozen 0 HR6.out.v
                have hTL := HTL.out
                have hUL := HUL.out
                have hf4 : (shf (rl l p s i) 0).getD 4 0 < 4294967296 := by rw [HF4.out]; exact hb3
                generalize (shf (rl l p s i) 0).getD 4 0 = z4 at *
                generalize (shf (rl l p s i) 0).getD 0 0 = z0 at *
                go_wp2
                go_roundw
                case rel =>
                  have ea : ((z4 : Int) + (T : Int)) % 4294967296 = (((z4 + T) % 4294967296 : Nat) : Int) := by omega
                  have eb : ((T : Int) + (U : Int)) % 4294967296 = (((T + U) % 4294967296 : Nat) : Int) := by omega
                  rw [ea, eb]
                  exact ⟨i + 1, by omega, by go_num, by rw [HRE.out]; exact (HR6.out.setv HKB 4 _).setv HKB 0 _, below_set3 (below_set3 HL6.out _ _ (by omega) _) _ _ (by omega) _⟩
                case measure => simp [intOf]; omega
    · have hi64 : i = 64 := by omega
      have hlt' : ¬ (i : Int) < 64 := by omega
      have HKB := HK.out
      have HVL := hide (rl_len l p s hsl i)
      have HVB := hide (rl_lt l p s HW.out i)
      have HCM : Hid (cmp l p s = zps s (rl l p s i) 8) := by show _ = _; rw [zps_all s (rl l p s i) hsl HVL.out, hi64]; rfl
      clear hi64
      have HR2 := HR1
      rw [← zps_none s (rl l p s i)] at HR2
      go_wp2
      go_loopw [18] (fun ii wx => ∃ j : Nat, j ≤ 8 ∧ ii = .int .i64 (j : Nat) ∧ Hid (RBk wx B K (zps s (rl l p s i) j) (wl l p i ++ List.replicate (64 - i) 0) (rl l p s i)) ∧ Hid (Below B w wx)) (fun ii _ => 8 - (intOf ii).toNat)
      case atStart => exact ⟨0, by omega, rfl, HR2, HL1⟩
      case round =>
        obtain ⟨j, hj, rfl, HR3, HL3⟩ := hrel
        clear HR1 HR2 HL1
        rename World => wz
        by_cases hj8 : j < 8
        · have hj8' : (j : Int) < 8 := by omega
          have HSS := hide (zps_set s (rl l p s i) j hsl HVL.out hj8)
          have c1 : wz.cell? ⟨B, j, none⟩ = some (.int .u32 ((s.getD j 0 : Nat) : Int)) := blk_cell HR3.out.s (by rw [wvt_get (by rw [zps_len s _ j hsl HVL.out hj]; exact hj8), zps_get s _ j hsl HVL.out hj8])
          have c2 : wz.cell? ⟨K + 1, j, none⟩ = some (.int .u32 (((rl l p s i).getD j 0 : Nat) : Int)) := blk_cell HR3.out.v (wvt_get (by rw [HVL.out]; exact hj8))
          have f1 := blk_frozen j HR3.out.s
          have hb1 := getD_w HW.out j
          have hb2 := getD_w HVB.out j
          generalize s.getD j 0 = z1 at *
          generalize (rl l p s i).getD j 0 = z2 at *
          go_wp2_with fail
          refine wp_region_still_tail 9 (by kernel_rfl) (by kernel_rfl) ?_
          simp only [List.take_succ_cons, List.take_zero, List.drop_succ_cons, List.drop_zero]
          repeat (
            refine wpStill_step (fun K hK => ?_)
            go_simp
            refine hK _ ?_
            clear hK K)
          refine wpStill_nil ?_
          go_wp2
          go_roundw
          case rel =>
            have ea : ((z1 : Int) + (z2 : Int)) % 4294967296 = (((z1 + z2) % 4294967296 : Nat) : Int) := by omega
            rw [ea]
            exact ⟨j + 1, by omega, by go_num, by rw [← HSS.out]; exact (HR3.out.sets HKB j _).drew, Below.drew (below_set3 HL3.out _ _ (by omega) _)⟩
          case measure => simp [intOf]; omega
        · have hj88 : j = 8 := by omega
          subst hj88
          rw [← HCM.out] at HR3
          obtain ⟨c0, c1, c2, c3, c4, c5, c6, c7, hcc⟩ := eight (cmp l p s) (cmp_len l p s hsl)
          rw [hcc] at HR3
          have HCC := hide hcc
          clear hcc
          have hBP : ¬ B = B + 1 := by omega
          have hPB : ¬ B + 1 = B := by omega
          have q0 : wz.cell? ⟨B, 0, none⟩ = some (.int .u32 (c0 : Nat)) := blk_cell HR3.out.s rfl
          have q1 : wz.cell? ⟨B, 1, none⟩ = some (.int .u32 (c1 : Nat)) := blk_cell HR3.out.s rfl
          have q2 : wz.cell? ⟨B, 2, none⟩ = some (.int .u32 (c2 : Nat)) := blk_cell HR3.out.s rfl
          have q3 : wz.cell? ⟨B, 3, none⟩ = some (.int .u32 (c3 : Nat)) := blk_cell HR3.out.s rfl
          have q4 : wz.cell? ⟨B, 4, none⟩ = some (.int .u32 (c4 : Nat)) := blk_cell HR3.out.s rfl
          have q5 : wz.cell? ⟨B, 5, none⟩ = some (.int .u32 (c5 : Nat)) := blk_cell HR3.out.s rfl
          have q6 : wz.cell? ⟨B, 6, none⟩ = some (.int .u32 (c6 : Nat)) := blk_cell HR3.out.s rfl
          have q7 : wz.cell? ⟨B, 7, none⟩ = some (.int .u32 (c7 : Nat)) := blk_cell HR3.out.s rfl
          have r0 : wz.cell? ⟨B + 1, 0, none⟩ = some (.int .u32 0) := blk_cell HR3.out.r rfl
          have r1 : wz.cell? ⟨B + 1, 1, none⟩ = some (.int .u32 0) := blk_cell HR3.out.r rfl
          have r2 : wz.cell? ⟨B + 1, 2, none⟩ = some (.int .u32 0) := blk_cell HR3.out.r rfl
          have r3 : wz.cell? ⟨B + 1, 3, none⟩ = some (.int .u32 0) := blk_cell HR3.out.r rfl
          have r4 : wz.cell? ⟨B + 1, 4, none⟩ = some (.int .u32 0) := blk_cell HR3.out.r rfl
          have r5 : wz.cell? ⟨B + 1, 5, none⟩ = some (.int .u32 0) := blk_cell HR3.out.r rfl
          have r6 : wz.cell? ⟨B + 1, 6, none⟩ = some (.int .u32 0) := blk_cell HR3.out.r rfl
          have r7 : wz.cell? ⟨B + 1, 7, none⟩ = some (.int .u32 0) := blk_cell HR3.out.r rfl
          have f0 := blk_frozen 0 HR3.out.r
          have f1 := blk_frozen 1 HR3.out.r
          have f2 := blk_frozen 2 HR3.out.r
          have f3 := blk_frozen 3 HR3.out.r
          have f4 := blk_frozen 4 HR3.out.r
          have f5 := blk_frozen 5 HR3.out.r
          have f6 := blk_frozen 6 HR3.out.r
          have f7 := blk_frozen 7 HR3.out.r
          go_wp2
          refine bodyPost_ret (v := .agg #[.int .u32 (c0 : Nat), .int .u32 (c1 : Nat), .int .u32 (c2 : Nat), .int .u32 (c3 : Nat), .int .u32 (c4 : Nat), .int .u32 (c5 : Nat), .int .u32 (c6 : Nat), .int .u32 (c7 : Nat)]) ((results_one (p := 6) (ty := 93) rfl _ _ _).trans (by go_simp; first | done | rfl)) rfl ⟨by rw [HSE.out, HCC.out]; rfl, ?_⟩
          rw [HBB.out]
          repeat (refine below_set3 ?_ _ _ (by omega) _)
          exact HL3.out
end
end Go.Proofs.YtnbbnainmifenaaGreatDoor
