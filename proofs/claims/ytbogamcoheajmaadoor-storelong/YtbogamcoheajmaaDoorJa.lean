import Derived.Test.YtbogamcoheajmaaDoorRows
import Derived.WalkKit
import Derived.WalkSpells
import Derived.WalkLawsBesides
import Derived.ScopeJumps
import Derived.Laws.BytesArg
import Derived.Laws.AppendOwnNone
import Derived.WalkSmall
import Derived.Lib.ConvBytes
import Derived.Laws.AppendOwn
import Derived.Deep.QuietTactic
import Derived.BigQuiet
import Derived.Maps.AppendAt
import Derived.Deep.RegionWith
import Derived.Deep.WholeRow
namespace Go.Proofs.YtbogamcoheajmaaDoor
section
open Go.RowKit
theorem hide {p : Prop} (h : p) : Hid p := h

/-- Bytes as cells. -/
def bv (l : List Nat) : List Value := l.map fun x => Value.int .u8 ((x : Nat) : Int)

theorem bv_app (a b : List Nat) : bv (a ++ b) = bv a ++ bv b := by simp [bv]

theorem Tryd.info5 : (Tryd.prog.info? 5).map (fun i => (i.zero, i.size, i.bytes)) = some (some (.int .u8 0), 1, 1) := by kernel_rfl

theorem info5_ex : ∃ i, Tryd.prog.info? 5 = some i ∧ i.zero = some (.int .u8 0) ∧ i.size = 1 ∧ i.bytes = 1 := by
  have h := Tryd.info5
  cases hi : Tryd.prog.info? 5 with
  | none => rw [hi] at h; cases h
  | some i => rw [hi] at h; simp at h; exact ⟨i, rfl, h.1, h.2.1, h.2.2⟩
end
section
open Go.RowKit
/-- The slice value v reads, in w, as the bytes xs. -/
structure BSl (w : World) (v : Value) (xs : List Nat) : Prop where
  form : ∃ a cap, v = .slice a xs.length cap ∧ (xs.length ≤ cap ∧ (a = none → cap = 0)) ∧ (xs = [] ∨ ∃ b off, a = some ⟨b, off, none⟩ ∧ ∀ j, j < xs.length → w.cell? ⟨b, off + j, none⟩ = some (.int .u8 ((xs.getD j 0 : Nat) : Int)))
  max : xs.length ≤ 9223372036854775807
  byte : ∀ x ∈ xs, x < 256

theorem getD_lt {xs : List Nat} (h : ∀ x ∈ xs, x < 256) (j : Nat) : xs.getD j 0 < 256 := by
  by_cases hj : j < xs.length
  · rw [List.getD_eq_getElem?_getD, List.getElem?_eq_getElem hj]; exact h _ (List.getElem_mem hj)
  · rw [List.getD_eq_getElem?_getD, List.getElem?_eq_none (by omega)]; decide

theorem BSl.move {w w' : World} {v : Value} {xs : List Nat} (h : BSl w v xs) (hm : ∀ a u, w.cell? a = some u → w'.cell? a = some u) : BSl w' v xs := by
  obtain ⟨⟨a, cap, rfl, hn, hc⟩, hmax, hb⟩ := h
  refine ⟨⟨a, cap, rfl, hn, ?_⟩, hmax, hb⟩
  rcases hc with hc | ⟨b, off, rfl, hc⟩
  · exact .inl hc
  · exact .inr ⟨b, off, rfl, fun j hj => hm _ _ (hc j hj)⟩

theorem keep_alloc (w : World) (o : Obj) : ∀ a u, w.cell? a = some u → (w.alloc o).cell? a = some u := by
  intro a u h
  exact (World.cell?_of_block (Below.heap_alloc w o a.block (World.block_lt_of_cell? w a h))).trans h

theorem keep_below {w w' : World} (hb : Below w.heap.size w w') : ∀ a u, w.cell? a = some u → w'.cell? a = some u := by
  intro a u h
  rw [hb.cell (World.block_lt_of_cell? w a h)]; exact h

/-- Bytes as a string's. -/
def nstr (xs : List Nat) : ByteArray := strOfNums (xs.map fun x => ((x : Nat) : Int))

theorem nstr_inj {xs ys : List Nat} (hx : ∀ x ∈ xs, x < 256) (hy : ∀ x ∈ ys, x < 256) (h : (nstr xs).toList = (nstr ys).toList) : xs = ys := by
  have key : ∀ l : List Nat, (∀ x ∈ l, x < 256) → (nstr l).data.toList.map UInt8.toNat = l := by
    intro l hl
    simp only [nstr, strOfNums_data, List.map_map]
    conv => rhs; rw [← List.map_id l]
    apply List.map_congr_left
    intro x hx
    have := hl x hx
    simp; omega
  rw [ByteArray.toList_eq, ByteArray.toList_eq] at h
  rw [← key xs hx, ← key ys hy, h]

theorem BSl.text {w : World} {v : Value} {xs : List Nat} (h : BSl w v xs) : (convert 34 9 v).run Tryd.prog w = .ok (.string (nstr xs)) w := by
  obtain ⟨⟨a, cap, rfl, _, hc⟩, hmax, hb⟩ := h
  rcases hc with rfl | ⟨b, off, rfl, hc⟩
  · cases a with
    | none => exact run_convert_bytes_nil w 34 5 Tryd.underlying34 Tryd.underlying5 _ _ 9 Tryd.underlying9
    | some a =>
      rw [run_convert_bytes_string w 34 9 5 _ _ _ Tryd.underlying34 Tryd.underlying5 Tryd.underlying9]
      exact run_bytesToString w a 0 cap [] rfl
  · exact run_convert_bytes_arg w 34 5 Tryd.underlying34 Tryd.underlying5 b off xs.length cap (xs.map fun x => ((x : Nat) : Int)) (by simp) (fun i hi => by
      rw [hc i hi]; simp [List.getD, hi]) 9 Tryd.underlying9

theorem bv_get {xs : List Nat} {j : Nat} (h : j < xs.length) : (bv xs)[j]? = some (.int .u8 ((xs.getD j 0 : Nat) : Int)) := by
  simp [bv, h, List.getD]

theorem BSl.own {w : World} {B n : Nat} {v : Value} {xs : List Nat} (h : w.ownsRow B 5 1 v n (bv xs)) (hb : ∀ x ∈ xs, x < 256) : BSl w v xs := by
  have hn : n = xs.length := by have := h.1; simp [bv] at this; omega
  subst hn
  refine ⟨?_, ?_, hb⟩
  · rcases h.2 with ⟨rfl, h0⟩ | ⟨g, cap, cur, rfl, _, hg, h1, h2, h3, h4⟩
    · exact ⟨none, 0, by rw [h0], ⟨by omega, fun _ => rfl⟩, .inl (List.length_eq_zero_iff.1 h0)⟩
    · refine ⟨some ⟨g, 0, none⟩, cap, rfl, ⟨h1, fun h => by (cases h)⟩, .inr ⟨g, 0, rfl, fun j hj => ?_⟩⟩
      have := h.cells (g := g) rfl j _ (bv_get hj)
      have hadd : (⟨g, 0, none⟩ : Addr).add j = ⟨g, 0 + j, none⟩ := by unfold Addr.add; split <;> simp_all
      rw [hadd] at this
      exact this
  · rcases h.2 with ⟨rfl, h0⟩ | ⟨g, cap, cur, rfl, _, hg, h1, h2, h3, h4⟩
    · omega
    · unfold maxLen at h2; omega

/-- What an append takes of it. -/
theorem BSl.src {w : World} {ad : Addr} {n cap : Nat} {xs : List Nat} (h : BSl w (.slice (some ad) n cap) xs) : n = xs.length ∧ ∀ j u, (bv xs)[j]? = some u → w.cell? (ad.add j) = some u := by
  obtain ⟨⟨a, cap', e, _, hc⟩, _, _⟩ := h
  injection e with e1 e2 e3
  subst e1
  refine ⟨e2, ?_⟩
  rcases hc with rfl | ⟨b, off, e, hc⟩
  · intro j u hu; simp [bv] at hu
  · injection e with e
    subst e
    intro j u hu
    have hj : j < xs.length := by
      rcases Nat.lt_or_ge j xs.length with h | h
      · exact h
      · simp [bv, List.getElem?_eq_none h] at hu
    rw [bv_get hj] at hu
    injection hu with hu
    have hadd : (⟨b, off, none⟩ : Addr).add j = ⟨b, off + j, none⟩ := by unfold Addr.add; split <;> simp_all
    rw [hadd, hc j hj, hu]

theorem bv_one (xs : List Nat) : ∀ u ∈ bv xs, u.oneCell' = true := by
  intro u hu
  simp [bv] at hu
  obtain ⟨x, _, rfl⟩ := hu
  rfl

theorem bv_len (xs : List Nat) : (bv xs).length = xs.length := by simp [bv]

/-- 'append(l, x...)' at bytes: l a slice of the call's own, x whatever reads as bytes. -/
theorem append_bsl {ops : Array Oper} {rest : List Oper} {o : Oper} {a : Act} {Q : Exit → Act → World → Prop} {w : World} (hgd : o.guard = none) (s x : Operand)
    (ho : o.op = .call { callee := .builtin .append, args := #[s, x], argTypes := #[34, 34] }) (B : Nat) (v : Value) (n : Nat) (ds : List Nat) (hs : a.eval s = v) (hown : w.ownsRow B 5 1 v n (bv ds))
    (u : Value) (xs : List Nat) (hx : a.eval x = u) (hsl : BSl w u xs) (hlen : n + xs.length ≤ 140737488355328) (hbase : B ≤ w.heap.size)
    (h : ∀ v' w', w'.ownsRow B 5 1 v' (n + xs.length) (bv (ds ++ xs)) → w.grownBy w' v.ownBlock → wpList Tryd.prog ops Q rest (a.put o.dst v') w') : wpList Tryd.prog ops Q (o :: rest) a w := by
  obtain ⟨i5, hi, hz0, hz1, hz2⟩ := info5_ex
  obtain ⟨⟨ad, cap, rfl, hn, hc⟩, hmax, hb⟩ := id hsl
  cases ad with
  | none =>
    rcases hc with rfl | ⟨_, _, e, _⟩
    · have := hn.2 rfl
      subst this
      refine wpList_append_own_none hgd s x 34 ho B 5 i5 1 Tryd.underlying34 hi v n (bv ds) hs hown hx (h v w ?_ ⟨rfl, rfl, rfl, Nat.le_refl _, fun _ _ _ => rfl⟩)
      simpa using hown
    · cases e
  | some ad =>
    refine wpList_append_own w hgd s x 34 ho B 5 i5 (.int .u8 0) 1 1 Tryd.underlying34 hi hz0 hz1 hz2 rfl (by decide) v n (bv ds) hs hown ad xs.length cap (bv xs) hx (by simp [bv]) hsl.src.2 (bv_one xs) (by unfold maxLen; omega) (by omega) hbase fun v' w' h1 h2 _ => ?_
    exact h v' w' (by rw [bv_app]; exact h1) h2

/-- A beginning of it. -/
theorem BSl.take {w : World} {a : Option Addr} {n cap : Nat} {xs : List Nat} (h : BSl w (.slice a n cap) xs) (k : Nat) (hk : k ≤ xs.length) : BSl w (.slice a k cap) (xs.take k) := by
  obtain ⟨⟨a', cap', e, hn, hc⟩, hm, hb⟩ := h
  injection e with e1 e2 e3
  subst e1
  subst e3
  have hl : (xs.take k).length = k := by rw [List.length_take]; omega
  refine ⟨⟨a, cap, by rw [hl], ⟨by rw [hl]; have := hn.1; omega, hn.2⟩, ?_⟩, by rw [hl]; omega, fun x hx => hb x (List.mem_of_mem_take hx)⟩
  rcases hc with rfl | ⟨b, off, e, hc⟩
  · exact .inl (by simp)
  · refine .inr ⟨b, off, e, fun j hj => ?_⟩
    rw [hl] at hj
    rw [hc j (by omega)]
    simp [List.getD, hj]

theorem one_bsl (w : World) (x : Nat) (hx : x < 256) : BSl (w.alloc (.cells #[.int .u8 ((x : Nat) : Int)] 5)) (.slice (some ⟨w.heap.size, 0, none⟩) 1 1) [x] := by
  refine ⟨⟨_, 1, rfl, ⟨by simp, fun h => by (cases h)⟩, .inr ⟨_, 0, rfl, fun j hj => ?_⟩⟩, by simp, by simpa using hx⟩
  match j, hj with
  | 0, _ => simp

/-! ### Walks -/
theorem BSl.take3 {w : World} {a : Option Addr} {n cap : Nat} {xs : List Nat} (h : BSl w (.slice a n cap) xs) (k : Nat) (hk : k ≤ xs.length) : BSl w (.slice a k k) (xs.take k) := by
  obtain ⟨⟨a', cap', e, hn, hc⟩, hm, hb⟩ := h
  injection e with e1 e2 e3
  subst e1
  subst e3
  have hl : (xs.take k).length = k := by rw [List.length_take]; omega
  refine ⟨⟨a, k, by rw [hl], ⟨by rw [hl]; omega, fun h => by have := hn.2 h; have := hn.1; omega⟩, ?_⟩, by rw [hl]; omega, fun x hx => hb x (List.mem_of_mem_take hx)⟩
  rcases hc with rfl | ⟨b, off, e, hc⟩
  · exact .inl (by simp)
  · refine .inr ⟨b, off, e, fun j hj => ?_⟩
    rw [hl] at hj
    rw [hc j (by omega)]
    simp [List.getD, hj]
end
section
open Go.RowKit

end
section
open Go.RowKit
/-! ### What stays -/
/-- What was there stays as it was, but for the blocks S. -/
structure Kp (S : Nat → Prop) (w w' : World) : Prop where
  os : w'.os = w.os
  tape : w'.tape = w.tape
  output : w'.output = w.output
  size : w.heap.size ≤ w'.heap.size
  block : ∀ k, k < w.heap.size → ¬ S k → w'.heap[k]? = w.heap[k]?

theorem Kp.refl (S : Nat → Prop) (w : World) : Kp S w w := ⟨rfl, rfl, rfl, Nat.le_refl _, fun _ _ _ => rfl⟩
theorem Kp.trans {S T : Nat → Prop} {a b c : World} (h : Kp S a b) (g : Kp T b c) (hst : ∀ k, k < a.heap.size → T k → S k) : Kp S a c :=
  ⟨g.os.trans h.os, g.tape.trans h.tape, g.output.trans h.output, Nat.le_trans h.size g.size, fun k hk hs =>
    (g.block k (Nat.lt_of_lt_of_le hk h.size) (fun ht => hs (hst k hk ht))).trans (h.block k hk hs)⟩
theorem Kp.mono {S T : Nat → Prop} {w w' : World} (h : Kp S w w') (hst : ∀ k, k < w.heap.size → S k → T k) : Kp T w w' :=
  ⟨h.os, h.tape, h.output, h.size, fun k hk ht => h.block k hk (fun hs => ht (hst k hk hs))⟩
theorem Kp.drewN {S : Nat → Prop} {a w : World} (h : Kp S a w) (n : Nat) : Kp S a (w.drewN n) := ⟨h.os, h.tape, h.output, h.size, h.block⟩
theorem Kp.setCell {S : Nat → Prop} {a w : World} (h : Kp S a w) (p : Addr) (v : Value) (hp : p.block < a.heap.size → S p.block) : Kp S a (w.setCell p v) :=
  ⟨h.os, h.tape, h.output, by have := h.size; simp [World.setCell]; omega, fun k hk hs => (Below.heap_setCell w p v k (fun e => hs (e ▸ hp (e ▸ hk)))).trans (h.block k hk hs)⟩
theorem Kp.grown {S : Nat → Prop} {a w w' : World} {row : Option Nat} (h : Kp S a w) (hg : w.grownBy w' row) (hr : ∀ k, k < a.heap.size → row = some k → S k) : Kp S a w' :=
  ⟨hg.os.trans h.os, hg.tape.trans h.tape, hg.output.trans h.output, Nat.le_trans h.size hg.size, fun k hk hs =>
    (hg.block k (Nat.lt_of_lt_of_le hk h.size) (fun e => hs (hr k hk e.symm))).trans (h.block k hk hs)⟩
theorem Kp.of_below {S : Nat → Prop} {w w' : World} (h : Below w.heap.size w w') : Kp S w w' := ⟨h.os, h.tape, h.output, h.size, fun k hk _ => h.block k hk⟩
theorem Kp.below {S : Nat → Prop} {w w' : World} {B : Nat} (h : Kp S w w') (hB : B ≤ w.heap.size) (hs : ∀ k, S k → B ≤ k) : Below B w w' :=
  ⟨h.os, h.tape, h.output, h.size, fun k hk => h.block k (by omega) (fun hsk => by have := hs k hsk; omega)⟩
theorem Kp.cell {S : Nat → Prop} {w w' : World} (h : Kp S w w') {p : Addr} {v : Value} (hc : w.cell? p = some v) (hs : ¬ S p.block) : w'.cell? p = some v :=
  (World.cell?_of_block (h.block p.block (World.block_lt_of_cell? w p hc) hs)).trans hc
theorem Kp.bsl {S : Nat → Prop} {w w' : World} (h : Kp S w w') {v : Value} {xs : List Nat} (hb : BSl w v xs) (hs : ∀ k, v.ownBlock = some k → ¬ S k) : BSl w' v xs := by
  obtain ⟨⟨a, cap, rfl, hn, hc⟩, hm, hby⟩ := hb
  refine ⟨⟨a, cap, rfl, hn, ?_⟩, hm, hby⟩
  rcases hc with hc | ⟨b, off, rfl, hc⟩
  · exact .inl hc
  · exact .inr ⟨b, off, rfl, fun j hj => h.cell (hc j hj) (hs b rfl)⟩

/-! ### A block of a known row of cells -/
theorem blk_cell {w : World} {b : Nat} {cur : Array Value} {e : TypeId} {j : Nat} {v : Value} (h : w.heap[b]? = some (.cells cur e (0, 0))) (hv : cur[j]? = some v) : w.cell? ⟨b, j, none⟩ = some v := by
  simp [World.cell?, h, hv]
theorem blk_frozen {w : World} {b : Nat} {cur : Array Value} {e : TypeId} (j : Nat) (h : w.heap[b]? = some (.cells cur e (0, 0))) : w.frozen? ⟨b, j, none⟩ = false := by
  simp [World.frozen?, h]
theorem blk_set {w : World} {b : Nat} {cur : Array Value} {e : TypeId} (j : Nat) (v : Value) (h : w.heap[b]? = some (.cells cur e (0, 0))) : (w.setCell ⟨b, j, none⟩ v).heap[b]? = some (.cells (cur.setIfInBounds j v) e (0, 0)) := by
  simp [World.setCell, Array.getElem?_modify, h]
theorem blk_other {w : World} {b c : Nat} {o : Obj} (j : Nat) (v : Value) (h : w.heap[c]? = some o) (hne : c ≠ b) : (w.setCell ⟨b, j, none⟩ v).heap[c]? = some o := by
  rw [Below.heap_setCell w ⟨b, j, none⟩ v c hne]; exact h
theorem blk_lt {w : World} {b : Nat} {o : Obj} (h : w.heap[b]? = some o) : b < w.heap.size := (Array.getElem?_eq_some_iff.1 h).1
theorem blk_alloc {w : World} {b : Nat} {o : Obj} (o' : Obj) (h : w.heap[b]? = some o) : (w.alloc o').heap[b]? = some o := (Below.heap_alloc w o' b (blk_lt h)).trans h
/-! ### The book -/
end
section
open Go.RowKit Go
/-- A string's bytes. -/
def sl (s : ByteArray) : List Nat := s.data.toList.map UInt8.toNat
theorem sl_byte (s : ByteArray) : ∀ x ∈ sl s, x < 256 := fun x hx => by
  obtain ⟨u, _, rfl⟩ := List.mem_map.1 hx
  exact u.toNat_lt
theorem sl_len (s : ByteArray) : (sl s).length = s.size := by
  unfold sl
  rw [List.length_map, Array.length_toList]
  rfl
theorem sl_get (s : ByteArray) (j : Nat) : (sl s).getD j 0 = (s.data.toList.getD j 0).toNat := by
  simp only [sl, List.getD, List.getElem?_map]
  cases s.data.toList[j]? <;> simp
/-- '[]byte(s)' of a string that is no constant. -/
theorem conv_sb (w : World) (s : ByteArray) : (convert 9 34 (.string s)).run Tryd.prog w = .ok (.slice (some ⟨w.heap.size, 0, none⟩) s.size (grownCap w s.size 0 5)) (Lib.bytesWorld w 5 s) := Lib.run_convert_string_bytes w 9 34 5 s Tryd.underlying9 Tryd.underlying34 Tryd.underlying5
theorem conv_sb_below (w : World) (s : ByteArray) : Below w.heap.size w (Lib.bytesWorld w 5 s) :=
  ⟨rfl, rfl, rfl, by rw [Lib.bytesWorld_size]; omega, fun k hk => Lib.bytesWorld_at_old w 5 s k hk⟩
theorem conv_sb_bsl (w : World) (s : ByteArray) (hs : s.size ≤ 9223372036854775807) : BSl (Lib.bytesWorld w 5 s) (.slice (some ⟨w.heap.size, 0, none⟩) s.size (grownCap w s.size 0 5)) (sl s) := by
  refine ⟨⟨_, _, by rw [sl_len], ⟨by rw [sl_len]; exact grownCap_ge w s.size 0 5, fun h => by cases h⟩, .inr ⟨w.heap.size, 0, rfl, fun j hj => ?_⟩⟩, by rw [sl_len]; exact hs, sl_byte s⟩
  rw [sl_len] at hj
  rw [Nat.zero_add, Lib.bytesWorld_cell w 5 s j hj, sl_get]
end
section
open Go.RowKit

end
section
open Go.RowKit
theorem own_form {w : World} {base : Nat} {e : TypeId} {v : Value} {n : Nat} {xs : List Value} (h : w.ownsRow base e 1 v n xs) : ∃ a cap, v = .slice a n cap ∧ n ≤ cap ∧ n ≤ 9223372036854775807 ∧ ∀ j u, xs[j]? = some u → ∃ g, a = some ⟨g, 0, none⟩ ∧ w.cell? ⟨g, j, none⟩ = some u := by
  have hlen : xs.length = n := by have := h.1; omega
  rcases h.2 with ⟨rfl, h0⟩ | ⟨g, cap, cur, rfl, _, hg, h1, h2, h3, h4⟩
  · refine ⟨none, 0, by rw [h0], by omega, by omega, fun j u hu => ?_⟩
    have : xs = [] := List.length_eq_zero_iff.1 (by omega)
    rw [this] at hu
    simp at hu
  · refine ⟨some ⟨g, 0, none⟩, cap, rfl, h1, by unfold maxLen at h2; omega, fun j u hu => ⟨g, rfl, ?_⟩⟩
    have := h.cells (g := g) rfl j u hu
    have hadd : (⟨g, 0, none⟩ : Addr).add j = ⟨g, j, none⟩ := by unfold Addr.add; split <;> simp_all
    rw [hadd] at this
    exact this
end
section
open Go.RowKit

end
section
open Go.RowKit
/-! ### SHA-256, plainly -/
/-- A number in so many bytes, the highest first. -/
def beb : Nat → Nat → List Nat
  | 0, _ => []
  | k + 1, n => (n / 256 ^ k % 256) :: beb k n
theorem beb_len : ∀ k n, (beb k n).length = k
  | 0, _ => rfl
  | k + 1, n => by simp [beb, beb_len k n]
theorem beb_byte : ∀ k n x, x ∈ beb k n → x < 256
  | 0, _, _, h => by simp [beb] at h
  | k + 1, n, x, h => by
    rcases List.mem_cons.1 h with h | h
    · subst h; exact Nat.mod_lt _ (by decide)
    · exact beb_byte k n x h
def rt (x n : Nat) : Nat := x / 2 ^ n + x % 2 ^ n * 2 ^ (32 - n)
def ls0 (x : Nat) : Nat := rt x 7 ^^^ rt x 18 ^^^ x / 8
def ls1 (x : Nat) : Nat := rt x 17 ^^^ rt x 19 ^^^ x / 1024
def us0 (x : Nat) : Nat := rt x 2 ^^^ rt x 13 ^^^ rt x 22
def us1 (x : Nat) : Nat := rt x 6 ^^^ rt x 11 ^^^ rt x 25
def cho (e f g : Nat) : Nat := (e &&& f) ^^^ ((4294967295 - e) &&& g)
def maj (a b c : Nat) : Nat := (a &&& b) ^^^ (a &&& c) ^^^ (b &&& c)
def kk : List Nat := [0x428a2f98, 0x71374491, 0xb5c0fbcf, 0xe9b5dba5, 0x3956c25b, 0x59f111f1, 0x923f82a4, 0xab1c5ed5,
  0xd807aa98, 0x12835b01, 0x243185be, 0x550c7dc3, 0x72be5d74, 0x80deb1fe, 0x9bdc06a7, 0xc19bf174,
  0xe49b69c1, 0xefbe4786, 0x0fc19dc6, 0x240ca1cc, 0x2de92c6f, 0x4a7484aa, 0x5cb0a9dc, 0x76f988da,
  0x983e5152, 0xa831c66d, 0xb00327c8, 0xbf597fc7, 0xc6e00bf3, 0xd5a79147, 0x06ca6351, 0x14292967,
  0x27b70a85, 0x2e1b2138, 0x4d2c6dfc, 0x53380d13, 0x650a7354, 0x766a0abb, 0x81c2c92e, 0x92722c85,
  0xa2bfe8a1, 0xa81a664b, 0xc24b8b70, 0xc76c51a3, 0xd192e819, 0xd6990624, 0xf40e3585, 0x106aa070,
  0x19a4c116, 0x1e376c08, 0x2748774c, 0x34b0bcb5, 0x391c0cb3, 0x4ed8aa4a, 0x5b9cca4f, 0x682e6ff3,
  0x748f82ee, 0x78a5636f, 0x84c87814, 0x8cc70208, 0x90befffa, 0xa4506ceb, 0xbef9a3f7, 0xc67178f2]
def hh : List Nat := [0x6a09e667, 0xbb67ae85, 0x3c6ef372, 0xa54ff53a, 0x510e527f, 0x9b05688c, 0x1f83d9ab, 0x5be0cd19]
/-- t and u of a round. -/
def rT (v : List Nat) (k w : Nat) : Nat := (v.getD 7 0 + us1 (v.getD 4 0) + cho (v.getD 4 0) (v.getD 5 0) (v.getD 6 0) + k + w) % 4294967296
def rU (v : List Nat) : Nat := (us0 (v.getD 0 0) + maj (v.getD 0 0) (v.getD 1 0) (v.getD 2 0)) % 4294967296
def rnd (v : List Nat) (k w : Nat) : List Nat := [(rT v k w + rU v) % 4294967296, v.getD 0 0, v.getD 1 0, v.getD 2 0, (v.getD 3 0 + rT v k w) % 4294967296, v.getD 4 0, v.getD 5 0, v.getD 6 0]
def wrd (l : List Nat) (p : Nat) : Nat := ((l.getD p 0 * 256 + l.getD (p + 1) 0) * 256 + l.getD (p + 2) 0) * 256 + l.getD (p + 3) 0
def nextW (l : List Nat) (n : Nat) : Nat := (ls1 (l.getD (n - 2) 0) + l.getD (n - 7) 0 + ls0 (l.getD (n - 15) 0) + l.getD (n - 16) 0) % 4294967296
/-- The first n words of a block that begins at p. -/
def wl (b : List Nat) (p : Nat) : Nat → List Nat
  | 0 => []
  | n + 1 => wl b p n ++ [if n < 16 then wrd b (p + 4 * n) else nextW (wl b p n) n]
/-- The state in the midst of a block. -/
def rl (b : List Nat) (p : Nat) (s : List Nat) : Nat → List Nat
  | 0 => s
  | n + 1 => rnd (rl b p s n) (kk.getD n 0) ((wl b p (n + 1)).getD n 0)
def cmp (b : List Nat) (p : Nat) (s : List Nat) : List Nat := List.zipWith (fun x y => (x + y) % 4294967296) s (rl b p s 64)
/-- The state behind n blocks. -/
def abs (b s : List Nat) : Nat → List Nat
  | 0 => s
  | n + 1 => cmp b (64 * n) (abs b s n)
def zer (n : Nat) : Nat := (119 - n % 64) % 64
def pad (b : List Nat) : List Nat := b ++ [128] ++ List.replicate (zer b.length) 0 ++ beb 8 (8 * b.length)
def outb (s : List Nat) : List Nat := s.flatMap (beb 4)
def sha (b : List Nat) : List Nat := outb (abs (pad b) hh ((pad b).length / 64))

theorem rt_lt {x n : Nat} (hx : x < 4294967296) (hn : n ≤ 32) : rt x n < 4294967296 := by
  unfold rt
  have hp : 0 < 2 ^ n := Nat.pow_pos (by decide)
  have hq : 0 < 2 ^ (32 - n) := Nat.pow_pos (by decide)
  have he : 2 ^ n * 2 ^ (32 - n) = 4294967296 := by rw [← Nat.pow_add]; have : n + (32 - n) = 32 := by omega
                                                    rw [this]
  have h1 : x / 2 ^ n < 2 ^ (32 - n) := by rw [Nat.div_lt_iff_lt_mul hp, Nat.mul_comm, he]; exact hx
  have h2 : x % 2 ^ n + 1 ≤ 2 ^ n := Nat.mod_lt _ hp
  have h3 : (x % 2 ^ n + 1) * 2 ^ (32 - n) ≤ 2 ^ n * 2 ^ (32 - n) := Nat.mul_le_mul_right _ h2
  rw [he, Nat.add_mul, Nat.one_mul] at h3
  omega
theorem xor_lt {a b : Nat} (ha : a < 4294967296) (hb : b < 4294967296) : a ^^^ b < 4294967296 := Nat.xor_lt_two_pow (n := 32) ha hb
theorem and_lt {a b : Nat} (ha : a < 4294967296) : a &&& b < 4294967296 := Nat.lt_of_le_of_lt Nat.and_le_left ha
theorem us0_lt {x : Nat} (h : x < 4294967296) : us0 x < 4294967296 := xor_lt (xor_lt (rt_lt h (by decide)) (rt_lt h (by decide))) (rt_lt h (by decide))
theorem us1_lt {x : Nat} (h : x < 4294967296) : us1 x < 4294967296 := xor_lt (xor_lt (rt_lt h (by decide)) (rt_lt h (by decide))) (rt_lt h (by decide))
theorem ls0_lt {x : Nat} (h : x < 4294967296) : ls0 x < 4294967296 := xor_lt (xor_lt (rt_lt h (by decide)) (rt_lt h (by decide))) (by omega)
theorem ls1_lt {x : Nat} (h : x < 4294967296) : ls1 x < 4294967296 := xor_lt (xor_lt (rt_lt h (by decide)) (rt_lt h (by decide))) (by omega)
theorem cho_lt {e f g : Nat} (h : e < 4294967296) : cho e f g < 4294967296 := xor_lt (and_lt h) (and_lt (by omega))
theorem maj_lt {a b c : Nat} (ha : a < 4294967296) (hb : b < 4294967296) : maj a b c < 4294967296 := xor_lt (xor_lt (and_lt ha) (and_lt ha)) (and_lt hb)
theorem wl_len (b : List Nat) (p : Nat) : ∀ n, (wl b p n).length = n
  | 0 => rfl
  | n + 1 => by simp [wl, wl_len b p n]
theorem getD_app {l : List Nat} {x j : Nat} (h : j < l.length) : (l ++ [x]).getD j 0 = l.getD j 0 := by
  simp [List.getD, List.getElem?_append_left h]
theorem wl_get (b : List Nat) (p : Nat) : ∀ n m j, j < n → n ≤ m → (wl b p m).getD j 0 = (wl b p n).getD j 0
  | n, m, j, hj, hm => by
    induction m with
    | zero => omega
    | succ m ih =>
      by_cases h : n = m + 1
      · rw [h]
      · rw [wl, getD_app (by rw [wl_len]; omega)]
        exact ih (by omega)
theorem rl_len (b : List Nat) (p : Nat) (s : List Nat) (h : s.length = 8) : ∀ n, (rl b p s n).length = 8
  | 0 => h
  | _ + 1 => rfl
theorem cmp_len (b : List Nat) (p : Nat) (s : List Nat) (h : s.length = 8) : (cmp b p s).length = 8 := by
  simp [cmp, h, rl_len b p s h]
theorem abs_len (b s : List Nat) (h : s.length = 8) : ∀ n, (abs b s n).length = 8
  | 0 => h
  | n + 1 => cmp_len _ _ _ (abs_len b s h n)
end
section
open Go.RowKit
set_option maxRecDepth 1000000 in
theorem refTurn_any (x n : Nat) (w : World) (hx : x < 4294967296) (hn : n = 2 ∨ n = 6 ∨ n = 7 ∨ n = 11 ∨ n = 13 ∨ n = 17 ∨ n = 18 ∨ n = 19 ∨ n = 22 ∨ n = 25) :
    Calls Tryd.prog 63 #[.int .u32 (x : Nat), .int .i64 (n : Nat)] w fun e w' => e = .returned (.int .u32 (rt x n : Nat)) ∧ w' = w := by
  have hr := rt_lt (n := n) hx (by omega)
  unfold rt at hr ⊢
  rcases hn with rfl | rfl | rfl | rfl | rfl | rfl | rfl | rfl | rfl | rfl
  · have e : ((x / 2 ^ 2 + x % 2 ^ 2 * 2 ^ (32 - 2) : Nat) : Int) = (x : Int) / 4 + (x : Int) % 4 * 1073741824 := by omega
    rw [e]
    have hb : (x : Int) / 4 + (x : Int) % 4 * 1073741824 < 4294967296 := by omega
    clear hr e
    go_enter Tryd.func63, Tryd.ntmps63
    go_wp2
    go_ret
    exact ⟨rfl, rfl⟩
  · have e : ((x / 2 ^ 6 + x % 2 ^ 6 * 2 ^ (32 - 6) : Nat) : Int) = (x : Int) / 64 + (x : Int) % 64 * 67108864 := by omega
    rw [e]
    have hb : (x : Int) / 64 + (x : Int) % 64 * 67108864 < 4294967296 := by omega
    clear hr e
    go_enter Tryd.func63, Tryd.ntmps63
    go_wp2
    go_ret
    exact ⟨rfl, rfl⟩
  · have e : ((x / 2 ^ 7 + x % 2 ^ 7 * 2 ^ (32 - 7) : Nat) : Int) = (x : Int) / 128 + (x : Int) % 128 * 33554432 := by omega
    rw [e]
    have hb : (x : Int) / 128 + (x : Int) % 128 * 33554432 < 4294967296 := by omega
    clear hr e
    go_enter Tryd.func63, Tryd.ntmps63
    go_wp2
    go_ret
    exact ⟨rfl, rfl⟩
  · have e : ((x / 2 ^ 11 + x % 2 ^ 11 * 2 ^ (32 - 11) : Nat) : Int) = (x : Int) / 2048 + (x : Int) % 2048 * 2097152 := by omega
    rw [e]
    have hb : (x : Int) / 2048 + (x : Int) % 2048 * 2097152 < 4294967296 := by omega
    clear hr e
    go_enter Tryd.func63, Tryd.ntmps63
    go_wp2
    go_ret
    exact ⟨rfl, rfl⟩
  · have e : ((x / 2 ^ 13 + x % 2 ^ 13 * 2 ^ (32 - 13) : Nat) : Int) = (x : Int) / 8192 + (x : Int) % 8192 * 524288 := by omega
    rw [e]
    have hb : (x : Int) / 8192 + (x : Int) % 8192 * 524288 < 4294967296 := by omega
    clear hr e
    go_enter Tryd.func63, Tryd.ntmps63
    go_wp2
    go_ret
    exact ⟨rfl, rfl⟩
  · have e : ((x / 2 ^ 17 + x % 2 ^ 17 * 2 ^ (32 - 17) : Nat) : Int) = (x : Int) / 131072 + (x : Int) % 131072 * 32768 := by omega
    rw [e]
    have hb : (x : Int) / 131072 + (x : Int) % 131072 * 32768 < 4294967296 := by omega
    clear hr e
    go_enter Tryd.func63, Tryd.ntmps63
    go_wp2
    go_ret
    exact ⟨rfl, rfl⟩
  · have e : ((x / 2 ^ 18 + x % 2 ^ 18 * 2 ^ (32 - 18) : Nat) : Int) = (x : Int) / 262144 + (x : Int) % 262144 * 16384 := by omega
    rw [e]
    have hb : (x : Int) / 262144 + (x : Int) % 262144 * 16384 < 4294967296 := by omega
    clear hr e
    go_enter Tryd.func63, Tryd.ntmps63
    go_wp2
    go_ret
    exact ⟨rfl, rfl⟩
  · have e : ((x / 2 ^ 19 + x % 2 ^ 19 * 2 ^ (32 - 19) : Nat) : Int) = (x : Int) / 524288 + (x : Int) % 524288 * 8192 := by omega
    rw [e]
    have hb : (x : Int) / 524288 + (x : Int) % 524288 * 8192 < 4294967296 := by omega
    clear hr e
    go_enter Tryd.func63, Tryd.ntmps63
    go_wp2
    go_ret
    exact ⟨rfl, rfl⟩
  · have e : ((x / 2 ^ 22 + x % 2 ^ 22 * 2 ^ (32 - 22) : Nat) : Int) = (x : Int) / 4194304 + (x : Int) % 4194304 * 1024 := by omega
    rw [e]
    have hb : (x : Int) / 4194304 + (x : Int) % 4194304 * 1024 < 4294967296 := by omega
    clear hr e
    go_enter Tryd.func63, Tryd.ntmps63
    go_wp2
    go_ret
    exact ⟨rfl, rfl⟩
  · have e : ((x / 2 ^ 25 + x % 2 ^ 25 * 2 ^ (32 - 25) : Nat) : Int) = (x : Int) / 33554432 + (x : Int) % 33554432 * 128 := by omega
    rw [e]
    have hb : (x : Int) / 33554432 + (x : Int) % 33554432 * 128 < 4294967296 := by omega
    clear hr e
    go_enter Tryd.func63, Tryd.ntmps63
    go_wp2
    go_ret
    exact ⟨rfl, rfl⟩

theorem refTurn_gen (x : Nat) (n : Int) (w : World) (hx : x < 4294967296) (hn : n = 2 ∨ n = 6 ∨ n = 7 ∨ n = 11 ∨ n = 13 ∨ n = 17 ∨ n = 18 ∨ n = 19 ∨ n = 22 ∨ n = 25) :
    Calls Tryd.prog 63 #[.int .u32 (x : Nat), .int .i64 n] w fun e w' => e = .returned (.int .u32 (rt x n.toNat : Nat)) ∧ w' = w := by
  obtain ⟨k, rfl⟩ := Int.eq_ofNat_of_zero_le (show 0 ≤ n by omega)
  rw [Int.toNat_natCast]
  exact refTurn_any x k w hx (by omega)
/-- Some of the four bytes of a word. -/
def pwd (l : List Nat) (p : Nat) : Nat → Nat
  | 0 => 0
  | j + 1 => 256 * pwd l p j + l.getD (p + j) 0
theorem pwd_lt {l : List Nat} (h : ∀ x ∈ l, x < 256) (p : Nat) : ∀ j, pwd l p j < 256 ^ j
  | 0 => by simp [pwd]
  | j + 1 => by
    have h1 := pwd_lt h p j
    have h2 := getD_lt h (p + j)
    simp only [pwd, Nat.pow_succ]
    omega
theorem pwd_four (l : List Nat) (p : Nat) : pwd l p 4 = wrd l p := by
  simp only [pwd, wrd, Nat.add_zero]
  omega
theorem wrd_lt {l : List Nat} (h : ∀ x ∈ l, x < 256) (p : Nat) : wrd l p < 4294967296 := by
  rw [← pwd_four]; exact pwd_lt h p 4

set_option maxRecDepth 1000000 in
theorem refWord_any (w : World) (v : Value) (l : List Nat) (p : Nat) (hsl : BSl w v l) (hp : p + 4 ≤ l.length) :
    Calls Tryd.prog 62 #[v, .int .i64 (p : Nat)] w fun e w' => e = .returned (.int .u32 (wrd l p : Nat)) ∧ w' = w := by
  obtain ⟨⟨a, cap, rfl, hn, hc⟩, hmax, hb⟩ := hsl
  rcases hc with hc | ⟨b, off, rfl, hc⟩
  · subst hc; simp at hp
  have HC := hide hc
  have HB := hide hb
  clear hn hc hb
  rw [← pwd_four]
  go_enter Tryd.func62, Tryd.ntmps62
  go_wp2
  go_loop [5, 6] (fun n i => ∃ j : Nat, j ≤ 4 ∧ i = .int .i64 (j : Nat) ∧ n = .int .u32 (pwd l p j : Nat)) (fun _ i => 4 - (intOf i).toNat)
  case atStart => exact ⟨0, by omega, rfl, rfl⟩
  case round =>
    obtain ⟨j, hj, rfl, rfl⟩ := hrel
    by_cases hlt : j < 4
    · have hlt' : (j : Int) < 4 := by omega
      have c : w.cell? ⟨b, off + (p + j), none⟩ = some (.int .u8 ((l.getD (p + j) 0 : Nat) : Int)) := HC.out (p + j) (by omega)
      have hy := getD_lt HB.out (p + j)
      have hN : pwd l p j < 16777216 := by
        have h1 := pwd_lt HB.out p j
        have h2 : 256 ^ j ≤ 256 ^ 3 := Nat.pow_le_pow_right (by decide) (by omega)
        simp at h2
        omega
      have HE : Hid (pwd l p (j + 1) = 256 * pwd l p j + l.getD (p + j) 0) := rfl
      generalize l.getD (p + j) 0 = y at *
      generalize pwd l p j = N at *
      have hi : (p : Int) + (j : Int) < (l.length : Int) := by omega
      go_wp2
      go_round
      case rel => exact ⟨j + 1, by omega, by go_num, by rw [HE.out]; go_num⟩
      case measure => simp [intOf]; omega
    · have hj4 : j = 4 := by omega
      subst hj4
      go_wp2
      go_ret
      exact ⟨rfl, rfl⟩
end
section
open Go.RowKit
/-- Words as cells. -/
def wv (l : List Nat) : List Value := l.map fun x => Value.int .u32 ((x : Nat) : Int)
theorem wv_len (l : List Nat) : (wv l).length = l.length := by simp [wv]
theorem wv_get {l : List Nat} {j : Nat} (h : j < l.length) : (wv l)[j]? = some (.int .u32 ((l.getD j 0 : Nat) : Int)) := by
  simp [wv, h, List.getD]
theorem wv_set (l : List Nat) (j x : Nat) : (wv l).set j (.int .u32 ((x : Nat) : Int)) = wv (l.set j x) := by
  simp [wv, List.map_set]

theorem info64 : (Tryd.prog.info? 108).map (·.size) = some (wv kk).toArray.size := by kernel_rfl
theorem results_one {fn : Func} {p : Tmp} {ty : TypeId} (h : fn.results = #[.cell p ty]) (tmps : Array Value) (P : Program) (w : World) :
    (results fn tmps).run P w = ((asAddr (tmps.getD p undef)).run P w).andThen fun a w₁ => (loadVar ty a).run P w₁ := by
  simp only [results, h]
  simp [Sem.run_bind, Result.andThen]

def evs (a : Act) (parts : Array (Nat × Operand)) : Array (Nat × Value) := parts.map fun (i, x) => (i, a.eval x)
/-- A whole array or struct that is built at once. -/
theorem wpList_buildW {T : TypeId} {A : Array Value} {parts : Array (Nat × Operand)} {ops : Array Oper} {rest : List Oper} {o : Oper} {a : Act} {Q : Exit → Act → World → Prop} {w : World} (hgd : o.guard = none) (ho : o.op = .build T parts)
    (hb : Tryd.prog.built T (evs a parts).toList = some A)
    (h : wpList Tryd.prog ops Q rest (a.put o.dst (.agg A)) w) : wpList Tryd.prog ops Q (o :: rest) a w := by
  refine wpList_plain hgd fun K hK => ?_
  unfold Oper.wp execOp
  have hr := run_build (P := Tryd.prog) w T (evs a parts) A hb
  unfold evs at hr
  simp only [ho, Sem.run_bind, hr, Result.andThen_ok]
  exact hK _ _ h
theorem wvkk_len : (wv kk).length = 64 := by kernel_rfl
theorem store_kk (w : World) : Sem.run Tryd.prog (storeCells ⟨w.heap.size, 0, none⟩ (wv kk)) (w.alloc (.cells #[.int .u32 0, .int .u32 0, .int .u32 0, .int .u32 0, .int .u32 0, .int .u32 0, .int .u32 0, .int .u32 0, .int .u32 0, .int .u32 0, .int .u32 0, .int .u32 0, .int .u32 0, .int .u32 0, .int .u32 0, .int .u32 0, .int .u32 0, .int .u32 0, .int .u32 0, .int .u32 0, .int .u32 0, .int .u32 0, .int .u32 0, .int .u32 0, .int .u32 0, .int .u32 0, .int .u32 0, .int .u32 0, .int .u32 0, .int .u32 0, .int .u32 0, .int .u32 0, .int .u32 0, .int .u32 0, .int .u32 0, .int .u32 0, .int .u32 0, .int .u32 0, .int .u32 0, .int .u32 0, .int .u32 0, .int .u32 0, .int .u32 0, .int .u32 0, .int .u32 0, .int .u32 0, .int .u32 0, .int .u32 0, .int .u32 0, .int .u32 0, .int .u32 0, .int .u32 0, .int .u32 0, .int .u32 0, .int .u32 0, .int .u32 0, .int .u32 0, .int .u32 0, .int .u32 0, .int .u32 0, .int .u32 0, .int .u32 0, .int .u32 0, .int .u32 0] 108)) = .ok () (w.alloc (.cells (wv kk).toArray 108)) := by
  have h := run_storeCells_new (P := Tryd.prog) w 108 #[.int .u32 0, .int .u32 0, .int .u32 0, .int .u32 0, .int .u32 0, .int .u32 0, .int .u32 0, .int .u32 0, .int .u32 0, .int .u32 0, .int .u32 0, .int .u32 0, .int .u32 0, .int .u32 0, .int .u32 0, .int .u32 0, .int .u32 0, .int .u32 0, .int .u32 0, .int .u32 0, .int .u32 0, .int .u32 0, .int .u32 0, .int .u32 0, .int .u32 0, .int .u32 0, .int .u32 0, .int .u32 0, .int .u32 0, .int .u32 0, .int .u32 0, .int .u32 0, .int .u32 0, .int .u32 0, .int .u32 0, .int .u32 0, .int .u32 0, .int .u32 0, .int .u32 0, .int .u32 0, .int .u32 0, .int .u32 0, .int .u32 0, .int .u32 0, .int .u32 0, .int .u32 0, .int .u32 0, .int .u32 0, .int .u32 0, .int .u32 0, .int .u32 0, .int .u32 0, .int .u32 0, .int .u32 0, .int .u32 0, .int .u32 0, .int .u32 0, .int .u32 0, .int .u32 0, .int .u32 0, .int .u32 0, .int .u32 0, .int .u32 0, .int .u32 0] (wv kk).toArray info64 (by kernel_rfl) (by kernel_rfl)
  exact h

set_option maxRecDepth 1000000 in
set_option maxHeartbeats 4000000 in
theorem refFactor_any (w : World) : Calls Tryd.prog 61 #[] w fun e w' => e = .returned (.agg (wv kk).toArray) ∧ Below w.heap.size w w' := by
  have hst := store_kk w
  have hkl := wvkk_len
  go_enter Tryd.func61, Tryd.ntmps61
  go_wp2_with (refine wpList_buildW (A := (wv kk).toArray) rfl rfl (by kernel_rfl) ?_)
  refine bodyPost_ret (v := .agg (wv kk).toArray) ((results_one (p := 0) (ty := 108) rfl _ _ _).trans (run_loadVar_new w 108 _ 64 46 Tryd.underlying108 info64)) rfl ⟨rfl, ?_⟩
  exact (Below.refl _ _).alloc (Nat.le_refl _) _
end
end Go.Proofs.YtbogamcoheajmaaDoor
