import Derived.Test.YtcmfgambfgebfaaGreatDoorRows
import Derived.WalkKit
import Derived.WalkSpells
import Derived.WalkLawsBesides
import Derived.ScopeJumps
import Derived.Laws.BytesArg
import Derived.Laws.AppendOwnNone
import Derived.ProofKit
import Derived.OpenShut
import Derived.SizedLaws
import Derived.Deep.Matrix
import Derived.Lib.SmallJoins
import Derived.WalkSmall
import Derived.Lib.ConvBytes
import Derived.Laws.AppendOwn
import Derived.Deep.QuietTactic
import Derived.BigQuiet
import Derived.Maps.AppendAt
import Derived.Deep.RegionWith
import Derived.Deep.WholeRow
import Derived.StillTailTactics
import Derived.Deep.LoopGhost
import Derived.Deep.DeepCutAuto
import Derived.Deep.RegionLaw
import Derived.StillTail
import Derived.Laws.CopyOwn
import Derived.Lib.SliceRun
namespace Go.Proofs.YtcmfgambfgebfaaGreatDoor
section
open Go.RowKit
theorem hide {p : Prop} (h : p) : Hid p := h

/-- Bytes as cells. -/
def bv (l : List Nat) : List Value := l.map fun x => Value.int .u8 ((x : Nat) : Int)

theorem own_mono {w : World} {base base' : Nat} {e : TypeId} {size : Nat} {v : Value} {n : Nat} {xs : List Value} (h : w.ownsRow base e size v n xs) (hb : base' ≤ base) : w.ownsRow base' e size v n xs := by
  refine ⟨h.1, ?_⟩
  rcases h.2 with hn | ⟨g, cap, cur, hv, hg, r⟩
  · exact .inl hn
  · exact .inr ⟨g, cap, cur, hv, Nat.le_trans hb hg, r⟩
end
section
open Go.RowKit
/-- The slice value v reads, in w, as the bytes xs. -/
structure BSl (w : World) (v : Value) (xs : List Nat) : Prop where
  form : ∃ a cap, v = .slice a xs.length cap ∧ (xs.length ≤ cap ∧ (a = none → cap = 0)) ∧ (xs = [] ∨ ∃ b off, a = some ⟨b, off, none⟩ ∧ ∀ j, j < xs.length → w.cell? ⟨b, off + j, none⟩ = some (.int .u8 ((xs.getD j 0 : Nat) : Int)))
  max : xs.length ≤ 9223372036854775807
  byte : ∀ x ∈ xs, x < 256

theorem keep_below {w w' : World} (hb : Below w.heap.size w w') : ∀ a u, w.cell? a = some u → w'.cell? a = some u := by
  intro a u h
  rw [hb.cell (World.block_lt_of_cell? w a h)]; exact h

/-- Bytes as a string's. -/
def nstr (xs : List Nat) : ByteArray := strOfNums (xs.map fun x => ((x : Nat) : Int))

theorem bv_get {xs : List Nat} {j : Nat} (h : j < xs.length) : (bv xs)[j]? = some (.int .u8 ((xs.getD j 0 : Nat) : Int)) := by
  simp [bv, h, List.getD]

theorem BSl.own {w : World} {B n : Nat} {v : Value} {xs : List Nat} (h : w.ownsRow B 5 1 v n (bv xs)) (hb : ∀ x ∈ xs, x < 256) : BSl w v xs := by
  have hn : n = xs.length := by have := h.1; simp [bv] at this; omega
  subst hn
  refine ⟨?_, ?_, hb⟩
  · rcases h.2 with ⟨rfl, h0⟩ | ⟨g, cap, cur, rfl, _, hg, h1, h2, h3, h4⟩
    · exact ⟨none, 0, by rw [h0], ⟨by omega, fun _ => rfl⟩, .inl (List.length_eq_zero_iff.1 h0)⟩
    · refine ⟨some ⟨g, 0, none⟩, cap, rfl, ⟨h1, fun h => by (cases h)⟩, .inr ⟨g, 0, rfl, fun j hj => ?_⟩⟩
      have := h.cells (g := g) rfl j _ (bv_get hj)
      have hadd : (⟨g, 0, none⟩ : Addr).add j = ⟨g, 0 + j, none⟩ := by unfold Addr.add; split <;> simp_all
      rw [hadd] at this
      exact this
  · rcases h.2 with ⟨rfl, h0⟩ | ⟨g, cap, cur, rfl, _, hg, h1, h2, h3, h4⟩
    · omega
    · unfold maxLen at h2; omega

/-! ### Walks -/
end
section
open Go.ChangeShapes Go.WideShapes Go.ChangeAt Go.RowKit Go.Deep
theorem Tryz.own : ownKnob Tryz.prog.godebug = none := by kernel_rfl

theorem Tryz.laidOut : laidOutB Tryz.prog = true := by kernel_rfl

/-- What a row weighs, inside a slice of rows. -/
theorem weights_all {H : Type} {P : Program} {e : TypeId} {d : DataW H} : ∀ {l : List (DataW H)}, d ∈ l → ∀ n ∈ d.weights P e, n ∈ DataW.weightsAll P e l
  | [], h, _, _ => by cases h
  | x :: r, h, n, hn => by
    simp only [DataW.weightsAll, List.mem_append]
    rcases List.mem_cons.1 h with h | h
    · subst h; exact .inl hn
    · exact .inr (weights_all h n hn)
end
section
open Go.ChangeShapes Go.WideShapes Go.ChangeAt Go.RowKit Go.Deep Go.Joins

end
section
open Go.RowKit
def marks : List Nat := (List.range 70).map fun i => 165 - i
end
section
open Go.RowKit
/-! ### What stays -/
/-- What was there stays as it was, but for the blocks S. -/
structure Kp (S : Nat → Prop) (w w' : World) : Prop where
  os : w'.os = w.os
  tape : w'.tape = w.tape
  output : w'.output = w.output
  size : w.heap.size ≤ w'.heap.size
  block : ∀ k, k < w.heap.size → ¬ S k → w'.heap[k]? = w.heap[k]?

theorem Kp.refl (S : Nat → Prop) (w : World) : Kp S w w := ⟨rfl, rfl, rfl, Nat.le_refl _, fun _ _ _ => rfl⟩
theorem Kp.trans {S T : Nat → Prop} {a b c : World} (h : Kp S a b) (g : Kp T b c) (hst : ∀ k, k < a.heap.size → T k → S k) : Kp S a c :=
  ⟨g.os.trans h.os, g.tape.trans h.tape, g.output.trans h.output, Nat.le_trans h.size g.size, fun k hk hs =>
    (g.block k (Nat.lt_of_lt_of_le hk h.size) (fun ht => hs (hst k hk ht))).trans (h.block k hk hs)⟩
theorem Kp.mono {S T : Nat → Prop} {w w' : World} (h : Kp S w w') (hst : ∀ k, k < w.heap.size → S k → T k) : Kp T w w' :=
  ⟨h.os, h.tape, h.output, h.size, fun k hk ht => h.block k hk (fun hs => ht (hst k hk hs))⟩
theorem Kp.alloc {S : Nat → Prop} {a w : World} (h : Kp S a w) (o : Obj) : Kp S a (w.alloc o) :=
  ⟨h.os, h.tape, h.output, by have := h.size; simp; omega, fun k hk hs => (Below.heap_alloc w o k (Nat.lt_of_lt_of_le hk h.size)).trans (h.block k hk hs)⟩
theorem Kp.drew {S : Nat → Prop} {a w : World} (h : Kp S a w) : Kp S a w.drew := ⟨h.os, h.tape, h.output, h.size, h.block⟩
theorem Kp.setCell {S : Nat → Prop} {a w : World} (h : Kp S a w) (p : Addr) (v : Value) (hp : p.block < a.heap.size → S p.block) : Kp S a (w.setCell p v) :=
  ⟨h.os, h.tape, h.output, by have := h.size; simp [World.setCell]; omega, fun k hk hs => (Below.heap_setCell w p v k (fun e => hs (e ▸ hp (e ▸ hk)))).trans (h.block k hk hs)⟩
theorem Kp.of_below {S : Nat → Prop} {w w' : World} (h : Below w.heap.size w w') : Kp S w w' := ⟨h.os, h.tape, h.output, h.size, fun k hk _ => h.block k hk⟩
theorem Kp.below {S : Nat → Prop} {w w' : World} {B : Nat} (h : Kp S w w') (hB : B ≤ w.heap.size) (hs : ∀ k, S k → B ≤ k) : Below B w w' :=
  ⟨h.os, h.tape, h.output, h.size, fun k hk => h.block k (by omega) (fun hsk => by have := hs k hsk; omega)⟩
theorem Kp.cell {S : Nat → Prop} {w w' : World} (h : Kp S w w') {p : Addr} {v : Value} (hc : w.cell? p = some v) (hs : ¬ S p.block) : w'.cell? p = some v :=
  (World.cell?_of_block (h.block p.block (World.block_lt_of_cell? w p hc) hs)).trans hc
theorem Kp.owns {S : Nat → Prop} {w w' : World} (h : Kp S w w') {base : Nat} {e : TypeId} {size : Nat} {v : Value} {n : Nat} {xs : List Value} (ho : w.ownsRow base e size v n xs) (hs : ∀ k, v.ownBlock = some k → ¬ S k) : w'.ownsRow base e size v n xs := by
  refine ⟨ho.1, ?_⟩
  rcases ho.2 with hn | ⟨g, cap, cur, rfl, hb, hgg, rest⟩
  · exact .inl hn
  · refine .inr ⟨g, cap, cur, rfl, hb, ?_, rest⟩
    rw [h.block g (Array.getElem?_eq_some_iff.1 hgg).1 (hs g rfl)]
    exact hgg
/-! ### A block of a known row of cells -/
theorem blk_cell {w : World} {b : Nat} {cur : Array Value} {e : TypeId} {j : Nat} {v : Value} (h : w.heap[b]? = some (.cells cur e (0, 0))) (hv : cur[j]? = some v) : w.cell? ⟨b, j, none⟩ = some v := by
  simp [World.cell?, h, hv]
theorem blk_frozen {w : World} {b : Nat} {cur : Array Value} {e : TypeId} (j : Nat) (h : w.heap[b]? = some (.cells cur e (0, 0))) : w.frozen? ⟨b, j, none⟩ = false := by
  simp [World.frozen?, h]
theorem blk_set {w : World} {b : Nat} {cur : Array Value} {e : TypeId} (j : Nat) (v : Value) (h : w.heap[b]? = some (.cells cur e (0, 0))) : (w.setCell ⟨b, j, none⟩ v).heap[b]? = some (.cells (cur.setIfInBounds j v) e (0, 0)) := by
  simp [World.setCell, Array.getElem?_modify, h]
theorem blk_other {w : World} {b c : Nat} {o : Obj} (j : Nat) (v : Value) (h : w.heap[c]? = some o) (hne : c ≠ b) : (w.setCell ⟨b, j, none⟩ v).heap[c]? = some o := by
  rw [Below.heap_setCell w ⟨b, j, none⟩ v c hne]; exact h
theorem blk_lt {w : World} {b : Nat} {o : Obj} (h : w.heap[b]? = some o) : b < w.heap.size := (Array.getElem?_eq_some_iff.1 h).1
theorem blk_alloc {w : World} {b : Nat} {o : Obj} (o' : Obj) (h : w.heap[b]? = some o) : (w.alloc o').heap[b]? = some o := (Below.heap_alloc w o' b (blk_lt h)).trans h
theorem own_block_type {w : World} {base : Nat} {e : TypeId} {size : Nat} {v : Value} {n : Nat} {xs : List Value} (h : w.ownsRow base e size v n xs) {k : Nat} (hk : v.ownBlock = some k) : ∃ cur, w.heap[k]? = some (.cells cur e (0, 0)) := by
  rcases h.2 with ⟨rfl, _⟩ | ⟨g, cap, cur, rfl, _, hg, _⟩
  · simp [Value.ownBlock] at hk
  · simp [Value.ownBlock] at hk; subst hk; exact ⟨cur, hg⟩
/-! ### The book -/
end
section
open Go.RowKit Go
/-- A string's bytes. -/
def sl (s : ByteArray) : List Nat := s.data.toList.map UInt8.toNat
theorem sl_len (s : ByteArray) : (sl s).length = s.size := by
  unfold sl
  rw [List.length_map, Array.length_toList]
  rfl
theorem sl_get (s : ByteArray) (j : Nat) : (sl s).getD j 0 = (s.data.toList.getD j 0).toNat := by
  simp only [sl, List.getD, List.getElem?_map]
  cases s.data.toList[j]? <;> simp
end
section
open Go.RowKit

end
section
open Go.RowKit

end
section
open Go.RowKit
/-- One cell of a row of the call's own is written. -/
theorem own_set {w : World} {base : Nat} {e : TypeId} {g n cap j : Nat} {xs : List Value} (x : Value) (h : w.ownsRow base e 1 (.slice (some ⟨g, 0, none⟩) n cap) n xs) :
    (w.setCell ⟨g, j, none⟩ x).ownsRow base e 1 (.slice (some ⟨g, 0, none⟩) n cap) n (xs.set j x) := by
  refine ⟨by rw [List.length_set]; exact h.1, ?_⟩
  rcases h.2 with ⟨hv, _⟩ | ⟨g', cap', cur, hv, hb, hg, h1, h2, h3, h4⟩
  · cases hv
  · injection hv with e1 e2 e3
    injection e1 with e1
    injection e1 with e1 _ _
    subst e1
    subst e3
    refine .inr ⟨g, cap, _, rfl, hb, blk_set j x hg, h1, h2, by simpa using h3, ?_⟩
    rw [Nat.mul_one] at h4 ⊢
    rw [← h4, Array.toList_setIfInBounds, List.take_set]
theorem own_cell {w : World} {base : Nat} {e : TypeId} {g n m cap : Nat} {xs : List Value} (h : w.ownsRow base e 1 (.slice (some ⟨g, 0, none⟩) m cap) n xs) {j : Nat} {u : Value} (hu : xs[j]? = some u) : w.cell? ⟨g, j, none⟩ = some u ∧ w.frozen? ⟨g, j, none⟩ = false := by
  have := h.cells (g := g) rfl j u hu
  have hadd : (⟨g, 0, none⟩ : Addr).add j = ⟨g, j, none⟩ := by unfold Addr.add; split <;> simp_all
  rw [hadd] at this
  obtain ⟨cur, hcur⟩ := own_block_type h (k := g) rfl
  exact ⟨this, blk_frozen j hcur⟩
end
section
open Go.RowKit
/-! ### SHA-256, plainly -/
def hh : List Nat := [0x6a09e667, 0xbb67ae85, 0x3c6ef372, 0xa54ff53a, 0x510e527f, 0x9b05688c, 0x1f83d9ab, 0x5be0cd19]
end
section
open Go.RowKit

end
section
open Go.RowKit
/-- Words as cells. -/
def wv (l : List Nat) : List Value := l.map fun x => Value.int .u32 ((x : Nat) : Int)
end
section
open Go.RowKit

end
section
open Go.RowKit
/-! ### Eq -/
end
section
open Go.RowKit

end
section
open Go.RowKit

end
section
open Go.RowKit
/-! ### Whole rows -/
theorem row_same {w : World} {g : Nat} {old cs : Array Value} {t : TypeId} (h : w.heap[g]? = some (.cells old t (0, 0))) : (w.setRow g cs).heap[g]? = some (.cells cs t (0, 0)) := by
  simp [World.setRow, Array.getElem?_modify, h]
theorem row_other {w : World} {g k : Nat} {cs : Array Value} (h : k ≠ g) : (w.setRow g cs).heap[k]? = w.heap[k]? := by
  have h' : ¬ g = k := fun e => h e.symm
  simp [World.setRow, Array.getElem?_modify, h']
theorem row_kp (w : World) (g : Nat) (cs : Array Value) : Kp (fun q => q = g) w (w.setRow g cs) :=
  ⟨rfl, rfl, rfl, by simp [World.setRow], fun _ _ h => row_other h⟩
theorem wpList_storeRow {ops : Array Oper} {rest : List Oper} {o : Oper} {a : Act} {Q : Exit → Act → World → Prop} {w : World} {T : TypeId} {p x : Operand} (hgd : o.guard = none) (ho : o.op = .store T p x) (g : Nat) (old cs : Array Value) (t : TypeId)
    (hp : a.eval p = .pointer (some ⟨g, 0, none⟩)) (hx : a.eval x = .agg cs) (hg : w.heap[g]? = some (.cells old t (0, 0))) (hi : (Tryz.prog.info? T).map (·.size) = some cs.size) (hn : old.size = cs.size) (h1 : cs.all (·.oneCell') = true)
    (h : wpList Tryz.prog ops Q rest (a.put o.dst undef) (w.setRow g cs)) : wpList Tryz.prog ops Q (o :: rest) a w := by
  refine wpList_plain hgd fun K hK => ?_
  unfold Oper.wp execOp
  have hr : (Instr.storeAt T (.pointer (some ⟨g, 0, none⟩)) (.agg cs)).run Tryz.prog w = .ok () (w.setRow g cs) := by
    simp only [Instr.storeAt, Instr.sureAddr, Sem.run_bind, Sem.run_pure, Result.andThen]
    exact run_storeVar_row (P := Tryz.prog) w g t T old cs hg hi hn h1
  simp only [ho, Sem.run_bind, hp, hx, hr, Result.andThen_ok]
  exact hK _ _ h
end
section
open Go.RowKit
/-! ### Eq -/
end
section
open Go.RowKit

end
section
open Go.RowKit Go
/-- The number that digits make, the first one the highest. -/
def valB (b : Nat) (l : List Nat) : Nat := l.foldl (fun r d => r * b + d) 0
/-- A number's digits, the highest first, none of 0. -/
def digB (b n : Nat) : List Nat := if _h : n = 0 ∨ b < 2 then [] else digB b (n / b) ++ [n % b]
termination_by n
decreasing_by exact Nat.div_lt_self (by omega) (by omega)
/-- Digits of one base in another one: a 0 for each 0 at the front, then the number. -/
def conv (a b : Nat) (l : List Nat) : List Nat := List.replicate (l.takeWhile (· == 0)).length 0 ++ digB b (valB a (l.dropWhile (· == 0)))
end
section
open Go.RowKit

end
section
open Go.RowKit
/-! ### The landed digest: words -/
end
section
open Go.RowKit

end
section
open Go.RowKit
/-! ### Plain -/
/-! ### The walk -/
end
section
open Go.RowKit

end
section
open Go.RowKit

end
section
open Go.RowKit

end
section
open Go.RowKit

end
section
open Go.RowKit
/-! ### A hash under way -/
/-- The cells of a hash. -/
def hc (s r : List Nat) (c : Nat) : List Value := wv s ++ (bv r ++ [.int .u64 ((c : Nat) : Int)])
end
section
open Go.RowKit

end
section
open Go.RowKit

end
section
open Go.RowKit

end
section
open Go.RowKit
/-- The worlds that hold what w holds, and maybe more. -/
structure Ext (w : World) where
  w' : World
  h : Below w.heap.size w w'
instance (w : World) : Nonempty (Ext w) := ⟨⟨w, Below.refl _ _⟩⟩
theorem Ext.cell {w : World} {p : Addr} {v : Value} (h : w.cell? p = some v) (t : Ext w) : t.w'.cell? p = some v := keep_below t.h _ _ h
/-- A region that draws its order, whose operations read and whose callees read or make memory: one walk, in the text's order. -/
theorem region_ext {id : Nat} {Q : Exit → Act → World → Prop} {a : Act} {w : World} {l : List Oper} (hm : Tryz.prog.follows .mixedOrders = true) (hB : Region.lexB .any l.toArray = true)
    (h : wpQuiet Tryz.prog l.toArray (fun w' => ∃ t : Ext w, w' = t.w') (fun a' => ∀ w', (∃ t : Ext w, w' = t.w') → Q .normal a' w') l a) : (Code.region id l.toArray true).wp Tryz.prog Q a w :=
  wp_region_quiet (C := fun w' => ∃ t : Ext w, w' = t.w') hm hB ⟨⟨w.drew, (Below.refl _ _).drew⟩, rfl⟩ (by simpa using h)
/-- A callee that leaves the world as it is. -/
theorem Calls.ext_same {f : FuncId} {args : Array Value} {w : World} {t : Ext w} {v : Value} (h : Calls Tryz.prog f args t.w' fun e w' => e = .returned v ∧ w' = t.w') : Calls Tryz.prog f args t.w' fun e w'' => e = .returned v ∧ ∃ t' : Ext w, w'' = t'.w' :=
  h.mono fun _ _ ⟨he, hm⟩ => ⟨he, t, hm⟩
/-- A callee that makes memory. -/
theorem Calls.ext_below {f : FuncId} {args : Array Value} {w : World} {t : Ext w} {v : Value} (h : Calls Tryz.prog f args t.w' fun e w' => e = .returned v ∧ Below t.w'.heap.size t.w' w') : Calls Tryz.prog f args t.w' fun e w'' => e = .returned v ∧ ∃ t' : Ext w, w'' = t'.w' :=
  h.mono fun _ w' ⟨he, hb⟩ => ⟨he, ⟨w', t.h.trans (hb.mono t.h.size)⟩, rfl⟩
end
section
open Go.RowKit Go
section
variable {P : Program} {ops : Array Oper} {md : Region.Mode} {C : World → Prop}

end
end
section
open Go.RowKit Go
/-! ### Parts of a block: by value, copied, cleared -/
theorem addr_add (g o j : Nat) : (⟨g, o, none⟩ : Addr).add j = ⟨g, o + j, none⟩ := by unfold Addr.add; split <;> simp_all
theorem part_store {w : World} {T t : TypeId} (g off : Nat) (cur cs : List Value) (hg : w.heap[g]? = some (.cells cur.toArray t (0, 0))) (hi : (Tryz.prog.info? T).map (·.size) = some cs.length) (hf : off + cs.length ≤ cur.length) (h1 : ∀ v ∈ cs, v.oneCell' = true) :
    (Instr.storeAt T (.pointer (some ⟨g, off, none⟩)) (.agg cs.toArray)).run Tryz.prog w = .ok () (w.setRow g (splice cur off cs).toArray) := by
  have hst := run_storeCells_at (P := Tryz.prog) g off t cs 0 cur.toArray w hg (by simpa using hf) h1
  simp only [Nat.add_zero, List.append_assoc] at hst
  simp only [Instr.storeAt, Instr.sureAddr, Sem.run_bind, Sem.run_pure, Result.andThen]
  cases hq : Tryz.prog.info? T with
  | none => simp [hq] at hi
  | some i =>
    have hs : cs.length = i.size := by simp [hq] at hi; omega
    simp [storeVar, sizeOf, typeInfo, hq, Value.cells, hs, hst, splice]
theorem wpList_storePart {ops : Array Oper} {rest : List Oper} {o : Oper} {a : Act} {Q : Exit → Act → World → Prop} {w : World} {T : TypeId} {p x : Operand} (hgd : o.guard = none) (ho : o.op = .store T p x) (g off : Nat) (cur cs : List Value) (t : TypeId)
    (hp : a.eval p = .pointer (some ⟨g, off, none⟩)) (hx : a.eval x = .agg cs.toArray) (hg : w.heap[g]? = some (.cells cur.toArray t (0, 0))) (hi : (Tryz.prog.info? T).map (·.size) = some cs.length) (hf : off + cs.length ≤ cur.length) (h1 : ∀ v ∈ cs, v.oneCell' = true)
    (h : ∀ w', Hid (w'.heap[g]? = some (.cells (splice cur off cs).toArray t (0, 0))) → Hid (Kp (fun q => q = g) w w') → wpList Tryz.prog ops Q rest (a.put o.dst undef) w') : wpList Tryz.prog ops Q (o :: rest) a w := by
  refine wpList_plain hgd fun K hK => ?_
  unfold Oper.wp execOp
  simp only [ho, Sem.run_bind, hp, hx, part_store g off cur cs hg hi hf h1, Result.andThen_ok]
  exact hK _ _ (h _ (row_same hg) (row_kp _ _ _))
end
section
open Go.RowKit Go
/-! ### The state over pieces -/
/-! ### The cells of a hash, by parts -/
end
section
open Go.RowKit Go

end
end Go.Proofs.YtcmfgambfgebfaaGreatDoor
