import Derived.Test.YtbbalhfjgpaabaaGreatDoorRows
import Derived.WalkKit
import Derived.WalkSpells
import Derived.WalkLawsBesides
import Derived.ScopeJumps
import Derived.Laws.BytesArg
import Derived.Laws.AppendOwnNone
import Derived.WalkSmall
import Derived.Deep.QuietTactic
import Derived.BigQuiet
import Derived.Maps.AppendAt
import Derived.Deep.RegionWith
import Derived.Deep.WholeRow
import Derived.StillTailTactics
import Derived.Deep.LoopGhost
import Derived.Deep.DeepCutAuto
import Derived.Deep.RegionLaw
import Derived.StillTail
import Derived.Laws.CopyOwn
import Derived.Lib.SliceRun
import Derived.ProofKit
import Derived.OpenShut
import Derived.SizedLaws
import Derived.Deep.Matrix
import Derived.Lib.SmallJoins
import Derived.Lib.ConvBytes
import Derived.Laws.AppendOwn
namespace Go.Proofs.YtbbalhfjgpaabaaGreatDoor
section
open Go.RowKit
theorem LsA {α : Type _} (l : List α) (i : Nat) (a : α) : l.toArray.setIfInBounds i a = (l.set i a).toArray := List.setIfInBounds_toArray ..
theorem Ls0 {α : Type _} (a b : α) (l : List α) : (a :: l).set 0 b = b :: l := rfl
theorem LsS {α : Type _} (a b : α) (l : List α) (i : Nat) : (a :: l).set (i + 1) b = a :: l.set i b := rfl

theorem hide {p : Prop} (h : p) : Hid p := h

def bv (l : List Nat) : List Value := l.map fun x => Value.int .u8 ((x : Nat) : Int)

theorem own_mono {w : World} {base base' : Nat} {e : TypeId} {size : Nat} {v : Value} {n : Nat} {xs : List Value} (h : w.ownsRow base e size v n xs) (hb : base' ≤ base) : w.ownsRow base' e size v n xs := by
  refine ⟨h.1, ?_⟩
  rcases h.2 with hn | ⟨g, cap, cur, hv, hg, r⟩
  · exact .inl hn
  · exact .inr ⟨g, cap, cur, hv, Nat.le_trans hb hg, r⟩
end
section
open Go.RowKit
structure BSl (w : World) (v : Value) (xs : List Nat) : Prop where
  form : ∃ a cap, v = .slice a xs.length cap ∧ (xs.length ≤ cap ∧ (a = none → cap = 0)) ∧ (xs = [] ∨ ∃ b off, a = some ⟨b, off, none⟩ ∧ ∀ j, j < xs.length → w.cell? ⟨b, off + j, none⟩ = some (.int .u8 ((xs.getD j 0 : Nat) : Int)))
  max : xs.length ≤ 9223372036854775807
  byte : ∀ x ∈ xs, x < 256

theorem BSl.move {w w' : World} {v : Value} {xs : List Nat} (h : BSl w v xs) (hm : ∀ a u, w.cell? a = some u → w'.cell? a = some u) : BSl w' v xs := by
  obtain ⟨⟨a, cap, rfl, hn, hc⟩, hmax, hb⟩ := h
  refine ⟨⟨a, cap, rfl, hn, ?_⟩, hmax, hb⟩
  rcases hc with hc | ⟨b, off, rfl, hc⟩
  · exact .inl hc
  · exact .inr ⟨b, off, rfl, fun j hj => hm _ _ (hc j hj)⟩

theorem keep_below {w w' : World} (hb : Below w.heap.size w w') : ∀ a u, w.cell? a = some u → w'.cell? a = some u := by
  intro a u h
  rw [hb.cell (World.block_lt_of_cell? w a h)]; exact h

def nstr (xs : List Nat) : ByteArray := strOfNums (xs.map fun x => ((x : Nat) : Int))

theorem nstr_inj {xs ys : List Nat} (hx : ∀ x ∈ xs, x < 256) (hy : ∀ x ∈ ys, x < 256) (h : (nstr xs).toList = (nstr ys).toList) : xs = ys := by
  have key : ∀ l : List Nat, (∀ x ∈ l, x < 256) → (nstr l).data.toList.map UInt8.toNat = l := by
    intro l hl
    simp only [nstr, strOfNums_data, List.map_map]
    conv => rhs; rw [← List.map_id l]
    apply List.map_congr_left
    intro x hx
    have := hl x hx
    simp; omega
  rw [ByteArray.toList_eq, ByteArray.toList_eq] at h
  rw [← key xs hx, ← key ys hy, h]

theorem BSl.text {w : World} {v : Value} {xs : List Nat} (h : BSl w v xs) : (convert 149 9 v).run Tryz.prog w = .ok (.string (nstr xs)) w := by
  obtain ⟨⟨a, cap, rfl, _, hc⟩, hmax, hb⟩ := h
  rcases hc with rfl | ⟨b, off, rfl, hc⟩
  · cases a with
    | none => exact run_convert_bytes_nil w 149 5 Tryz.underlying149 Tryz.underlying5 _ _ 9 Tryz.underlying9
    | some a =>
      rw [run_convert_bytes_string w 149 9 5 _ _ _ Tryz.underlying149 Tryz.underlying5 Tryz.underlying9]
      exact run_bytesToString w a 0 cap [] rfl
  · exact run_convert_bytes_arg w 149 5 Tryz.underlying149 Tryz.underlying5 b off xs.length cap (xs.map fun x => ((x : Nat) : Int)) (by simp) (fun i hi => by
      rw [hc i hi]; simp [List.getD, hi]) 9 Tryz.underlying9

theorem bv_get {xs : List Nat} {j : Nat} (h : j < xs.length) : (bv xs)[j]? = some (.int .u8 ((xs.getD j 0 : Nat) : Int)) := by
  simp [bv, h, List.getD]

theorem BSl.own {w : World} {B n : Nat} {v : Value} {xs : List Nat} (h : w.ownsRow B 5 1 v n (bv xs)) (hb : ∀ x ∈ xs, x < 256) : BSl w v xs := by
  have hn : n = xs.length := by have := h.1; simp [bv] at this; omega
  subst hn
  refine ⟨?_, ?_, hb⟩
  · rcases h.2 with ⟨rfl, h0⟩ | ⟨g, cap, cur, rfl, _, hg, h1, h2, h3, h4⟩
    · exact ⟨none, 0, by rw [h0], ⟨by omega, fun _ => rfl⟩, .inl (List.length_eq_zero_iff.1 h0)⟩
    · refine ⟨some ⟨g, 0, none⟩, cap, rfl, ⟨h1, fun h => by (cases h)⟩, .inr ⟨g, 0, rfl, fun j hj => ?_⟩⟩
      have := h.cells (g := g) rfl j _ (bv_get hj)
      have hadd : (⟨g, 0, none⟩ : Addr).add j = ⟨g, 0 + j, none⟩ := by unfold Addr.add; split <;> simp_all
      rw [hadd] at this
      exact this
  · rcases h.2 with ⟨rfl, h0⟩ | ⟨g, cap, cur, rfl, _, hg, h1, h2, h3, h4⟩
    · omega
    · unfold maxLen at h2; omega

theorem BSl.take {w : World} {a : Option Addr} {n cap : Nat} {xs : List Nat} (h : BSl w (.slice a n cap) xs) (k : Nat) (hk : k ≤ xs.length) : BSl w (.slice a k cap) (xs.take k) := by
  obtain ⟨⟨a', cap', e, hn, hc⟩, hm, hb⟩ := h
  injection e with e1 e2 e3
  subst e1
  subst e3
  have hl : (xs.take k).length = k := by rw [List.length_take]; omega
  refine ⟨⟨a, cap, by rw [hl], ⟨by rw [hl]; have := hn.1; omega, hn.2⟩, ?_⟩, by rw [hl]; omega, fun x hx => hb x (List.mem_of_mem_take hx)⟩
  rcases hc with rfl | ⟨b, off, e, hc⟩
  · exact .inl (by simp)
  · refine .inr ⟨b, off, e, fun j hj => ?_⟩
    rw [hl] at hj
    rw [hc j (by omega)]
    simp [List.getD, hj]
end
section
open Go.RowKit
def marks : List Nat := (List.range 70).map fun i => 165 - i
end
section
open Go.RowKit
structure Kp (S : Nat → Prop) (w w' : World) : Prop where
  os : w'.os = w.os
  tape : w'.tape = w.tape
  output : w'.output = w.output
  size : w.heap.size ≤ w'.heap.size
  block : ∀ k, k < w.heap.size → ¬ S k → w'.heap[k]? = w.heap[k]?

theorem Kp.refl (S : Nat → Prop) (w : World) : Kp S w w := ⟨rfl, rfl, rfl, Nat.le_refl _, fun _ _ _ => rfl⟩
theorem Kp.trans {S T : Nat → Prop} {a b c : World} (h : Kp S a b) (g : Kp T b c) (hst : ∀ k, k < a.heap.size → T k → S k) : Kp S a c :=
  ⟨g.os.trans h.os, g.tape.trans h.tape, g.output.trans h.output, Nat.le_trans h.size g.size, fun k hk hs =>
    (g.block k (Nat.lt_of_lt_of_le hk h.size) (fun ht => hs (hst k hk ht))).trans (h.block k hk hs)⟩
theorem Kp.mono {S T : Nat → Prop} {w w' : World} (h : Kp S w w') (hst : ∀ k, k < w.heap.size → S k → T k) : Kp T w w' :=
  ⟨h.os, h.tape, h.output, h.size, fun k hk ht => h.block k hk (fun hs => ht (hst k hk hs))⟩
theorem Kp.alloc {S : Nat → Prop} {a w : World} (h : Kp S a w) (o : Obj) : Kp S a (w.alloc o) :=
  ⟨h.os, h.tape, h.output, by have := h.size; simp; omega, fun k hk hs => (Below.heap_alloc w o k (Nat.lt_of_lt_of_le hk h.size)).trans (h.block k hk hs)⟩
theorem Kp.drew {S : Nat → Prop} {a w : World} (h : Kp S a w) : Kp S a w.drew := ⟨h.os, h.tape, h.output, h.size, h.block⟩
theorem Kp.drewN {S : Nat → Prop} {a w : World} (h : Kp S a w) (n : Nat) : Kp S a (w.drewN n) := ⟨h.os, h.tape, h.output, h.size, h.block⟩
theorem Kp.setCell {S : Nat → Prop} {a w : World} (h : Kp S a w) (p : Addr) (v : Value) (hp : p.block < a.heap.size → S p.block) : Kp S a (w.setCell p v) :=
  ⟨h.os, h.tape, h.output, by have := h.size; simp [World.setCell]; omega, fun k hk hs => (Below.heap_setCell w p v k (fun e => hs (e ▸ hp (e ▸ hk)))).trans (h.block k hk hs)⟩
theorem Kp.grown {S : Nat → Prop} {a w w' : World} {row : Option Nat} (h : Kp S a w) (hg : w.grownBy w' row) (hr : ∀ k, k < a.heap.size → row = some k → S k) : Kp S a w' :=
  ⟨hg.os.trans h.os, hg.tape.trans h.tape, hg.output.trans h.output, Nat.le_trans h.size hg.size, fun k hk hs =>
    (hg.block k (Nat.lt_of_lt_of_le hk h.size) (fun e => hs (hr k hk e.symm))).trans (h.block k hk hs)⟩
theorem Kp.of_below {S : Nat → Prop} {w w' : World} (h : Below w.heap.size w w') : Kp S w w' := ⟨h.os, h.tape, h.output, h.size, fun k hk _ => h.block k hk⟩
theorem Kp.below {S : Nat → Prop} {w w' : World} {B : Nat} (h : Kp S w w') (hB : B ≤ w.heap.size) (hs : ∀ k, S k → B ≤ k) : Below B w w' :=
  ⟨h.os, h.tape, h.output, h.size, fun k hk => h.block k (by omega) (fun hsk => by have := hs k hsk; omega)⟩
theorem Kp.cell {S : Nat → Prop} {w w' : World} (h : Kp S w w') {p : Addr} {v : Value} (hc : w.cell? p = some v) (hs : ¬ S p.block) : w'.cell? p = some v :=
  (World.cell?_of_block (h.block p.block (World.block_lt_of_cell? w p hc) hs)).trans hc
theorem Kp.owns {S : Nat → Prop} {w w' : World} (h : Kp S w w') {base : Nat} {e : TypeId} {size : Nat} {v : Value} {n : Nat} {xs : List Value} (ho : w.ownsRow base e size v n xs) (hs : ∀ k, v.ownBlock = some k → ¬ S k) : w'.ownsRow base e size v n xs := by
  refine ⟨ho.1, ?_⟩
  rcases ho.2 with hn | ⟨g, cap, cur, rfl, hb, hgg, rest⟩
  · exact .inl hn
  · refine .inr ⟨g, cap, cur, rfl, hb, ?_, rest⟩
    rw [h.block g (Array.getElem?_eq_some_iff.1 hgg).1 (hs g rfl)]
    exact hgg
theorem blk_cell {w : World} {b : Nat} {cur : Array Value} {e : TypeId} {j : Nat} {v : Value} (h : w.heap[b]? = some (.cells cur e (0, 0))) (hv : cur[j]? = some v) : w.cell? ⟨b, j, none⟩ = some v := by
  simp [World.cell?, h, hv]
theorem blk_frozen {w : World} {b : Nat} {cur : Array Value} {e : TypeId} (j : Nat) (h : w.heap[b]? = some (.cells cur e (0, 0))) : w.frozen? ⟨b, j, none⟩ = false := by
  simp [World.frozen?, h]
theorem blk_set {w : World} {b : Nat} {cur : Array Value} {e : TypeId} (j : Nat) (v : Value) (h : w.heap[b]? = some (.cells cur e (0, 0))) : (w.setCell ⟨b, j, none⟩ v).heap[b]? = some (.cells (cur.setIfInBounds j v) e (0, 0)) := by
  simp [World.setCell, Array.getElem?_modify, h]
theorem blk_other {w : World} {b c : Nat} {o : Obj} (j : Nat) (v : Value) (h : w.heap[c]? = some o) (hne : c ≠ b) : (w.setCell ⟨b, j, none⟩ v).heap[c]? = some o := by
  rw [Below.heap_setCell w ⟨b, j, none⟩ v c hne]; exact h
theorem blk_lt {w : World} {b : Nat} {o : Obj} (h : w.heap[b]? = some o) : b < w.heap.size := (Array.getElem?_eq_some_iff.1 h).1
theorem blk_alloc {w : World} {b : Nat} {o : Obj} (o' : Obj) (h : w.heap[b]? = some o) : (w.alloc o').heap[b]? = some o := (Below.heap_alloc w o' b (blk_lt h)).trans h
theorem own_block_type {w : World} {base : Nat} {e : TypeId} {size : Nat} {v : Value} {n : Nat} {xs : List Value} (h : w.ownsRow base e size v n xs) {k : Nat} (hk : v.ownBlock = some k) : ∃ cur, w.heap[k]? = some (.cells cur e (0, 0)) := by
  rcases h.2 with ⟨rfl, _⟩ | ⟨g, cap, cur, rfl, _, hg, _⟩
  · simp [Value.ownBlock] at hk
  · simp [Value.ownBlock] at hk; subst hk; exact ⟨cur, hg⟩
theorem own_apart {w : World} {base base' : Nat} {e e' : TypeId} {size size' : Nat} {v v' : Value} {n n' : Nat} {xs xs' : List Value} (h : w.ownsRow base e size v n xs) (h' : w.ownsRow base' e' size' v' n' xs') (hne : e ≠ e') {k : Nat} (hk : v.ownBlock = some k) : v'.ownBlock ≠ some k := by
  intro hk'
  obtain ⟨c, hc⟩ := own_block_type h hk
  obtain ⟨c', hc'⟩ := own_block_type h' hk'
  rw [hc] at hc'
  injection hc' with hc'
  injection hc' with _ h2
  exact hne h2
theorem own_not {w : World} {base : Nat} {e e' : TypeId} {size : Nat} {v : Value} {n : Nat} {xs : List Value} {b : Nat} {cur : Array Value} (h : w.ownsRow base e size v n xs) (hb : w.heap[b]? = some (.cells cur e' (0, 0))) (hne : e ≠ e') : v.ownBlock ≠ some b := by
  intro hk
  obtain ⟨c, hc⟩ := own_block_type h hk
  rw [hc] at hb
  injection hb with hb
  injection hb with _ h2
  exact hne h2

def atv (m k : Nat) : Nat := if k % 2 = 0 then 1 + m % 251 else 1 + (7 * m + m / 251) % 251
def mkl (m n : Nat) : List Nat := (List.range n).map (atv m)
set_option maxRecDepth 100000 in
set_option maxHeartbeats 400000 in
theorem at_any (m k : Int) (w : World) (h0 : 0 ≤ m) (h1 : m < 1099511627776) (h2 : 0 ≤ k) (h3 : k < 1099511627776) :
    Calls Tryz.prog 117 #[.int .i64 m, .int .i64 k] w fun e w' => e = .returned (.int .u8 (atv m.toNat k.toNat : Nat)) ∧ w' = w := by
  obtain ⟨M, rfl⟩ := Int.eq_ofNat_of_zero_le h0
  obtain ⟨K, rfl⟩ := Int.eq_ofNat_of_zero_le h2
  rw [Int.toNat_natCast, Int.toNat_natCast]
  generalize hm : (M : Int) = m at *
  generalize hkk : (K : Int) = k at *
  by_cases hk : k % 2 = 0
  · have hk' : (k % 2 == 0) = true := beq_iff_eq.2 hk
    have hv : ((atv M K : Nat) : Int) = 1 + m % 251 := by unfold atv; rw [if_pos (by omega)]; omega
    rw [hv]
    clear hv hk hm hkk
    go_enter Tryz.func117, Tryz.ntmps117
    go_wp2
    go_ret
    exact ⟨rfl, rfl⟩
  · have hk' : (k % 2 == 0) = false := beq_eq_false_iff_ne.2 hk
    have hv : ((atv M K : Nat) : Int) = 1 + (7 * m + m / 251) % 251 := by
      unfold atv
      rw [if_neg (by omega)]
      have e0 : m / 251 = ((M / 251 : Nat) : Int) := by omega
      have e1 : 7 * m + m / 251 = ((7 * M + M / 251 : Nat) : Int) := by rw [e0, ← hm]; omega
      rw [e1]
      omega
    rw [hv]
    clear hv hk hm hkk
    go_enter Tryz.func117, Tryz.ntmps117
    go_wp2
    go_ret
    exact ⟨rfl, rfl⟩

def bookCells (vb vo : Value) (a t d u : Nat) : Array Value := #[vb, vo, .int .i64 (a : Nat), .slice none 0 0, .slice none 0 0, .int .i64 0, .slice none 0 0, .slice none 0 0, .int .i64 0, .slice none 0 0, .slice none 0 0, .int .i64 0, .slice none 0 0, .slice none 0 0, .int .i64 0, .slice none 0 0, .slice none 0 0, .int .i64 0, .slice none 0 0, .slice none 0 0, .int .i64 0, .slice none 0 0, .slice none 0 0, .int .i64 0, .slice none 0 0, .slice none 0 0, .int .i64 0, .slice none 0 0, .slice none 0 0, .int .i64 0, .slice none 0 0, .slice none 0 0, .int .i64 0, .slice none 0 0, .slice none 0 0, .int .i64 0, .slice none 0 0, .slice none 0 0, .int .i64 0, .slice none 0 0, .slice none 0 0, .int .i64 0, .slice none 0 0, .slice none 0 0, .int .i64 0, .slice none 0 0, .slice none 0 0, .int .i64 0, .slice none 0 0, .slice none 0 0, .int .i64 0, .slice none 0 0, .slice none 0 0, .int .i64 0, .int .i64 (t : Nat), .int .i64 (d : Nat), .int .i64 (u : Nat)]
end
section
open Go.RowKit
def BkBlk (w : World) (B : Nat) (vb vo : Value) (a t d u : Nat) : Prop := w.heap[B]? = some (.cells (bookCells vb vo a t d u) 47 (0, 0))
theorem BkBlk.cell {w : World} {B : Nat} {vb vo : Value} {a t d u : Nat} (h : BkBlk w B vb vo a t d u) (j : Nat) (v : Value) (hv : (bookCells vb vo a t d u)[j]? = some v) : w.cell? ⟨B, j, none⟩ = some v := blk_cell h hv
theorem BkBlk.alloc {w : World} {B : Nat} {vb vo : Value} {a t d u : Nat} (h : BkBlk w B vb vo a t d u) (o : Obj) : BkBlk (w.alloc o) B vb vo a t d u := blk_alloc o h
end
section
open Go.RowKit
structure Ent where
  val : Value
  n : Nat
  m : Nat

structure BookOk (w : World) (base B : Nat) (vb vo : Value) (es : List Ent) (a t d u : Nat) : Prop where
  blk : BkBlk w B vb vo a t d u
  hb : w.ownsRow base 149 1 vb es.length (es.map (·.val))
  ho : w.ownsRow base 3 1 vo es.length (es.map fun e => .int .i64 ((e.m : Nat) : Int))
  he : ∀ e ∈ es, w.ownsRow base 5 1 e.val e.n (bv (mkl e.m e.n))
  hs : ∀ e ∈ es, ∀ e' ∈ es, ∀ k, e.val.ownBlock = some k → e'.val.ownBlock = some k → e.m = e'.m
  hbase : base ≤ B
  hm : ∀ e ∈ es, e.m ≤ t ∧ e.n < 68719477000
  ht : t < 68719476736
  hu : u ≤ 16777216
  count : ∃ c r, a = 10 * c ∧ es.length = 10 * c + r ∧ 1200 * (c + r) ≤ u
  hg : ∀ i j ei ej, es[i]? = some ei → es[j]? = some ej → a ≤ j → i ≠ j → ∀ k, ei.val.ownBlock = some k → ej.val.ownBlock ≠ some k
  hn : ∀ (j : Nat) (ej : Ent), es[j]? = some ej → a ≤ j → ej.n < 68719476736

theorem own_form {w : World} {base : Nat} {e : TypeId} {v : Value} {n : Nat} {xs : List Value} (h : w.ownsRow base e 1 v n xs) : ∃ a cap, v = .slice a n cap ∧ n ≤ cap ∧ n ≤ 9223372036854775807 ∧ ∀ j u, xs[j]? = some u → ∃ g, a = some ⟨g, 0, none⟩ ∧ w.cell? ⟨g, j, none⟩ = some u := by
  have hlen : xs.length = n := by have := h.1; omega
  rcases h.2 with ⟨rfl, h0⟩ | ⟨g, cap, cur, rfl, _, hg, h1, h2, h3, h4⟩
  · refine ⟨none, 0, by rw [h0], by omega, by omega, fun j u hu => ?_⟩
    have : xs = [] := List.length_eq_zero_iff.1 (by omega)
    rw [this] at hu
    simp at hu
  · refine ⟨some ⟨g, 0, none⟩, cap, rfl, h1, by unfold maxLen at h2; omega, fun j u hu => ⟨g, rfl, ?_⟩⟩
    have := h.cells (g := g) rfl j u hu
    have hadd : (⟨g, 0, none⟩ : Addr).add j = ⟨g, j, none⟩ := by unfold Addr.add; split <;> simp_all
    rw [hadd] at this
    exact this
end
section
open Go.RowKit
theorem Tryz.info50 : (Tryz.prog.info? 149).map (fun i => (i.zero, i.size, i.bytes)) = some (some (.slice none 0 0), 1, 24) := by kernel_rfl
theorem Tryz.info3 : (Tryz.prog.info? 3).map (fun i => (i.zero, i.size, i.bytes)) = some (some (.int .i64 0), 1, 8) := by kernel_rfl
theorem info50_ex : ∃ i, Tryz.prog.info? 149 = some i ∧ i.zero = some (.slice none 0 0) ∧ i.size = 1 ∧ i.bytes = 24 := by
  have h := Tryz.info50
  cases hi : Tryz.prog.info? 149 with
  | none => rw [hi] at h; cases h
  | some i => rw [hi] at h; simp at h; exact ⟨i, rfl, h.1, h.2.1, h.2.2⟩
theorem info3_ex : ∃ i, Tryz.prog.info? 3 = some i ∧ i.zero = some (.int .i64 0) ∧ i.size = 1 ∧ i.bytes = 8 := by
  have h := Tryz.info3
  cases hi : Tryz.prog.info? 3 with
  | none => rw [hi] at h; cases h
  | some i => rw [hi] at h; simp at h; exact ⟨i, rfl, h.1, h.2.1, h.2.2⟩

theorem append_row {ops : Array Oper} {rest : List Oper} {o : Oper} {a : Act} {Q : Exit → Act → World → Prop} {w : World} (hgd : o.guard = none) (s x : Operand)
    (ho : o.op = .call { callee := .builtin .append, args := #[s, x], argTypes := #[28, 28] }) (B : Nat) (v : Value) (n : Nat) (ds : List Value) (hs : a.eval s = v) (hown : w.ownsRow B 149 1 v n ds)
    (y : Value) (S : Nat) (hS : w.heap.size = S) (hx : a.eval x = .slice (some ⟨S, 0, none⟩) 1 1) (hone : y.oneCell' = true) (hlen : n < 1099511627776) (hbase : B ≤ w.heap.size)
    (h : ∀ v' w', w'.ownsRow B 149 1 v' (n + 1) (ds ++ [y]) → (w.alloc (.cells #[y] 149)).grownBy w' v.ownBlock → (v'.ownBlock = v.ownBlock ∨ v'.ownBlock = some (w.heap.size + 1)) → wpList Tryz.prog ops Q rest (a.put o.dst v') w') : wpList Tryz.prog ops Q (o :: rest) a (w.alloc (.cells #[y] 149)) := by
  obtain ⟨i, hi, hz0, hz1, hz2⟩ := info50_ex
  subst hS
  refine wpList_append_own_at _ hgd s x 28 ho B 149 i (.slice none 0 0) 1 24 Tryz.underlying28 hi hz0 hz1 hz2 rfl (by decide) v n ds hs (hown.alloc _) ⟨w.heap.size, 0, none⟩ 1 1 [y] hx rfl (cell_one_new _ _ _) ?_ (by unfold maxLen; omega) (by omega) (by simp; omega) fun v' w' h1 h2 _ h4 => h v' w' h1 h2 (by simpa using h4)
  intro u hu
  simp at hu
  subst hu
  exact hone
theorem append_int {ops : Array Oper} {rest : List Oper} {o : Oper} {a : Act} {Q : Exit → Act → World → Prop} {w : World} (hgd : o.guard = none) (s x : Operand)
    (ho : o.op = .call { callee := .builtin .append, args := #[s, x], argTypes := #[29, 29] }) (B : Nat) (v : Value) (n : Nat) (ds : List Value) (hs : a.eval s = v) (hown : w.ownsRow B 3 1 v n ds)
    (y : Int) (S : Nat) (hS : w.heap.size = S) (hx : a.eval x = .slice (some ⟨S, 0, none⟩) 1 1) (hlen : n < 1099511627776) (hbase : B ≤ w.heap.size)
    (h : ∀ v' w', w'.ownsRow B 3 1 v' (n + 1) (ds ++ [.int .i64 y]) → (w.alloc (.cells #[.int .i64 y] 3)).grownBy w' v.ownBlock → (v'.ownBlock = v.ownBlock ∨ v'.ownBlock = some (w.heap.size + 1)) → wpList Tryz.prog ops Q rest (a.put o.dst v') w') : wpList Tryz.prog ops Q (o :: rest) a (w.alloc (.cells #[.int .i64 y] 3)) := by
  obtain ⟨i, hi, hz0, hz1, hz2⟩ := info3_ex
  subst hS
  refine wpList_append_own_at _ hgd s x 29 ho B 3 i (.int .i64 0) 1 8 Tryz.underlying29 hi hz0 hz1 hz2 rfl (by decide) v n ds hs (hown.alloc _) ⟨w.heap.size, 0, none⟩ 1 1 [.int .i64 y] hx rfl (cell_one_new _ _ _) ?_ (by unfold maxLen; omega) (by omega) (by simp; omega) fun v' w' h1 h2 _ h4 => h v' w' h1 h2 (by simpa using h4)
  intro u hu
  simp at hu
  subst hu
  rfl

theorem own_set {w : World} {base : Nat} {e : TypeId} {g n cap j : Nat} {xs : List Value} (x : Value) (h : w.ownsRow base e 1 (.slice (some ⟨g, 0, none⟩) n cap) n xs) :
    (w.setCell ⟨g, j, none⟩ x).ownsRow base e 1 (.slice (some ⟨g, 0, none⟩) n cap) n (xs.set j x) := by
  refine ⟨by rw [List.length_set]; exact h.1, ?_⟩
  rcases h.2 with ⟨hv, _⟩ | ⟨g', cap', cur, hv, hb, hg, h1, h2, h3, h4⟩
  · cases hv
  · injection hv with e1 e2 e3
    injection e1 with e1
    injection e1 with e1 _ _
    subst e1
    subst e3
    refine .inr ⟨g, cap, _, rfl, hb, blk_set j x hg, h1, h2, by simpa using h3, ?_⟩
    rw [Nat.mul_one] at h4 ⊢
    rw [← h4, Array.toList_setIfInBounds, List.take_set]
theorem own_cell {w : World} {base : Nat} {e : TypeId} {g n m cap : Nat} {xs : List Value} (h : w.ownsRow base e 1 (.slice (some ⟨g, 0, none⟩) m cap) n xs) {j : Nat} {u : Value} (hu : xs[j]? = some u) : w.cell? ⟨g, j, none⟩ = some u ∧ w.frozen? ⟨g, j, none⟩ = false := by
  have := h.cells (g := g) rfl j u hu
  have hadd : (⟨g, 0, none⟩ : Addr).add j = ⟨g, j, none⟩ := by unfold Addr.add; split <;> simp_all
  rw [hadd] at this
  obtain ⟨cur, hcur⟩ := own_block_type h (k := g) rfl
  exact ⟨this, blk_frozen j hcur⟩
theorem own_back {w : World} {base : Nat} {e : TypeId} {v : Value} {n : Nat} {xs : List Value} (h : w.ownsRow base e 1 v n xs) : ∀ k, v.ownBlock = some k → base ≤ k ∧ k < w.heap.size := h.lt

def Foot (B : Nat) (vb vo : Value) (es : List Ent) (k : Nat) : Prop := k = B ∨ vb.ownBlock = some k ∨ vo.ownBlock = some k ∨ ∃ e ∈ es, e.val.ownBlock = some k
end
section
open Go.RowKit
structure Knd where
  tt : TypeId
  te : TypeId
  s : Nat
  per : Nat
  cost : Nat
  mc : Nat → Nat → List Value
def Knd.mkl (F : Knd) (m n : Nat) : List Value := (List.range n).flatMap (F.mc m)
theorem Knd.mkl_snoc (F : Knd) (m n : Nat) : F.mkl m (n + 1) = F.mkl m n ++ F.mc m n := by simp [Knd.mkl, List.range_succ]
structure Knd.Ok (F : Knd) : Prop where
  tb : F.tt ≠ 47
  eb : F.te ≠ 47
  t3 : F.tt ≠ 3
  e3 : F.te ≠ 3
  ne : F.tt ≠ F.te
structure Kc (F : Knd) (w : World) (base : Nat) (vb vo : Value) (es : List Ent) (t : Nat) : Prop where
  hb : w.ownsRow base F.tt 1 vb es.length (es.map (·.val))
  ho : w.ownsRow base 3 1 vo es.length (es.map fun e => .int .i64 ((e.m : Nat) : Int))
  he : ∀ e ∈ es, w.ownsRow base F.te F.s e.val e.n (F.mkl e.m e.n)
  hs : ∀ e ∈ es, ∀ e' ∈ es, ∀ k, e.val.ownBlock = some k → e'.val.ownBlock = some k → e.m = e'.m
  hm : ∀ e ∈ es, e.m ≤ t ∧ e.n < 68719477000
structure Ko (F : Knd) (w : World) (base : Nat) (vb vo : Value) (es : List Ent) (a t u : Nat) : Prop where
  c : Kc F w base vb vo es t
  count : ∃ c r, a = F.per * c ∧ es.length = F.per * c + r ∧ F.cost * (c + r) ≤ u
  hg : ∀ i j ei ej, es[i]? = some ei → es[j]? = some ej → a ≤ j → i ≠ j → ∀ k, ei.val.ownBlock = some k → ej.val.ownBlock ≠ some k
  hn : ∀ (j : Nat) (ej : Ent), es[j]? = some ej → a ≤ j → ej.n < 68719476736
def Fut (vb vo : Value) (es : List Ent) (k : Nat) : Prop := vb.ownBlock = some k ∨ vo.ownBlock = some k ∨ ∃ e ∈ es, e.val.ownBlock = some k
theorem Kc.kp {F : Knd} {S : Nat → Prop} {w w' : World} {base : Nat} {vb vo : Value} {es : List Ent} {t : Nat} (h : Kc F w base vb vo es t) (hk : Kp S w w') (hs : ∀ k, Fut vb vo es k → ¬ S k) : Kc F w' base vb vo es t :=
  ⟨hk.owns h.hb (fun k e => hs k (.inl e)), hk.owns h.ho (fun k e => hs k (.inr (.inl e))), fun e he => hk.owns (h.he e he) (fun k q => hs k (.inr (.inr ⟨e, he, q⟩))), h.hs, h.hm⟩
theorem Ko.kp {F : Knd} {S : Nat → Prop} {w w' : World} {base : Nat} {vb vo : Value} {es : List Ent} {a t u : Nat} (h : Ko F w base vb vo es a t u) (hk : Kp S w w') (hs : ∀ k, Fut vb vo es k → ¬ S k) : Ko F w' base vb vo es a t u := ⟨h.c.kp hk hs, h.count, h.hg, h.hn⟩
theorem Ko.more {F : Knd} {w : World} {base : Nat} {vb vo : Value} {es : List Ent} {a t u t' u' : Nat} (h : Ko F w base vb vo es a t u) (ht : t ≤ t') (hu : u ≤ u') : Ko F w base vb vo es a t' u' :=
  ⟨⟨h.c.hb, h.c.ho, h.c.he, h.c.hs, fun e he => ⟨Nat.le_trans (h.c.hm e he).1 ht, (h.c.hm e he).2⟩⟩, by obtain ⟨c, r, h1, h2, h3⟩ := h.count; exact ⟨c, r, h1, h2, Nat.le_trans h3 hu⟩, h.hg, h.hn⟩
theorem Kc.lt {F : Knd} {w : World} {base : Nat} {vb vo : Value} {es : List Ent} {t : Nat} (h : Kc F w base vb vo es t) : ∀ k, Fut vb vo es k → base ≤ k ∧ k < w.heap.size := fun k hk => by
  rcases hk with e | e | ⟨x, hx, e⟩
  · exact h.hb.lt k e
  · exact h.ho.lt k e
  · exact (h.he x hx).lt k e
theorem Kc.notB {F : Knd} (hF : F.Ok) {w : World} {base B : Nat} {C : Array Value} {vb vo : Value} {es : List Ent} {t : Nat} (h : Kc F w base vb vo es t) (hB : w.heap[B]? = some (.cells C 47 (0, 0))) : ¬ Fut vb vo es B := fun hk => by
  rcases hk with e | e | ⟨x, hx, e⟩
  · exact own_not h.hb hB hF.tb e
  · exact own_not h.ho hB (by decide) e
  · exact own_not (h.he x hx) hB hF.eb e
theorem Ko.none (F : Knd) (w : World) (base t u : Nat) : Ko F w base (.slice none 0 0) (.slice none 0 0) [] 0 t u :=
  ⟨⟨World.ownsRow_nil _ _ _ _, World.ownsRow_nil _ _ _ _, by simp, by simp, by simp⟩, ⟨0, 0, by simp, by simp, by simp⟩, by simp, by simp⟩

structure Kh (F : Knd) (w : World) (base : Nat) (vb vo : Value) (es : List Ent) (ent : Ent) : Prop where
  hb : w.ownsRow base F.tt 1 vb (es.length + 1) (es.map (·.val) ++ [ent.val])
  ho : w.ownsRow base 3 1 vo es.length (es.map fun e => .int .i64 ((e.m : Nat) : Int))
  he : ∀ e ∈ es, w.ownsRow base F.te F.s e.val e.n (F.mkl e.m e.n)
  hn : w.ownsRow base F.te F.s ent.val ent.n (F.mkl ent.m ent.n)
theorem Kc.push_a {F : Knd} (hF : F.Ok) {w w3 : World} {base B : Nat} {C : Array Value} {vb vo : Value} {es : List Ent} {t : Nat} (h : Kc F w base vb vo es t) (hB : w.heap[B]? = some (.cells C 47 (0, 0))) (j : Nat) (ent : Ent) (hent : w.ownsRow base F.te F.s ent.val ent.n (F.mkl ent.m ent.n)) (v3 : Value)
    (ho3 : w3.ownsRow base F.tt 1 v3 (es.length + 1) (es.map (·.val) ++ [ent.val])) (hg3 : (w.alloc (.cells #[ent.val] F.tt)).grownBy w3 vb.ownBlock) :
    w3.heap[B]? = some (.cells C 47 (0, 0)) ∧ (w3.setCell ⟨B, j, none⟩ v3).heap[B]? = some (.cells (C.setIfInBounds j v3) 47 (0, 0)) ∧ Kh F (w3.setCell ⟨B, j, none⟩ v3) base v3 vo es ent ∧ Kp (fun q => q = B ∨ vb.ownBlock = some q) w (w3.setCell ⟨B, j, none⟩ v3) := by
  have hbb : vb.ownBlock ≠ some B := own_not h.hb hB hF.tb
  have hkg : Kp (fun q => vb.ownBlock = some q) w w3 := ((Kp.refl _ w).alloc _).grown hg3 (fun q _ hq => hq)
  have hblk3 : w3.heap[B]? = some (.cells C 47 (0, 0)) := (hkg.block B (blk_lt hB) hbb).trans hB
  have hk34 : Kp (fun q => q = B) w3 (w3.setCell ⟨B, j, none⟩ v3) := (Kp.refl _ _).setCell _ _ (fun _ => rfl)
  have hk24 : Kp (fun q => q = B ∨ vb.ownBlock = some q) w (w3.setCell ⟨B, j, none⟩ v3) := (hkg.mono (fun _ _ h => .inr h)).trans hk34 (fun _ _ h => .inl h)
  have hkeep : ∀ {ee : TypeId} {s : Nat} {v : Value} {nn : Nat} {yy : List Value}, w.ownsRow base ee s v nn yy → ee ≠ 47 → ee ≠ F.tt → (w3.setCell ⟨B, j, none⟩ v3).ownsRow base ee s v nn yy := fun ho h1 h2 =>
    hk24.owns ho (fun q hq hor => by
      rcases hor with rfl | hor
      · exact own_not ho hB h1 hq
      · exact own_apart ho h.hb h2 hq hor)
  exact ⟨hblk3, blk_set j v3 hblk3, ⟨hk34.owns ho3 (fun q hq e => own_not ho3 hblk3 hF.tb (by rw [hq, e])), hkeep h.ho (by decide) (fun e => hF.t3 e.symm), fun e he => hkeep (h.he e he) hF.eb (fun e => hF.ne e.symm), hkeep hent hF.eb (fun e => hF.ne e.symm)⟩, hk24⟩
theorem Kh.push_b {F : Knd} (hF : F.Ok) {w w5 : World} {base B : Nat} {C : Array Value} {v3 vo : Value} {es : List Ent} {ent : Ent} {t : Nat} (h : Kh F w base v3 vo es ent) (hB : w.heap[B]? = some (.cells C 47 (0, 0))) (j : Nat) (v5 : Value)
    (ho5 : w5.ownsRow base 3 1 v5 (es.length + 1) (es.map (fun e => .int .i64 ((e.m : Nat) : Int)) ++ [.int .i64 ((ent.m : Nat) : Int)])) (hg5 : (w.alloc (.cells #[.int .i64 ((ent.m : Nat) : Int)] 3)).grownBy w5 vo.ownBlock)
    (hs : ∀ e ∈ es, ∀ e' ∈ es, ∀ k, e.val.ownBlock = some k → e'.val.ownBlock = some k → e.m = e'.m) (hsh : ∀ e ∈ es, ∀ k, e.val.ownBlock = some k → ent.val.ownBlock = some k → e.m = ent.m)
    (hm : ∀ e ∈ es, e.m ≤ t ∧ e.n < 68719477000) (hme : ent.m ≤ t ∧ ent.n < 68719477000) :
    w5.heap[B]? = some (.cells C 47 (0, 0)) ∧ (w5.setCell ⟨B, j, none⟩ v5).heap[B]? = some (.cells (C.setIfInBounds j v5) 47 (0, 0)) ∧ Kc F (w5.setCell ⟨B, j, none⟩ v5) base v3 v5 (es ++ [ent]) t ∧ Kp (fun q => q = B ∨ vo.ownBlock = some q) w (w5.setCell ⟨B, j, none⟩ v5) := by
  have hbo : vo.ownBlock ≠ some B := own_not h.ho hB (by decide)
  have hkg : Kp (fun q => vo.ownBlock = some q) w w5 := ((Kp.refl _ w).alloc _).grown hg5 (fun q _ hq => hq)
  have hblk5 : w5.heap[B]? = some (.cells C 47 (0, 0)) := (hkg.block B (blk_lt hB) hbo).trans hB
  have hk56 : Kp (fun q => q = B) w5 (w5.setCell ⟨B, j, none⟩ v5) := (Kp.refl _ _).setCell _ _ (fun _ => rfl)
  have hk46 : Kp (fun q => q = B ∨ vo.ownBlock = some q) w (w5.setCell ⟨B, j, none⟩ v5) := (hkg.mono (fun _ _ h => .inr h)).trans hk56 (fun _ _ h => .inl h)
  have hkeep : ∀ {ee : TypeId} {s : Nat} {v : Value} {nn : Nat} {yy : List Value}, w.ownsRow base ee s v nn yy → ee ≠ 47 → ee ≠ 3 → (w5.setCell ⟨B, j, none⟩ v5).ownsRow base ee s v nn yy := fun ho h1 h2 =>
    hk46.owns ho (fun q hq hor => by
      rcases hor with rfl | hor
      · exact own_not ho hB h1 hq
      · exact own_apart ho h.ho h2 hq hor)
  have hv5 := hk56.owns ho5 (fun q hq e => own_not ho5 hblk5 (by decide) (by rw [hq, e]))
  have hv3 := hkeep h.hb hF.tb hF.t3
  refine ⟨hblk5, blk_set j v5 hblk5, ⟨by simpa using hv3, by simpa using hv5, ?_, ?_, ?_⟩, hk46⟩
  · intro e he
    rcases List.mem_append.1 he with he | he
    · exact hkeep (h.he e he) hF.eb hF.e3
    · simp at he; subst he; exact hkeep h.hn hF.eb hF.e3
  · intro e he e' he' q hq hq'
    rcases List.mem_append.1 he with h1 | h1 <;> rcases List.mem_append.1 he' with h2 | h2
    · exact hs e h1 e' h2 q hq hq'
    · have h2 := List.mem_singleton.1 h2; rw [h2] at hq' ⊢; exact hsh e h1 q hq hq'
    · have h1 := List.mem_singleton.1 h1; rw [h1] at hq ⊢; exact (hsh e' h2 q hq' hq).symm
    · rw [List.mem_singleton.1 h1, List.mem_singleton.1 h2]
  · intro e he
    rcases List.mem_append.1 he with he | he
    · exact hm e he
    · simp at he; subst he; exact hme
theorem sn_get {α : Type} {l : List α} {x y : α} {i : Nat} (h : (l ++ [x])[i]? = some y) : (i < l.length ∧ l[i]? = some y) ∨ (i = l.length ∧ y = x) := by
  rcases Nat.lt_trichotomy i l.length with hi | hi | hi
  · rw [List.getElem?_append_left hi] at h; exact .inl ⟨hi, h⟩
  · subst hi; simp at h; exact .inr ⟨rfl, h.symm⟩
  · rw [List.getElem?_eq_none (by simp; omega)] at h; cases h
theorem Ko.add {F : Knd} {w w' : World} {base : Nat} {vb vo vb' vo' : Value} {es : List Ent} {a t u u' : Nat} {ent : Ent} (h : Ko F w base vb vo es a t u) (hc : Kc F w' base vb' vo' (es ++ [ent]) (t + 1)) (hd : ∀ e ∈ es, ∀ k, e.val.ownBlock = some k → ent.val.ownBlock ≠ some k) (hn : ent.n < 68719476736) (hu : u + F.cost ≤ u') : Ko F w' base vb' vo' (es ++ [ent]) a (t + 1) u' := by
  refine ⟨hc, ?_, ?_, ?_⟩
  · obtain ⟨c, r, h1, h2, h3⟩ := h.count
    refine ⟨c, r + 1, h1, by simp; omega, ?_⟩
    have e : F.cost * (c + (r + 1)) = F.cost * (c + r) + F.cost := by rw [← Nat.add_assoc, Nat.mul_succ]
    omega
  · intro i j ei ej hi hj haj hij q hq
    rcases sn_get hi with ⟨_, hi1⟩ | ⟨hi0, hi1⟩ <;> rcases sn_get hj with ⟨_, hj1⟩ | ⟨hj0, hj1⟩
    · exact h.hg i j ei ej hi1 hj1 haj hij q hq
    · rw [hj1]; exact hd ei (List.mem_of_getElem? hi1) q hq
    · rw [hi1] at hq; exact fun hq' => hd ej (List.mem_of_getElem? hj1) q hq' hq
    · omega
  · intro j ej hj haj
    rcases sn_get hj with ⟨_, hj⟩ | ⟨_, hj⟩
    · exact h.hn j ej hj haj
    · subst hj; exact hn
end
section
open Go.RowKit
theorem append_mk {ops : Array Oper} {rest : List Oper} {o : Oper} {a : Act} {Q : Exit → Act → World → Prop} {w : World} (hgd : o.guard = none) (s x : Operand) (T2 e : TypeId) (i : TypeInfo) (z : Value) (sz bz : Nat)
    (ht : Tryz.prog.underlying T2 = some (.slice e)) (hi : Tryz.prog.info? e = some i) (hz0 : i.zero = some z) (hz1 : i.size = sz) (hz2 : i.bytes = bz) (hzs : z.cells.size = sz) (hpos : 0 < sz)
    (ho : o.op = .call { callee := .builtin .append, args := #[s, x], argTypes := #[T2, T2] }) (B : Nat) (v : Value) (n : Nat) (ds : List Value) (hs : a.eval s = v) (hown : w.ownsRow B e sz v n ds)
    (ys : Array Value) (hys : ys.size = sz) (h1 : ∀ u ∈ ys.toList, u.oneCell' = true) (S : Nat) (hS : w.heap.size = S) (hx : a.eval x = .slice (some ⟨S, 0, none⟩) 1 1) (hlen : n < 100000000000) (hb2 : bz ≤ 1000) (hbase : B ≤ w.heap.size)
    (h : ∀ v' w', w'.ownsRow B e sz v' (n + 1) (ds ++ ys.toList) → (∀ v2 n2 xs2, (∀ k, v2.ownBlock = some k → v.ownBlock = some k → n2 ≤ n) → w.ownsRow B e sz v2 n2 xs2 → w'.ownsRow B e sz v2 n2 xs2) →
      Kp (fun k => v.ownBlock = some k) w w' → (v'.ownBlock = v.ownBlock ∨ v'.ownBlock = some (w.heap.size + 1)) → wpList Tryz.prog ops Q rest (a.put o.dst v') w') : wpList Tryz.prog ops Q (o :: rest) a (w.alloc (.cells ys e)) := by
  subst hS
  have hnews : ∀ j u, ys.toList[j]? = some u → (w.alloc (.cells ys e)).cell? ((⟨w.heap.size, 0, none⟩ : Addr).add j) = some u := fun j u hu => by
    have hadd : (⟨w.heap.size, 0, none⟩ : Addr).add j = ⟨w.heap.size, j, none⟩ := by unfold Addr.add; split <;> simp_all
    rw [hadd]
    exact blk_cell (heap_alloc_new w (.cells ys e)) (by simpa using hu)
  have hyl : ys.toList.length = sz := by simpa using hys
  have hownA := hown.alloc (.cells ys e)
  have hdl := hown.1
  have hmul : (n + 1) * sz = n * sz + sz := Nat.succ_mul n sz
  have hbyt : (n + 1) * bz ≤ 140737488355328 := Nat.le_trans (Nat.mul_le_mul_left (n + 1) hb2) (by omega)
  have moved : ∀ (w' : World) (v' : Value), (Builtin.append_ #[T2, T2] o.type #[v, .slice (some ⟨w.heap.size, 0, none⟩) 1 1]).run Tryz.prog (w.alloc (.cells ys e)) = .ok v' w' →
      w'.ownsRow B e sz v' (n + 1) (ds ++ ys.toList) → Kp (fun _ => False) w w' → v'.ownBlock = some (w.heap.size + 1) → wpList Tryz.prog ops Q (o :: rest) a (w.alloc (.cells ys e)) := by
    intro w' v' hr hown' hk hb
    refine wpList_plain hgd fun K hK => ?_
    unfold Oper.wp execOp
    simp only [ho, resolve, invoke, builtin, Sem.run_bind, Sem.run_pure, Result.andThen_ok, List.map_toArray, List.map_cons, List.map_nil, hs, hx, hr]
    exact hK _ _ (h v' w' hown' (fun v2 n2 xs2 _ h2 => hk.owns h2 (fun _ _ hf => hf)) (hk.mono (fun _ _ hf => hf.elim)) (.inr hb))
  rcases hown.2 with ⟨rfl, rfl⟩ | ⟨g, cap, cur, rfl, hbg, hg, hnc, hcm, hcs, htake⟩
  · have hx0 : ds = [] := List.eq_nil_of_length_eq_zero (by simpa using hown.1)
    subst hx0
    obtain ⟨v', w', hr, r1, r2, _, r4⟩ := run_append_own_at (P := Tryz.prog) (w.alloc (.cells ys e)) B T2 o.type e i z sz bz ht hi hz0 hz1 hz2 hzs hpos (.slice none 0 0) 0 [] hownA ⟨w.heap.size, 0, none⟩ 1 1 ys.toList (by omega) hnews h1 (by decide) (by omega) (by simp; omega)
    refine moved w' v' hr (by simpa using r1) (((Kp.refl _ w).alloc _).grown r2 (fun k _ hk => by cases hk)) ?_
    rcases r4 with r4 | r4
    · exfalso
      rcases r1.2 with ⟨_, h0⟩ | ⟨g, _, _, rfl, _⟩
      · omega
      · simp [Value.ownBlock] at r4
    · simpa using r4
  · have hgA : (w.alloc (.cells ys e)).heap[g]? = some (.cells cur e (0, 0)) := blk_alloc _ hg
    by_cases hroom : n + 1 ≤ cap
    · have hcap : (n + 1) * sz ≤ cap * sz := Nat.mul_le_mul_right sz hroom
      have hr := run_append_room (P := Tryz.prog) (w.alloc (.cells ys e)) T2 o.type e i ht hi g n cap cur hgA ⟨w.heap.size, 0, none⟩ 1 1 ys.toList (by rw [hz1]; omega) hnews h1 hroom (by rw [hz1, hyl]; omega)
      rw [hz1, hyl] at hr
      have hcl : cur.toList.length = cap * sz := by simpa using hcs
      have hsz : (cur.toList.take (n * sz) ++ ys.toList ++ cur.toList.drop (n * sz + sz)).toArray.size = cap * sz := by
        rw [List.size_toArray, List.length_append, List.length_append, List.length_take, List.length_drop, hyl, hcl]
        omega
      have hpre : ∀ q, q ≤ n * sz → (cur.toList.take (n * sz) ++ ys.toList ++ cur.toList.drop (n * sz + sz)).toArray.toList.take q = cur.toList.take q := by
        intro q hq
        simp only [List.append_assoc]
        rw [List.take_append_of_le_length (by rw [List.length_take, hcl]; omega), List.take_take, Nat.min_eq_left hq]
      have hrow : ((w.alloc (.cells ys e)).setRow g (cur.toList.take (n * sz) ++ ys.toList ++ cur.toList.drop (n * sz + sz)).toArray).heap[g]? = some (.cells (cur.toList.take (n * sz) ++ ys.toList ++ cur.toList.drop (n * sz + sz)).toArray e (0, 0)) := setRow_heap _ g cur _ e _ hgA
      have hkp : Kp (fun k => (Value.slice (some ⟨g, 0, none⟩) n cap).ownBlock = some k) w ((w.alloc (.cells ys e)).setRow g (cur.toList.take (n * sz) ++ ys.toList ++ cur.toList.drop (n * sz + sz)).toArray) :=
        ⟨rfl, rfl, rfl, by simp, fun k hk hne => (setRow_other _ g k _ (fun e => hne (by simp [Value.ownBlock, e]))).trans (Below.heap_alloc w _ k hk)⟩
      refine wpList_plain hgd fun K hK => ?_
      unfold Oper.wp execOp
      simp only [ho, resolve, invoke, builtin, Sem.run_bind, Sem.run_pure, Result.andThen_ok, List.map_toArray, List.map_cons, List.map_nil, hs, hx, hr]
      refine hK _ _ (h _ _ ?_ ?_ hkp (.inl rfl))
      · refine ⟨by rw [List.length_append, hdl, hyl, hmul], .inr ⟨g, cap, _, rfl, hbg, hrow, hroom, hcm, hsz, ?_⟩⟩
        rw [htake]
        have hl : (ds ++ ys.toList).length = (n + 1) * sz := by rw [List.length_append, hdl, hyl, hmul]
        simp only [← hl]
        exact List.take_left
      · intro v2 n2 xs2 hle h2
        refine ⟨h2.1, ?_⟩
        rcases h2.2 with hn | ⟨g2, cap2, cur2, rfl, hb2, hg2, r1, r2, r3, r4⟩
        · exact .inl hn
        · by_cases hgg : g2 = g
          · subst hgg
            have hn2 := hle g2 rfl rfl
            rw [hg] at hg2
            injection hg2 with hg2
            injection hg2 with hg2 _
            subst hg2
            refine .inr ⟨g2, cap2, _, rfl, hb2, hrow, r1, r2, by rw [hsz]; omega, ?_⟩
            rw [hpre (n2 * sz) (Nat.mul_le_mul_right sz hn2), r4]
          · refine .inr ⟨g2, cap2, cur2, rfl, hb2, ?_, r1, r2, r3, r4⟩
            rw [hkp.block g2 (blk_lt hg2) (fun e => hgg (by simp [Value.ownBlock] at e; exact e.symm))]
            exact hg2
    · have holds : ∀ j u, ds[j]? = some u → (w.alloc (.cells ys e)).cell? ((⟨g, 0, none⟩ : Addr).add j) = some u := hownA.cells (g := g) rfl
      have hr := run_append_grow (P := Tryz.prog) (w.alloc (.cells ys e)) T2 o.type e i z ht hi hz0 ⟨g, 0, none⟩ n cap ds (by rw [hz1]; exact hown.1) holds ⟨w.heap.size, 0, none⟩ 1 1 ys.toList (by rw [hz1]; omega) hnews (by omega) (by omega) (growslice_fits (by omega) (by rw [hz2]; exact hbyt))
      have hge := grownCap_ge (w.alloc (.cells ys e)) (n + 1) cap e
      have hcm' := grownCap_le_maxLen (w.alloc (.cells ys e)) (n + 1) cap e (by unfold maxLen; omega)
      refine moved _ _ hr ⟨by rw [List.length_append, hdl, hyl, hmul], .inr ⟨_, _, _, rfl, by simp; omega, heap_alloc_new _ _, hge, hcm', ?_, ?_⟩⟩ ⟨rfl, rfl, rfl, by simp; omega, fun k hk _ => ?_⟩ (by simp [Value.ownBlock])
      · rw [Array.size_append, Array.size_append, List.size_toArray, List.size_toArray, size_zeroCells, hzs, hdl, hyl, ← hmul, ← Nat.add_mul, Nat.add_sub_cancel' hge]
      · have hl : (ds ++ ys.toList).length = (n + 1) * sz := by rw [List.length_append, hdl, hyl, hmul]
        simp only [Array.toList_append]
        rw [← hl]
        exact List.take_left
      · exact (Below.heap_alloc (w.alloc (.cells ys e)).drew _ k (by simp; omega)).trans (Below.heap_alloc w _ k hk)
theorem append_lst {ops : Array Oper} {rest : List Oper} {o : Oper} {a : Act} {Q : Exit → Act → World → Prop} {w : World} (hgd : o.guard = none) (s x : Operand) (T2 T1 : TypeId) (i : TypeInfo) (ht : Tryz.prog.underlying T2 = some (.slice T1)) (hi : Tryz.prog.info? T1 = some i) (hz0 : i.zero = some (.slice none 0 0)) (hz1 : i.size = 1) (hz2 : i.bytes = 24)
    (ho : o.op = .call { callee := .builtin .append, args := #[s, x], argTypes := #[T2, T2] }) (B : Nat) (v : Value) (n : Nat) (ds : List Value) (hs : a.eval s = v) (hown : w.ownsRow B T1 1 v n ds)
    (y : Value) (S : Nat) (hS : w.heap.size = S) (hx : a.eval x = .slice (some ⟨S, 0, none⟩) 1 1) (hone : y.oneCell' = true) (hlen : n < 1099511627776) (hbase : B ≤ w.heap.size)
    (h : ∀ v' w', w'.ownsRow B T1 1 v' (n + 1) (ds ++ [y]) → (w.alloc (.cells #[y] T1)).grownBy w' v.ownBlock → (v'.ownBlock = v.ownBlock ∨ v'.ownBlock = some (w.heap.size + 1)) → wpList Tryz.prog ops Q rest (a.put o.dst v') w') : wpList Tryz.prog ops Q (o :: rest) a (w.alloc (.cells #[y] T1)) := by
  subst hS
  refine wpList_append_own_at _ hgd s x T2 ho B T1 i (.slice none 0 0) 1 24 ht hi hz0 hz1 hz2 rfl (by decide) v n ds hs (hown.alloc _) ⟨w.heap.size, 0, none⟩ 1 1 [y] hx rfl (cell_one_new _ _ _) ?_ (by unfold maxLen; omega) (by omega) (by simp; omega) fun v' w' h1 h2 _ h4 => h v' w' h1 h2 (by simpa using h4)
  intro u hu
  simp at hu
  subst hu
  exact hone
def pq : Nat → Nat
  | 0 => 0
  | i + 1 => pq i + if i + 1 < 4 ∨ (i + 1) % 16 = 0 then 1 else 0
theorem pq_le : ∀ i, pq i ≤ i
  | 0 => Nat.le_refl _
  | i + 1 => by unfold pq; have := pq_le i; split <;> omega
theorem pq_yes {q : Nat} (h : q + 1 < 4 ∨ (q + 1) % 16 = 0) : pq (q + 1) = pq q + 1 := by show pq q + _ = _; rw [if_pos h]
theorem pq_no {q : Nat} (h : ¬ (q + 1 < 4 ∨ (q + 1) % 16 = 0)) : pq (q + 1) = pq q := by show pq q + _ = _; rw [if_neg h]; rfl
theorem pq_32 : pq 32 = 5 := by decide
structure Gw (F : Knd) (w0 : World) (base B : Nat) (C0 : Array Value) (j : Nat) (vb0 vo0 : Value) (es0 : List Ent) (t : Nat) (w : World) (vb vo : Value) (es : List Ent) (k : Nat) : Prop where
  blk : w.heap[B]? = some (.cells ((C0.setIfInBounds j vb).setIfInBounds (j + 1) vo) 47 (0, 0))
  core : Kc F w base vb vo es t
  pre : ∀ (j : Nat) (ej : Ent), es0[j]? = some ej → es[j]? = some ej
  kp : Kp (fun q => q = B ∨ Fut vb0 vo0 es0 q) w0 w
  foot : ∀ q, Fut vb vo es q → Fut vb0 vo0 es0 q ∨ w0.heap.size ≤ q
  un : ∀ (j : Nat) (ej : Ent), k ≤ j → es0[j]? = some ej → ∀ (i : Nat) (ei : Ent), es[i]? = some ei → i ≠ j → ∀ q, ei.val.ownBlock = some q → ej.val.ownBlock ≠ some q
  old : ∀ (j : Nat) (ej : Ent), es0[j]? = some ej → ∀ q, ej.val.ownBlock = some q → q < w0.heap.size
structure Ik (F : Knd) (w0 : World) (base B : Nat) (C0 : Array Value) (j : Nat) (vb0 vo0 : Value) (es0 : List Ent) (t : Nat) (w : World) (vb vo : Value) (es : List Ent) (k : Nat) (e : Ent) (i : Nat) (gv : Value) : Prop where
  g : Gw F w0 base B C0 j vb0 vo0 es0 t w vb vo es (k + 1)
  own : w.ownsRow base F.te F.s gv (e.n + i) (F.mkl e.m (e.n + i))
  gb : ∀ q, gv.ownBlock = some q → e.val.ownBlock = some q ∨ w0.heap.size ≤ q
  share : ∀ x ∈ es, ∀ q, x.val.ownBlock = some q → gv.ownBlock = some q → x.m = e.m ∧ x.n ≤ e.n + i
section
variable {F : Knd} {w0 : World} {base B : Nat} {C0 : Array Value} {j : Nat} {vb0 vo0 : Value} {es0 : List Ent} {t : Nat}
theorem Gw.begin {w : World} {vb vo : Value} {es : List Ent} {k : Nat} {e : Ent} (h : Gw F w0 base B C0 j vb0 vo0 es0 t w vb vo es k) (he : es0[k]? = some e) : Ik F w0 base B C0 j vb0 vo0 es0 t w vb vo es k e 0 e.val := by
  have hek := h.pre k e he
  refine ⟨⟨h.blk, h.core, h.pre, h.kp, h.foot, fun j ej hj => h.un j ej (by omega), h.old⟩, h.core.he e (List.mem_of_getElem? hek), fun q hq => .inl hq, fun x hx q hq hq' => ?_⟩
  obtain ⟨i, hi⟩ := List.getElem?_of_mem hx
  by_cases hik : i = k
  · subst hik
    rw [hek] at hi
    injection hi with hi
    subst hi
    exact ⟨rfl, Nat.le_refl _⟩
  · exact absurd hq' (h.un k e (Nat.le_refl _) he i x hi hik q hq)
theorem Ik.append (hF : F.Ok) {w : World} {vb vo : Value} {es : List Ent} {k : Nat} {e : Ent} {i : Nat} {gv : Value} (h : Ik F w0 base B C0 j vb0 vo0 es0 t w vb vo es k e i gv) (he : es0[k]? = some e) {w2 : World} {g2 : Value}
    (ho : w2.ownsRow base F.te F.s g2 (e.n + i + 1) (F.mkl e.m (e.n + i) ++ F.mc e.m (e.n + i)))
    (hkeep : ∀ v2 n2 xs2, (∀ k, v2.ownBlock = some k → gv.ownBlock = some k → n2 ≤ e.n + i) → w.ownsRow base F.te F.s v2 n2 xs2 → w2.ownsRow base F.te F.s v2 n2 xs2)
    (hk : Kp (fun k => gv.ownBlock = some k) w w2) (hat : g2.ownBlock = gv.ownBlock ∨ g2.ownBlock = some (w.heap.size + 1)) : Ik F w0 base B C0 j vb0 vo0 es0 t w2 vb vo es k e (i + 1) g2 := by
  have hfe : ∀ q, e.val.ownBlock = some q → Fut vb0 vo0 es0 q := fun q hq => .inr (.inr ⟨e, List.mem_of_getElem? he, hq⟩)
  have hkp2 : Kp (fun q => q = B ∨ Fut vb0 vo0 es0 q) w0 w2 := h.g.kp.trans hk (fun q hq hg => by
    rcases h.gb q hg with h1 | h1
    · exact .inr (hfe q h1)
    · omega)
  have hne : ∀ {ee : TypeId} {s : Nat} {v : Value} {nn : Nat} {yy : List Value}, w.ownsRow base ee s v nn yy → ee ≠ F.te → w2.ownsRow base ee s v nn yy := fun ho h1 => hk.owns ho (fun q hq hg => own_apart ho h.own h1 hq hg)
  have hblk := (hk.block B (blk_lt h.g.blk) (fun hg => own_not h.own h.g.blk hF.eb hg)).trans h.g.blk
  refine ⟨⟨hblk, ⟨hne h.g.core.hb hF.ne, hne h.g.core.ho (fun e => hF.e3 e.symm), fun x hx => hkeep _ _ _ (fun q hq hg => (h.share x hx q hq hg).2) (h.g.core.he x hx), h.g.core.hs, h.g.core.hm⟩, h.g.pre, hkp2, h.g.foot, h.g.un, h.g.old⟩, ?_, ?_, ?_⟩
  · rw [← Nat.add_assoc, Knd.mkl_snoc]
    exact ho
  · intro q hq
    rcases hat with h1 | h1
    · exact h.gb q (by rw [← h1]; exact hq)
    · rw [h1] at hq; injection hq with hq; exact .inr (by have := h.g.kp.size; omega)
  · intro x hx q hq hg
    rcases hat with h1 | h1
    · have := h.share x hx q hq (by rw [← h1]; exact hg)
      exact ⟨this.1, by omega⟩
    · rw [h1] at hg
      injection hg with hg
      have := ((h.g.core.he x hx).lt q hq).2
      omega
theorem Ik.push {w : World} {vb vo : Value} {es : List Ent} {k : Nat} {e : Ent} {i : Nat} {gv : Value} (h : Ik F w0 base B C0 j vb0 vo0 es0 t w vb vo es k e i gv) (he : es0[k]? = some e) {w6 : World} {vb6 vo6 : Value}
    (hblk : w6.heap[B]? = some (.cells ((C0.setIfInBounds j vb6).setIfInBounds (j + 1) vo6) 47 (0, 0))) (hc : Kc F w6 base vb6 vo6 (es ++ [⟨gv, e.n + i, e.m⟩]) t) (hk : Kp (fun q => q = B ∨ vb.ownBlock = some q ∨ vo.ownBlock = some q) w w6)
    (hb : ∀ q, vb6.ownBlock = some q → vb.ownBlock = some q ∨ w0.heap.size ≤ q) (ho : ∀ q, vo6.ownBlock = some q → vo.ownBlock = some q ∨ w0.heap.size ≤ q) :
    Ik F w0 base B C0 j vb0 vo0 es0 t w6 vb6 vo6 (es ++ [⟨gv, e.n + i, e.m⟩]) k e i gv := by
  have hfe : ∀ q, e.val.ownBlock = some q → Fut vb0 vo0 es0 q := fun q hq => .inr (.inr ⟨e, List.mem_of_getElem? he, hq⟩)
  have hkp2 : Kp (fun q => q = B ∨ Fut vb0 vo0 es0 q) w0 w6 := h.g.kp.trans hk (fun q hq hg => by
    rcases hg with h1 | h1 | h1
    · exact .inl h1
    · rcases h.g.foot q (.inl h1) with h2 | h2
      · exact .inr h2
      · omega
    · rcases h.g.foot q (.inr (.inl h1)) with h2 | h2
      · exact .inr h2
      · omega)
  refine ⟨⟨hblk, hc, ?_, hkp2, ?_, ?_, h.g.old⟩, ?_, h.gb, ?_⟩
  · intro j ej hj
    have := h.g.pre j ej hj
    rw [List.getElem?_append_left (List.getElem?_eq_some_iff.1 this).1]
    exact this
  · intro q hq
    rcases hq with hq | hq | ⟨x, hx, hq⟩
    · rcases hb q hq with h1 | h1
      · exact h.g.foot q (.inl h1)
      · exact .inr h1
    · rcases ho q hq with h1 | h1
      · exact h.g.foot q (.inr (.inl h1))
      · exact .inr h1
    · rcases List.mem_append.1 hx with hx | hx
      · exact h.g.foot q (.inr (.inr ⟨x, hx, hq⟩))
      · rw [List.mem_singleton.1 hx] at hq
        rcases h.gb q hq with h1 | h1
        · exact .inl (hfe q h1)
        · exact .inr h1
  · intro j ej hkj hj i' ei hi hij q hq
    rcases sn_get hi with ⟨_, hi⟩ | ⟨_, hi⟩
    · exact h.g.un j ej hkj hj i' ei hi hij q hq
    · subst hi
      intro hq'
      rcases h.gb q hq with h1 | h1
      · exact h.g.un j ej hkj hj k e (h.g.pre k e he) (by omega) q h1 hq'
      · have := h.g.old j ej hj q hq'
        omega
  · exact hc.he ⟨gv, e.n + i, e.m⟩ (by simp)
  · intro x hx q hq hg
    rcases List.mem_append.1 hx with hx | hx
    · exact h.share x hx q hq hg
    · rw [List.mem_singleton.1 hx]; exact ⟨rfl, Nat.le_refl _⟩
theorem Gw.done {w : World} {vb vo : Value} {es : List Ent} {k a u : Nat} (h : Gw F w0 base B C0 j vb0 vo0 es0 t w vb vo es k) (h0 : Ko F w0 base vb0 vo0 es0 a t u) (hp : 1 ≤ F.per) (hl : es.length = es0.length + (F.per - 1) * (es0.length - a)) : Ko F w base vb vo es es.length t u := by
  obtain ⟨c, r, h1, h2, h3⟩ := h0.count
  have e1 : es0.length - a = r := by omega
  have e2 : es.length = F.per * (c + r) := by
    rw [hl, e1, h2, Nat.mul_add]
    have : r + (F.per - 1) * r = F.per * r := by
      have : F.per = (F.per - 1) + 1 := by omega
      conv => rhs; rw [this, Nat.succ_mul]
      omega
    omega
  refine ⟨h.core, ⟨c + r, 0, e2, by omega, by simpa using h3⟩, fun i j ei ej _ hj haj => ?_, fun j ej hj haj => ?_⟩
  · have := (List.getElem?_eq_some_iff.1 hj).1
    omega
  · have := (List.getElem?_eq_some_iff.1 hj).1
    omega
end
end
section
open Go.RowKit
def rt (x n : Nat) : Nat := x / 2 ^ n + x % 2 ^ n * 2 ^ (32 - n)
def ls0 (x : Nat) : Nat := rt x 7 ^^^ rt x 18 ^^^ x / 8
def ls1 (x : Nat) : Nat := rt x 17 ^^^ rt x 19 ^^^ x / 1024
def hh : List Nat := [0x6a09e667, 0xbb67ae85, 0x3c6ef372, 0xa54ff53a, 0x510e527f, 0x9b05688c, 0x1f83d9ab, 0x5be0cd19]
def wrd (l : List Nat) (p : Nat) : Nat := ((l.getD p 0 * 256 + l.getD (p + 1) 0) * 256 + l.getD (p + 2) 0) * 256 + l.getD (p + 3) 0
def nextW (l : List Nat) (n : Nat) : Nat := (ls1 (l.getD (n - 2) 0) + l.getD (n - 7) 0 + ls0 (l.getD (n - 15) 0) + l.getD (n - 16) 0) % 4294967296
def wl (b : List Nat) (p : Nat) : Nat → List Nat
  | 0 => []
  | n + 1 => wl b p n ++ [if n < 16 then wrd b (p + 4 * n) else nextW (wl b p n) n]
end
section
open Go.RowKit

end
section
open Go.RowKit
def wv (l : List Nat) : List Value := l.map fun x => Value.int .u32 ((x : Nat) : Int)
theorem results_one {fn : Func} {p : Tmp} {ty : TypeId} (h : fn.results = #[.cell p ty]) (tmps : Array Value) (P : Program) (w : World) :
    (results fn tmps).run P w = ((asAddr (tmps.getD p undef)).run P w).andThen fun a w₁ => (loadVar ty a).run P w₁ := by
  simp only [results, h]
  simp [Sem.run_bind, Result.andThen]
end
section
open Go.RowKit

end
section
open Go.RowKit

end
section
open Go.RowKit

end
section
open Go.RowKit

end
section
open Go.RowKit

end
section
open Go.RowKit

end
section
open Go.RowKit
theorem row_same {w : World} {g : Nat} {old cs : Array Value} {t : TypeId} (h : w.heap[g]? = some (.cells old t (0, 0))) : (w.setRow g cs).heap[g]? = some (.cells cs t (0, 0)) := by
  simp [World.setRow, Array.getElem?_modify, h]
theorem row_other {w : World} {g k : Nat} {cs : Array Value} (h : k ≠ g) : (w.setRow g cs).heap[k]? = w.heap[k]? := by
  have h' : ¬ g = k := fun e => h e.symm
  simp [World.setRow, Array.getElem?_modify, h']
theorem row_kp (w : World) (g : Nat) (cs : Array Value) : Kp (fun q => q = g) w (w.setRow g cs) :=
  ⟨rfl, rfl, rfl, by simp [World.setRow], fun _ _ h => row_other h⟩
theorem wpList_storeRow {ops : Array Oper} {rest : List Oper} {o : Oper} {a : Act} {Q : Exit → Act → World → Prop} {w : World} {T : TypeId} {p x : Operand} (hgd : o.guard = none) (ho : o.op = .store T p x) (g : Nat) (old cs : Array Value) (t : TypeId)
    (hp : a.eval p = .pointer (some ⟨g, 0, none⟩)) (hx : a.eval x = .agg cs) (hg : w.heap[g]? = some (.cells old t (0, 0))) (hi : (Tryz.prog.info? T).map (·.size) = some cs.size) (hn : old.size = cs.size) (h1 : cs.all (·.oneCell') = true)
    (h : wpList Tryz.prog ops Q rest (a.put o.dst undef) (w.setRow g cs)) : wpList Tryz.prog ops Q (o :: rest) a w := by
  refine wpList_plain hgd fun K hK => ?_
  unfold Oper.wp execOp
  have hr : (Instr.storeAt T (.pointer (some ⟨g, 0, none⟩)) (.agg cs)).run Tryz.prog w = .ok () (w.setRow g cs) := by
    simp only [Instr.storeAt, Instr.sureAddr, Sem.run_bind, Sem.run_pure, Result.andThen]
    exact run_storeVar_row (P := Tryz.prog) w g t T old cs hg hi hn h1
  simp only [ho, Sem.run_bind, hp, hx, hr, Result.andThen_ok]
  exact hK _ _ h
end
section
open Go.RowKit

end
section
open Go.RowKit

end
section
open Go.RowKit

end
section
open Go.RowKit

end
section
open Go.RowKit

end
section
open Go.RowKit
theorem BSl.drop {w : World} {b off n cap : Nat} {xs : List Nat} (h : BSl w (.slice (some ⟨b, off, none⟩) n cap) xs) (k : Nat) (hk : k ≤ xs.length) : BSl w (.slice (some ⟨b, off + k, none⟩) (n - k) (cap - k)) (xs.drop k) := by
  obtain ⟨⟨a, cap', hv, hn, hc⟩, hmax, hby⟩ := h
  injection hv with h1 h2 h3
  subst h1
  subst h3
  subst h2
  refine ⟨⟨_, cap - k, by rw [List.length_drop], ⟨by rw [List.length_drop]; omega, fun h => by cases h⟩, ?_⟩, by rw [List.length_drop]; omega, fun z hz => hby z (List.mem_of_mem_drop hz)⟩
  rcases hc with hc | ⟨b', off', e, hc⟩
  · exact .inl (by subst hc; simp)
  · injection e with e
    injection e with e1 e2 e3
    subst e1
    subst e2
    refine .inr ⟨b, off + k, rfl, fun j hj => ?_⟩
    rw [List.length_drop] at hj
    have hq := hc (k + j) (by omega)
    have e : off + (k + j) = off + k + j := by omega
    rw [e] at hq
    rw [hq]
    simp [List.getD]
end
section
open Go.RowKit

end
section
open Go.RowKit

end
section
open Go.RowKit
def hc (s r : List Nat) (c : Nat) : List Value := wv s ++ (bv r ++ [.int .u64 ((c : Nat) : Int)])
end
section
open Go.RowKit

end
section
open Go.RowKit
theorem bsl_block {w : World} {g : Nat} {xs : List Nat} {t : TypeId} (h : w.heap[g]? = some (.cells (bv xs).toArray t (0, 0))) (hb : ∀ x ∈ xs, x < 256) (hl : xs.length ≤ 9223372036854775807) : BSl w (.slice (some ⟨g, 0, none⟩) xs.length xs.length) xs := by
  refine ⟨⟨_, xs.length, rfl, ⟨Nat.le_refl _, fun h => by cases h⟩, .inr ⟨g, 0, rfl, fun j hj => ?_⟩⟩, hl, hb⟩
  rw [Nat.zero_add]
  exact blk_cell h (by rw [List.getElem?_toArray]; exact bv_get hj)
end
section
open Go.RowKit

end
section
open Go.RowKit
structure Ext (w : World) where
  w' : World
  h : Below w.heap.size w w'
instance (w : World) : Nonempty (Ext w) := ⟨⟨w, Below.refl _ _⟩⟩
theorem Ext.cell {w : World} {p : Addr} {v : Value} (h : w.cell? p = some v) (t : Ext w) : t.w'.cell? p = some v := keep_below t.h _ _ h
theorem region_ext {id : Nat} {Q : Exit → Act → World → Prop} {a : Act} {w : World} {l : List Oper} (hm : Tryz.prog.follows .mixedOrders = true) (hB : Region.lexB .any l.toArray = true)
    (h : wpQuiet Tryz.prog l.toArray (fun w' => ∃ t : Ext w, w' = t.w') (fun a' => ∀ w', (∃ t : Ext w, w' = t.w') → Q .normal a' w') l a) : (Code.region id l.toArray true).wp Tryz.prog Q a w :=
  wp_region_quiet (C := fun w' => ∃ t : Ext w, w' = t.w') hm hB ⟨⟨w.drew, (Below.refl _ _).drew⟩, rfl⟩ (by simpa using h)
theorem Calls.ext_same {f : FuncId} {args : Array Value} {w : World} {t : Ext w} {v : Value} (h : Calls Tryz.prog f args t.w' fun e w' => e = .returned v ∧ w' = t.w') : Calls Tryz.prog f args t.w' fun e w'' => e = .returned v ∧ ∃ t' : Ext w, w'' = t'.w' :=
  h.mono fun _ _ ⟨he, hm⟩ => ⟨he, t, hm⟩
end
section
open Go.RowKit Go
section
variable {P : Program} {ops : Array Oper} {md : Region.Mode} {C : World → Prop}

end
end
section
open Go.RowKit Go
theorem addr_add (g o j : Nat) : (⟨g, o, none⟩ : Addr).add j = ⟨g, o + j, none⟩ := by unfold Addr.add; split <;> simp_all
theorem part_store {w : World} {T t : TypeId} (g off : Nat) (cur cs : List Value) (hg : w.heap[g]? = some (.cells cur.toArray t (0, 0))) (hi : (Tryz.prog.info? T).map (·.size) = some cs.length) (hf : off + cs.length ≤ cur.length) (h1 : ∀ v ∈ cs, v.oneCell' = true) :
    (Instr.storeAt T (.pointer (some ⟨g, off, none⟩)) (.agg cs.toArray)).run Tryz.prog w = .ok () (w.setRow g (splice cur off cs).toArray) := by
  have hst := run_storeCells_at (P := Tryz.prog) g off t cs 0 cur.toArray w hg (by simpa using hf) h1
  simp only [Nat.add_zero, List.append_assoc] at hst
  simp only [Instr.storeAt, Instr.sureAddr, Sem.run_bind, Sem.run_pure, Result.andThen]
  cases hq : Tryz.prog.info? T with
  | none => simp [hq] at hi
  | some i =>
    have hs : cs.length = i.size := by simp [hq] at hi; omega
    simp [storeVar, sizeOf, typeInfo, hq, Value.cells, hs, hst, splice]
theorem wpList_storePart {ops : Array Oper} {rest : List Oper} {o : Oper} {a : Act} {Q : Exit → Act → World → Prop} {w : World} {T : TypeId} {p x : Operand} (hgd : o.guard = none) (ho : o.op = .store T p x) (g off : Nat) (cur cs : List Value) (t : TypeId)
    (hp : a.eval p = .pointer (some ⟨g, off, none⟩)) (hx : a.eval x = .agg cs.toArray) (hg : w.heap[g]? = some (.cells cur.toArray t (0, 0))) (hi : (Tryz.prog.info? T).map (·.size) = some cs.length) (hf : off + cs.length ≤ cur.length) (h1 : ∀ v ∈ cs, v.oneCell' = true)
    (h : ∀ w', Hid (w'.heap[g]? = some (.cells (splice cur off cs).toArray t (0, 0))) → Hid (Kp (fun q => q = g) w w') → wpList Tryz.prog ops Q rest (a.put o.dst undef) w') : wpList Tryz.prog ops Q (o :: rest) a w := by
  refine wpList_plain hgd fun K hK => ?_
  unfold Oper.wp execOp
  simp only [ho, Sem.run_bind, hp, hx, part_store g off cur cs hg hi hf h1, Result.andThen_ok]
  exact hK _ _ (h _ (row_same hg) (row_kp _ _ _))
end
section
open Go.RowKit
structure Chg (S : Nat → Prop) (C C' : Array Value) : Prop where
  n : C'.size = C.size
  k : ∀ k, ¬ S k → C'[k]? = C[k]?
theorem Chg.refl (S : Nat → Prop) (C : Array Value) : Chg S C C := ⟨rfl, fun _ _ => rfl⟩
theorem Chg.trans {S T U : Nat → Prop} {A B C : Array Value} (h : Chg S A B) (g : Chg T B C) (hs : ∀ k, S k → U k) (ht : ∀ k, T k → U k) : Chg U A C := ⟨g.n.trans h.n, fun k hk => (g.k k (fun e => hk (ht k e))).trans (h.k k (fun e => hk (hs k e)))⟩
theorem Chg.set (C : Array Value) (j : Nat) (v : Value) : Chg (fun k => k = j) C (C.setIfInBounds j v) := ⟨by simp, fun k hk => by rw [Array.getElem?_setIfInBounds_ne (fun e => hk e.symm)]⟩
theorem get_set {C : Array Value} {j : Nat} {v : Value} (h : j < C.size) : (C.setIfInBounds j v)[j]? = some v := by simp [h]
theorem get_set_ne {C : Array Value} {i j : Nat} {v : Value} (h : i ≠ j) : (C.setIfInBounds j v)[i]? = C[i]? := Array.getElem?_setIfInBounds_ne (fun e => h e.symm)
theorem set_id {C : Array Value} {j : Nat} {v : Value} (h : C[j]? = some v) : C.setIfInBounds j v = C := by
  apply Array.ext_getElem?
  intro k
  by_cases e : k = j
  · subst e
    rw [get_set (Array.getElem?_eq_some_iff.1 h).1, h]
  · exact get_set_ne e
theorem get_lt {C : Array Value} {j : Nat} {v : Value} (h : C[j]? = some v) : j < C.size := (Array.getElem?_eq_some_iff.1 h).1
set_option maxRecDepth 100000 in
set_option maxHeartbeats 400000 in
theorem tightQ_full {w : World} {B u : Nat} {C : Array Value} (h : w.heap[B]? = some (.cells C 47 (0, 0))) (h56 : C[56]? = some (.int .i64 (u : Nat))) (n : Int) (hu : u ≤ 16777216) (hn0 : 0 ≤ n) (hn : n < 1099511627776000) (hb : 16777216 < u + n) :
    Calls Tryz.prog 66 #[.pointer (some ⟨B, 0, none⟩), .int .i64 n] w fun e w' => e = .returned (.bool true) ∧ w' = w := by
  have c56 : w.cell? ⟨B, 56, none⟩ = some (.int .i64 (u : Nat)) := blk_cell h h56
  clear h h56
  go_enter Tryz.func66, Tryz.ntmps66
  go_wp2
  go_ret
  exact ⟨rfl, rfl⟩
set_option maxRecDepth 100000 in
set_option maxHeartbeats 400000 in
theorem tightQ_room {w : World} {B u : Nat} {C : Array Value} (h : w.heap[B]? = some (.cells C 47 (0, 0))) (h56 : C[56]? = some (.int .i64 (u : Nat))) (n : Int) (hu : u ≤ 16777216) (hn0 : 0 ≤ n) (hn : n < 1099511627776000) (hb : ¬ 16777216 < u + n) (U : Nat) (hU : (u : Int) + n = (U : Int)) :
    Calls Tryz.prog 66 #[.pointer (some ⟨B, 0, none⟩), .int .i64 n] w fun e w' => e = .returned (.bool false) ∧ w'.heap[B]? = some (.cells (C.setIfInBounds 56 (.int .i64 (U : Nat))) 47 (0, 0)) ∧ Kp (fun k => k = B) w w' := by
  have c56 : w.cell? ⟨B, 56, none⟩ = some (.int .i64 (u : Nat)) := blk_cell h h56
  have f56 := blk_frozen 56 h
  have HH := hide h
  have HE := hide hU
  clear h hU h56
  go_enter Tryz.func66, Tryz.ntmps66
  go_wp2
  go_ret
  refine ⟨rfl, ?_, (Kp.refl _ _).setCell _ _ (fun _ => rfl)⟩
  rw [HE.out]
  exact blk_set 56 _ HH.out
theorem own_spl {w w' : World} {base : Nat} {e : TypeId} {s g n cap k : Nat} {ys zs : List Value} {cur : Array Value} (h : w.ownsRow base e s (.slice (some ⟨g, 0, none⟩) n cap) n ys) (hg : w.heap[g]? = some (.cells cur e (0, 0))) (hk : k < n) (hz : zs.length = s)
    (hw : w'.heap[g]? = some (.cells (splice cur.toList (k * s) zs).toArray e (0, 0))) : w'.ownsRow base e s (.slice (some ⟨g, 0, none⟩) n cap) n (splice ys (k * s) zs) := by
  rcases h.2 with ⟨hv, _⟩ | ⟨g', cap', cur', hv, hb, hg', h1, h2, h3, h4⟩
  · cases hv
  injection hv with e1 e2 e3
  injection e1 with e1
  injection e1 with e1 _ _
  subst e1
  subst e3
  rw [hg'] at hg
  injection hg with hg
  injection hg with hg _ _
  subst hg
  have hks : (k + 1) * s ≤ n * s := Nat.mul_le_mul_right s hk
  have hkm : (k + 1) * s = k * s + s := Nat.succ_mul k s
  have hnc : n * s ≤ cap * s := Nat.mul_le_mul_right s h1
  have hcl : cur'.toList.length = cap * s := by simpa using h3
  have hyl : ys.length = n * s := h.1
  refine ⟨by rw [length_splice _ _ _ (by omega), hyl], .inr ⟨g, cap, _, rfl, hb, hw, h1, h2, ?_, ?_⟩⟩
  · rw [List.size_toArray, length_splice _ _ _ (by omega), hcl]
  · rw [List.toList_toArray, ← h4]
    unfold splice
    rw [List.take_append, List.take_append, List.take_take, List.length_take, hz, hcl, Nat.min_eq_right (by omega : k * s ≤ n * s), Nat.min_eq_left (by omega : k * s ≤ cap * s), List.take_of_length_le (by omega : zs.length ≤ n * s - k * s), List.take_take, Nat.min_eq_left (by omega : k * s ≤ n * s), List.drop_take, Nat.sub_sub]
theorem spl_step {F : Knd} {m k : Nat} {xs : List Value} (hs : ∀ k, (F.mc m k).length = F.s) : splice (F.mkl m k ++ xs.drop (k * F.s)) (k * F.s) (F.mc m k) = F.mkl m (k + 1) ++ xs.drop ((k + 1) * F.s) := by
  have hl : ∀ q, (F.mkl m q).length = q * F.s := by
    intro q
    induction q with
    | zero => simp [Knd.mkl]
    | succ q ih => rw [Knd.mkl_snoc, List.length_append, ih, hs, Nat.succ_mul]
  unfold splice
  rw [List.take_append_of_le_length (by rw [hl]; exact Nat.le_refl _), List.take_of_length_le (by rw [hl]; exact Nat.le_refl _), hs, Knd.mkl_snoc, List.append_assoc]
  congr 2
  have e : k * F.s + F.s = (F.mkl m k).length + F.s := by rw [hl]
  rw [e, List.drop_length_add_append, List.drop_drop, Nat.succ_mul]
end
section
open Go.ChangeShapes Go.WideShapes Go.ChangeAt Go.RowKit Go.Deep
theorem Tryz.own : ownKnob Tryz.prog.godebug = none := by kernel_rfl

theorem Tryz.laidOut : laidOutB Tryz.prog = true := by kernel_rfl

theorem weights_all {H : Type} {P : Program} {e : TypeId} {d : DataW H} : ∀ {l : List (DataW H)}, d ∈ l → ∀ n ∈ d.weights P e, n ∈ DataW.weightsAll P e l
  | [], h, _, _ => by cases h
  | x :: r, h, n, hn => by
    simp only [DataW.weightsAll, List.mem_append]
    rcases List.mem_cons.1 h with h | h
    · subst h; exact .inl hn
    · exact .inr (weights_all h n hn)
end
section
open Go.ChangeShapes Go.WideShapes Go.ChangeAt Go.RowKit Go.Deep Go.Joins

end
section
open Go.RowKit Go
def sl (s : ByteArray) : List Nat := s.data.toList.map UInt8.toNat
theorem sl_byte (s : ByteArray) : ∀ x ∈ sl s, x < 256 := fun x hx => by
  obtain ⟨u, _, rfl⟩ := List.mem_map.1 hx
  exact u.toNat_lt
theorem sl_len (s : ByteArray) : (sl s).length = s.size := by
  unfold sl
  rw [List.length_map, Array.length_toList]
  rfl
theorem sl_get (s : ByteArray) (j : Nat) : (sl s).getD j 0 = (s.data.toList.getD j 0).toNat := by
  simp only [sl, List.getD, List.getElem?_map]
  cases s.data.toList[j]? <;> simp
end
section
open Go.RowKit Go
def valB (b : Nat) (l : List Nat) : Nat := l.foldl (fun r d => r * b + d) 0
theorem foldl_shift (b : Nat) : ∀ (l : List Nat) (r : Nat), l.foldl (fun r d => r * b + d) r = r * b ^ l.length + valB b l
  | [], r => by simp [valB]
  | d :: l, r => by
    have h1 := foldl_shift b l (r * b + d)
    have h2 := foldl_shift b l (0 * b + d)
    simp only [List.foldl_cons, List.length_cons, valB] at *
    rw [h1, h2, Nat.zero_mul, Nat.zero_add, Nat.pow_succ, Nat.add_mul]
    have e : r * b * b ^ l.length = r * (b ^ l.length * b) := by rw [Nat.mul_assoc, Nat.mul_comm b]
    omega
theorem valB_cons (b d : Nat) (l : List Nat) : valB b (d :: l) = d * b ^ l.length + valB b l := by
  have h := foldl_shift b l (0 * b + d)
  unfold valB at *
  rw [List.foldl_cons, h, Nat.zero_mul, Nat.zero_add]
theorem valB_lt {b : Nat} (hb : 0 < b) : ∀ {l : List Nat}, (∀ d ∈ l, d < b) → valB b l < b ^ l.length
  | [], _ => by simp [valB]
  | d :: l, h => by
    have ih := valB_lt hb (l := l) (fun x hx => h x (List.mem_cons_of_mem _ hx))
    have hd := h d (by simp)
    rw [valB_cons, List.length_cons, Nat.pow_succ]
    have : (d + 1) * b ^ l.length ≤ b * b ^ l.length := Nat.mul_le_mul_right _ hd
    rw [Nat.add_mul, Nat.one_mul] at this
    rw [Nat.mul_comm (b ^ l.length) b]
    omega
def digB (b n : Nat) : List Nat := if _h : n = 0 ∨ b < 2 then [] else digB b (n / b) ++ [n % b]
termination_by n
decreasing_by exact Nat.div_lt_self (by omega) (by omega)
def conv (a b : Nat) (l : List Nat) : List Nat := List.replicate (l.takeWhile (· == 0)).length 0 ++ digB b (valB a (l.dropWhile (· == 0)))
def bitsW (w x : Nat) : List Nat := (List.range w).map fun k => x / 2 ^ (w - 1 - k) % 2
theorem bitsW_succ (w x : Nat) : bitsW (w + 1) x = x / 2 ^ w % 2 :: bitsW w x := by
  unfold bitsW
  rw [List.range_succ_eq_map, List.map_cons, List.map_map]
  congr 1
  refine List.map_congr_left fun k hk => ?_
  have := List.mem_range.1 hk
  simp only [Function.comp]
  congr 3
  omega
theorem bitsW_valB : ∀ (l : List Nat), (∀ d ∈ l, d < 2) → bitsW l.length (valB 2 l) = l
  | [], _ => rfl
  | d :: l, h => by
    have hd := h d (by simp)
    have hl : ∀ x ∈ l, x < 2 := fun x hx => h x (List.mem_cons_of_mem _ hx)
    have hv := valB_lt (b := 2) (by decide) hl
    rw [List.length_cons, bitsW_succ, valB_cons]
    have e1 : (d * 2 ^ l.length + valB 2 l) / 2 ^ l.length % 2 = d := by
      rw [Nat.mul_comm, Nat.mul_add_div (Nat.pow_pos (by decide)), Nat.div_eq_of_lt hv, Nat.add_zero, Nat.mod_eq_of_lt hd]
    have e2 : bitsW l.length (d * 2 ^ l.length + valB 2 l) = bitsW l.length (valB 2 l) := by
      unfold bitsW
      refine List.map_congr_left fun k hk => ?_
      have hk := List.mem_range.1 hk
      have e3 : d * 2 ^ l.length = 2 ^ (l.length - 1 - k) * (2 * (d * 2 ^ k)) := by
        have : 2 ^ l.length = 2 ^ (l.length - 1 - k) * (2 * 2 ^ k) := by
          rw [← Nat.pow_succ', ← Nat.pow_add]
          congr 1
          omega
        rw [this]
        ac_rfl
      rw [e3, Nat.mul_add_div (Nat.pow_pos (by decide)), Nat.add_mod, Nat.mul_mod_right, Nat.zero_add, Nat.mod_mod]
    rw [e1, e2, bitsW_valB l hl]
end
section
open Go.RowKit Go

end
section
open Go.RowKit Go

end
section
open Go.RowKit Go

end
section
open Go.RowKit Go

end
section
open Go.RowKit Go

end
section
open Go.RowKit

end
section
open Go.RowKit Go

end
end Go.Proofs.YtbbalhfjgpaabaaGreatDoor
