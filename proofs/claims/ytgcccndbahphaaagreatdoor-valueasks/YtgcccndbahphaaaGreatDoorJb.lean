import Derived.Test.YtgcccndbahphaaaGreatDoorJa
import Derived.Deep.QuietTactic
import Derived.StillTail
import Derived.Laws.CopyOwn
import Derived.Lib.SliceRun
import Derived.ProofKit
import Derived.OpenShut
import Derived.SizedLaws
import Derived.Deep.Matrix
import Derived.Lib.SmallJoins
import Derived.Lib.ConvBytes
import Derived.Laws.AppendOwn
namespace Go.Proofs.YtgcccndbahphaaaGreatDoor
section
open Go.RowKit
def digs : Nat → Nat → List Nat
  | 0, _ => []
  | f + 1, n => if n < 128 then [n] else (n % 128 + 128) :: digs f (n / 128)
end
section
open Go.RowKit
/-! ### Plain -/
/-! ### The walk -/
end
section
open Go.RowKit

end
section
open Go.RowKit
theorem results_four {fn : Func} {p q r s : Tmp} (h : fn.results = #[.tmp p, .tmp q, .tmp r, .tmp s]) (tmps : Array Value) (P : Program) (w : World) :
    (results fn tmps).run P w = .ok (.tuple #[tmps.getD p undef, tmps.getD q undef, tmps.getD r undef, tmps.getD s undef]) w := by
  simp only [results, h]
  simp
end
section
open Go.RowKit

end
section
open Go.RowKit

end
section
open Go.RowKit
/-! ### A hash under way -/
/-- The cells of a hash. -/
def hc (s r : List Nat) (c : Nat) : List Value := wv s ++ (bv r ++ [.int .u64 ((c : Nat) : Int)])
end
section
open Go.RowKit

end
section
open Go.RowKit
/-- A block of bytes, as a slice of all of it. -/
theorem bsl_block {w : World} {g : Nat} {xs : List Nat} {t : TypeId} (h : w.heap[g]? = some (.cells (bv xs).toArray t (0, 0))) (hb : ∀ x ∈ xs, x < 256) (hl : xs.length ≤ 9223372036854775807) : BSl w (.slice (some ⟨g, 0, none⟩) xs.length xs.length) xs := by
  refine ⟨⟨_, xs.length, rfl, ⟨Nat.le_refl _, fun h => by cases h⟩, .inr ⟨g, 0, rfl, fun j hj => ?_⟩⟩, hl, hb⟩
  rw [Nat.zero_add]
  exact blk_cell h (by rw [List.getElem?_toArray]; exact bv_get hj)
end
section
open Go.RowKit

end
section
open Go.RowKit
/-- The worlds that hold what w holds, and maybe more. -/
structure Ext (w : World) where
  w' : World
  h : Below w.heap.size w w'
instance (w : World) : Nonempty (Ext w) := ⟨⟨w, Below.refl _ _⟩⟩
theorem Ext.cell {w : World} {p : Addr} {v : Value} (h : w.cell? p = some v) (t : Ext w) : t.w'.cell? p = some v := keep_below t.h _ _ h
/-- A region that draws its order, whose operations read and whose callees read or make memory: one walk, in the text's order. -/
theorem region_ext {id : Nat} {Q : Exit → Act → World → Prop} {a : Act} {w : World} {l : List Oper} (hm : Tryz.prog.follows .mixedOrders = true) (hB : Region.lexB .any l.toArray = true)
    (h : wpQuiet Tryz.prog l.toArray (fun w' => ∃ t : Ext w, w' = t.w') (fun a' => ∀ w', (∃ t : Ext w, w' = t.w') → Q .normal a' w') l a) : (Code.region id l.toArray true).wp Tryz.prog Q a w :=
  wp_region_quiet (C := fun w' => ∃ t : Ext w, w' = t.w') hm hB ⟨⟨w.drew, (Below.refl _ _).drew⟩, rfl⟩ (by simpa using h)
/-- A callee that makes memory. -/
theorem Calls.ext_below {f : FuncId} {args : Array Value} {w : World} {t : Ext w} {v : Value} (h : Calls Tryz.prog f args t.w' fun e w' => e = .returned v ∧ Below t.w'.heap.size t.w' w') : Calls Tryz.prog f args t.w' fun e w'' => e = .returned v ∧ ∃ t' : Ext w, w'' = t'.w' :=
  h.mono fun _ w' ⟨he, hb⟩ => ⟨he, ⟨w', t.h.trans (hb.mono t.h.size)⟩, rfl⟩
end
section
open Go.RowKit Go
section
variable {P : Program} {ops : Array Oper} {md : Region.Mode} {C : World → Prop}

end
end
section
open Go.RowKit Go
/-! ### Parts of a block: by value, copied, cleared -/
theorem addr_add (g o j : Nat) : (⟨g, o, none⟩ : Addr).add j = ⟨g, o + j, none⟩ := by unfold Addr.add; split <;> simp_all
theorem part_store {w : World} {T t : TypeId} (g off : Nat) (cur cs : List Value) (hg : w.heap[g]? = some (.cells cur.toArray t (0, 0))) (hi : (Tryz.prog.info? T).map (·.size) = some cs.length) (hf : off + cs.length ≤ cur.length) (h1 : ∀ v ∈ cs, v.oneCell' = true) :
    (Instr.storeAt T (.pointer (some ⟨g, off, none⟩)) (.agg cs.toArray)).run Tryz.prog w = .ok () (w.setRow g (splice cur off cs).toArray) := by
  have hst := run_storeCells_at (P := Tryz.prog) g off t cs 0 cur.toArray w hg (by simpa using hf) h1
  simp only [Nat.add_zero, List.append_assoc] at hst
  simp only [Instr.storeAt, Instr.sureAddr, Sem.run_bind, Sem.run_pure, Result.andThen]
  cases hq : Tryz.prog.info? T with
  | none => simp [hq] at hi
  | some i =>
    have hs : cs.length = i.size := by simp [hq] at hi; omega
    simp [storeVar, sizeOf, typeInfo, hq, Value.cells, hs, hst, splice]
theorem wpList_storePart {ops : Array Oper} {rest : List Oper} {o : Oper} {a : Act} {Q : Exit → Act → World → Prop} {w : World} {T : TypeId} {p x : Operand} (hgd : o.guard = none) (ho : o.op = .store T p x) (g off : Nat) (cur cs : List Value) (t : TypeId)
    (hp : a.eval p = .pointer (some ⟨g, off, none⟩)) (hx : a.eval x = .agg cs.toArray) (hg : w.heap[g]? = some (.cells cur.toArray t (0, 0))) (hi : (Tryz.prog.info? T).map (·.size) = some cs.length) (hf : off + cs.length ≤ cur.length) (h1 : ∀ v ∈ cs, v.oneCell' = true)
    (h : ∀ w', Hid (w'.heap[g]? = some (.cells (splice cur off cs).toArray t (0, 0))) → Hid (Kp (fun q => q = g) w w') → wpList Tryz.prog ops Q rest (a.put o.dst undef) w') : wpList Tryz.prog ops Q (o :: rest) a w := by
  refine wpList_plain hgd fun K hK => ?_
  unfold Oper.wp execOp
  simp only [ho, Sem.run_bind, hp, hx, part_store g off cur cs hg hi hf h1, Result.andThen_ok]
  exact hK _ _ (h _ (row_same hg) (row_kp _ _ _))
end
section
open Go.RowKit
/-- The book's cells, changed at some places alone. -/
structure Chg (S : Nat → Prop) (C C' : Array Value) : Prop where
  n : C'.size = C.size
  k : ∀ k, ¬ S k → C'[k]? = C[k]?
theorem Chg.refl (S : Nat → Prop) (C : Array Value) : Chg S C C := ⟨rfl, fun _ _ => rfl⟩
theorem Chg.trans {S T U : Nat → Prop} {A B C : Array Value} (h : Chg S A B) (g : Chg T B C) (hs : ∀ k, S k → U k) (ht : ∀ k, T k → U k) : Chg U A C := ⟨g.n.trans h.n, fun k hk => (g.k k (fun e => hk (ht k e))).trans (h.k k (fun e => hk (hs k e)))⟩
theorem Chg.set (C : Array Value) (j : Nat) (v : Value) : Chg (fun k => k = j) C (C.setIfInBounds j v) := ⟨by simp, fun k hk => by rw [Array.getElem?_setIfInBounds_ne (fun e => hk e.symm)]⟩
theorem get_set {C : Array Value} {j : Nat} {v : Value} (h : j < C.size) : (C.setIfInBounds j v)[j]? = some v := by simp [h]
theorem get_set_ne {C : Array Value} {i j : Nat} {v : Value} (h : i ≠ j) : (C.setIfInBounds j v)[i]? = C[i]? := Array.getElem?_setIfInBounds_ne (fun e => h e.symm)
theorem set_id {C : Array Value} {j : Nat} {v : Value} (h : C[j]? = some v) : C.setIfInBounds j v = C := by
  apply Array.ext_getElem?
  intro k
  by_cases e : k = j
  · subst e
    rw [get_set (Array.getElem?_eq_some_iff.1 h).1, h]
  · exact get_set_ne e
theorem get_lt {C : Array Value} {j : Nat} {v : Value} (h : C[j]? = some v) : j < C.size := (Array.getElem?_eq_some_iff.1 h).1
set_option maxRecDepth 100000 in
set_option maxHeartbeats 400000 in
theorem tightQ_full {w : World} {B u : Nat} {C : Array Value} (h : w.heap[B]? = some (.cells C 48 (0, 0))) (h56 : C[56]? = some (.int .i64 (u : Nat))) (n : Int) (hu : u ≤ 16777216) (hn0 : 0 ≤ n) (hn : n < 1099511627776000) (hb : 16777216 < u + n) :
    Calls Tryz.prog 56 #[.pointer (some ⟨B, 0, none⟩), .int .i64 n] w fun e w' => e = .returned (.bool true) ∧ w' = w := by
  have c56 : w.cell? ⟨B, 56, none⟩ = some (.int .i64 (u : Nat)) := blk_cell h h56
  clear h h56
  go_enter Tryz.func56, Tryz.ntmps56
  go_wp2
  go_ret
  exact ⟨rfl, rfl⟩
set_option maxRecDepth 100000 in
set_option maxHeartbeats 400000 in
theorem tightQ_room {w : World} {B u : Nat} {C : Array Value} (h : w.heap[B]? = some (.cells C 48 (0, 0))) (h56 : C[56]? = some (.int .i64 (u : Nat))) (n : Int) (hu : u ≤ 16777216) (hn0 : 0 ≤ n) (hn : n < 1099511627776000) (hb : ¬ 16777216 < u + n) (U : Nat) (hU : (u : Int) + n = (U : Int)) :
    Calls Tryz.prog 56 #[.pointer (some ⟨B, 0, none⟩), .int .i64 n] w fun e w' => e = .returned (.bool false) ∧ w'.heap[B]? = some (.cells (C.setIfInBounds 56 (.int .i64 (U : Nat))) 48 (0, 0)) ∧ Kp (fun k => k = B) w w' := by
  have c56 : w.cell? ⟨B, 56, none⟩ = some (.int .i64 (u : Nat)) := blk_cell h h56
  have f56 := blk_frozen 56 h
  have HH := hide h
  have HE := hide hU
  clear h hU h56
  go_enter Tryz.func56, Tryz.ntmps56
  go_wp2
  go_ret
  refine ⟨rfl, ?_, (Kp.refl _ _).setCell _ _ (fun _ => rfl)⟩
  rw [HE.out]
  exact blk_set 56 _ HH.out
/-- One item of a row of the call's own is written. -/
theorem own_spl {w w' : World} {base : Nat} {e : TypeId} {s g n cap k : Nat} {ys zs : List Value} {cur : Array Value} (h : w.ownsRow base e s (.slice (some ⟨g, 0, none⟩) n cap) n ys) (hg : w.heap[g]? = some (.cells cur e (0, 0))) (hk : k < n) (hz : zs.length = s)
    (hw : w'.heap[g]? = some (.cells (splice cur.toList (k * s) zs).toArray e (0, 0))) : w'.ownsRow base e s (.slice (some ⟨g, 0, none⟩) n cap) n (splice ys (k * s) zs) := by
  rcases h.2 with ⟨hv, _⟩ | ⟨g', cap', cur', hv, hb, hg', h1, h2, h3, h4⟩
  · cases hv
  injection hv with e1 e2 e3
  injection e1 with e1
  injection e1 with e1 _ _
  subst e1
  subst e3
  rw [hg'] at hg
  injection hg with hg
  injection hg with hg _ _
  subst hg
  have hks : (k + 1) * s ≤ n * s := Nat.mul_le_mul_right s hk
  have hkm : (k + 1) * s = k * s + s := Nat.succ_mul k s
  have hnc : n * s ≤ cap * s := Nat.mul_le_mul_right s h1
  have hcl : cur'.toList.length = cap * s := by simpa using h3
  have hyl : ys.length = n * s := h.1
  refine ⟨by rw [length_splice _ _ _ (by omega), hyl], .inr ⟨g, cap, _, rfl, hb, hw, h1, h2, ?_, ?_⟩⟩
  · rw [List.size_toArray, length_splice _ _ _ (by omega), hcl]
  · rw [List.toList_toArray, ← h4]
    unfold splice
    rw [List.take_append, List.take_append, List.take_take, List.length_take, hz, hcl, Nat.min_eq_right (by omega : k * s ≤ n * s), Nat.min_eq_left (by omega : k * s ≤ cap * s), List.take_of_length_le (by omega : zs.length ≤ n * s - k * s), List.take_take, Nat.min_eq_left (by omega : k * s ≤ n * s), List.drop_take, Nat.sub_sub]
/-- What is written so far, and what was there. -/
theorem spl_step {F : Knd} {m k : Nat} {xs : List Value} (hs : ∀ k, (F.mc m k).length = F.s) : splice (F.mkl m k ++ xs.drop (k * F.s)) (k * F.s) (F.mc m k) = F.mkl m (k + 1) ++ xs.drop ((k + 1) * F.s) := by
  have hl : ∀ q, (F.mkl m q).length = q * F.s := by
    intro q
    induction q with
    | zero => simp [Knd.mkl]
    | succ q ih => rw [Knd.mkl_snoc, List.length_append, ih, hs, Nat.succ_mul]
  unfold splice
  rw [List.take_append_of_le_length (by rw [hl]; exact Nat.le_refl _), List.take_of_length_le (by rw [hl]; exact Nat.le_refl _), hs, Knd.mkl_snoc, List.append_assoc]
  congr 2
  have e : k * F.s + F.s = (F.mkl m k).length + F.s := by rw [hl]
  rw [e, List.drop_length_add_append, List.drop_drop, Nat.succ_mul]
end
section
open Go.ChangeShapes Go.WideShapes Go.ChangeAt Go.RowKit Go.Deep
theorem Tryz.own : ownKnob Tryz.prog.godebug = none := by kernel_rfl

theorem Tryz.laidOut : laidOutB Tryz.prog = true := by kernel_rfl

theorem Tryz.cells5 : Tryz.prog.cellsOf 5 = 1 := by kernel_rfl

theorem Tryz.bytes5 : Tryz.prog.bytesOf 5 = 1 := by kernel_rfl

theorem wf_u8 {n : Int} (h : (Lit.int .u8 n).wf = true) : 0 ≤ n ∧ n ≤ 255 := bounds_u8 h

/-- A row of bytes that was read as data, as BSl says it. -/
theorem bsl_of_row {w : World} (A : Option Addr) (L C : Nat) (Z : List Int) (hl : L ≤ C) (hm : C ≤ maxLen) (hz : Z.length = C) (hwf : ∀ n ∈ Z, (Lit.int .u8 n).wf = true) (hn : A = none → C = 0)
    (hc : ∀ a', A = some a' → ∀ c, c < C → w.cell? (a'.add c) = some (.int .u8 (Z.getD c 0))) : BSl w (.slice A L C) ((Z.take L).map Int.toNat) := by
  have hlen : ((Z.take L).map Int.toNat).length = L := by simp; omega
  refine ⟨⟨A, C, by rw [hlen], ⟨by rw [hlen]; exact hl, hn⟩, ?_⟩, by rw [hlen]; unfold maxLen at hm; omega, ?_⟩
  · by_cases h0 : L = 0
    · left; subst h0; simp
    · right
      cases A with
      | none => have := hn rfl; omega
      | some a =>
        obtain ⟨b, off, spot⟩ := a
        have h1 := hc _ rfl 0 (by omega)
        have hspot : spot = none := by simpa [Addr.add] using World.cell?_spot h1
        subst hspot
        refine ⟨b, off, rfl, fun j hj => ?_⟩
        rw [hlen] at hj
        have h2 := hc _ rfl j (by omega)
        have hadd : (⟨b, off, none⟩ : Addr).add j = ⟨b, off + j, none⟩ := by unfold Addr.add; split <;> simp_all
        rw [hadd] at h2
        rw [h2]
        have hjz : j < Z.length := by omega
        have hb := wf_u8 (hwf Z[j] (List.getElem_mem hjz))
        simp [List.getD, hj, hjz]
        omega
  · intro x hx
    simp only [List.mem_map] at hx
    obtain ⟨n, hn', rfl⟩ := hx
    have := wf_u8 (hwf n (List.mem_of_mem_take hn'))
    omega

/-- What a row weighs, inside a slice of rows. -/
theorem weights_all {H : Type} {P : Program} {e : TypeId} {d : DataW H} : ∀ {l : List (DataW H)}, d ∈ l → ∀ n ∈ d.weights P e, n ∈ DataW.weightsAll P e l
  | [], h, _, _ => by cases h
  | x :: r, h, n, hn => by
    simp only [DataW.weightsAll, List.mem_append]
    rcases List.mem_cons.1 h with h | h
    · subst h; exact .inl hn
    · exact .inr (weights_all h n hn)

theorem row_weight {H : Type} (a' : Addr) (L C : Nat) (Z : List Int) (hz : Z.length = C) : C ∈ (intRow (H := H) .u8 (some a') L Z).weights Tryz.prog 51 := by
  have e : (intRow (H := H) .u8 (some a') L Z) = .slice (lits .u8 (Z.take L)) (lits .u8 (Z.drop L)) := rfl
  rw [e]
  simp only [DataW.weights, Tryz.underlying51, Tryz.bytes5]
  refine List.mem_cons.2 (.inl ?_)
  simp [lits]
  omega
end
section
open Go.ChangeShapes Go.WideShapes Go.ChangeAt Go.RowKit Go.Deep Go.Joins

end
section
open Go.RowKit Go
/-- A string's bytes. -/
def sl (s : ByteArray) : List Nat := s.data.toList.map UInt8.toNat
theorem sl_byte (s : ByteArray) : ∀ x ∈ sl s, x < 256 := fun x hx => by
  obtain ⟨u, _, rfl⟩ := List.mem_map.1 hx
  exact u.toNat_lt
theorem sl_len (s : ByteArray) : (sl s).length = s.size := by
  unfold sl
  rw [List.length_map, Array.length_toList]
  rfl
theorem sl_get (s : ByteArray) (j : Nat) : (sl s).getD j 0 = (s.data.toList.getD j 0).toNat := by
  simp only [sl, List.getD, List.getElem?_map]
  cases s.data.toList[j]? <;> simp
/-- '[]byte(s)' of a string that is no constant. -/
theorem conv_sb (w : World) (s : ByteArray) : (convert 9 51 (.string s)).run Tryz.prog w = .ok (.slice (some ⟨w.heap.size, 0, none⟩) s.size (grownCap w s.size 0 5)) (Lib.bytesWorld w 5 s) := Lib.run_convert_string_bytes w 9 51 5 s Tryz.underlying9 Tryz.underlying51 Tryz.underlying5
theorem conv_sb_below (w : World) (s : ByteArray) : Below w.heap.size w (Lib.bytesWorld w 5 s) :=
  ⟨rfl, rfl, rfl, by rw [Lib.bytesWorld_size]; omega, fun k hk => Lib.bytesWorld_at_old w 5 s k hk⟩
theorem conv_sb_bsl (w : World) (s : ByteArray) (hs : s.size ≤ 9223372036854775807) : BSl (Lib.bytesWorld w 5 s) (.slice (some ⟨w.heap.size, 0, none⟩) s.size (grownCap w s.size 0 5)) (sl s) := by
  refine ⟨⟨_, _, by rw [sl_len], ⟨by rw [sl_len]; exact grownCap_ge w s.size 0 5, fun h => by cases h⟩, .inr ⟨w.heap.size, 0, rfl, fun j hj => ?_⟩⟩, by rw [sl_len]; exact hs, sl_byte s⟩
  rw [sl_len] at hj
  rw [Nat.zero_add, Lib.bytesWorld_cell w 5 s j hj, sl_get]
end
section
open Go.RowKit Go
/-- The number that digits make, the first one the highest. -/
def valB (b : Nat) (l : List Nat) : Nat := l.foldl (fun r d => r * b + d) 0
/-- A number's digits, the highest first, none of 0. -/
def digB (b n : Nat) : List Nat := if _h : n = 0 ∨ b < 2 then [] else digB b (n / b) ++ [n % b]
termination_by n
decreasing_by exact Nat.div_lt_self (by omega) (by omega)
/-- Digits of one base in another one: a 0 for each 0 at the front, then the number. -/
def conv (a b : Nat) (l : List Nat) : List Nat := List.replicate (l.takeWhile (· == 0)).length 0 ++ digB b (valB a (l.dropWhile (· == 0)))
end
section
open Go.RowKit Go
/-! ### The state over pieces -/
/-! ### The cells of a hash, by parts -/
end
section
open Go.RowKit Go

end
section
open Go.RowKit Go
theorem wpList_loadAll {ops : Array Oper} {rest : List Oper} {o : Oper} {a : Act} {Q : Exit → Act → World → Prop} {w : World} {T : TypeId} {p : Operand} (hgd : o.guard = none) (ho : o.op = .load T p) (g : Nat) (cs : Array Value) (t : TypeId) {fs : Array Field}
    (hp : a.eval p = .pointer (some ⟨g, 0, none⟩)) (hg : w.heap[g]? = some (.cells cs t (0, 0))) (hu : Tryz.prog.underlying T = some (.struct fs)) (hi : (Tryz.prog.info? T).map (·.size) = some cs.size)
    (h : wpList Tryz.prog ops Q rest (a.put o.dst (.agg cs)) w) : wpList Tryz.prog ops Q (o :: rest) a w := by
  refine wpList_plain hgd fun K hK => ?_
  unfold Oper.wp execOp
  have hr : (Instr.loadAt T (.pointer (some ⟨g, 0, none⟩))).run Tryz.prog w = .ok (.agg cs) w := by
    simp only [Instr.loadAt, Instr.sureAddr, Sem.run_bind, Sem.run_pure, Result.andThen]
    exact run_loadVar_row (P := Tryz.prog) w g t T cs (0, 0) _ hg hu rfl hi
  simp only [ho, Sem.run_bind, hp, hr, Result.andThen_ok]
  exact hK _ _ h
end
section
open Go.RowKit Go

end
section
open Go.RowKit Go

end
section
open Go.RowKit

end
section
open Go.RowKit Go

end
section
open Go.RowKit
/-- What Lend gave, with its marks behind it. -/
structure Lnt (w : World) (base g cap : Nat) (xs : List Nat) : Prop where
  own : w.ownsRow base 5 1 (.slice (some ⟨g, 0, none⟩) (xs.length + 70) cap) (xs.length + 70) (bv (xs ++ marks))
  byte : ∀ x ∈ xs, x < 256
  len : xs.length ≤ 140737488351232

theorem Lnt.bsl {w : World} {base g cap : Nat} {xs : List Nat} (h : Lnt w base g cap xs) : BSl w (.slice (some ⟨g, 0, none⟩) xs.length cap) xs := BSl.lent h.own rfl h.byte

theorem Lnt.cap {w : World} {base g cap : Nat} {xs : List Nat} (h : Lnt w base g cap xs) : xs.length + 70 ≤ cap := by
  rcases h.own.2 with ⟨hv, _⟩ | ⟨g', cap', cur, hv, _, _, h1, _⟩
  · cases hv
  · injection hv with _ _ e; subst e; exact h1

theorem Lnt.mark {w : World} {base g cap : Nat} {xs : List Nat} (h : Lnt w base g cap xs) (i : Nat) (hi : i < 70) : w.cell? ⟨g, xs.length + i, none⟩ = some (.int .u8 (165 - (i : Int))) := by
  have hl : xs.length + i < (xs ++ marks).length := by simp [marks]; omega
  have := (own_cell h.own (j := xs.length + i) (bv_get hl)).1
  rw [this]
  have e : (xs ++ marks).getD (xs.length + i) 0 = 165 - i := by
    simp [List.getD, marks, hi]
  rw [e]
  congr 2
  omega

set_option maxRecDepth 1000000 in
set_option maxHeartbeats 400000 in
theorem intact_any {w : World} {base g cap : Nat} {xs : List Nat} (h : Lnt w base g cap xs) (vb : Value) (hb : BSl w vb xs) :
    Calls Tryz.prog 30 #[.slice (some ⟨g, 0, none⟩) xs.length cap, vb] w fun e w' => e = .returned (.bool true) ∧ Kp (fun _ => False) w w' := by
  have HH := hide h
  have hcv1 := h.bsl.text
  have hcv2 := hb.text
  have hcap := h.cap
  have hlen := h.len
  have hcap' : (xs.length : Int) + 70 ≤ (cap : Int) := by omega
  have HLEN := hide hlen
  generalize nstr xs = S at *
  clear h hb hlen
  go_enter Tryz.func30, Tryz.ntmps30
  have hl2 : (xs.length : Int) ≤ 140737488351232 := by have := HLEN.out; omega
  go_wp2
  clear hcv1 hcv2
  go_loopw [6] (fun i wr => ∃ k : Nat, k ≤ 70 ∧ i = .int .i64 k ∧ Kp (fun _ => False) w wr) (fun i _ => 70 - (intOf i).toNat)
  case atStart => exact ⟨0, by omega, rfl, Kp.refl _ _⟩
  case round =>
    obtain ⟨k, hk, rfl, hkp⟩ := hrel
    have HK := hide hkp
    clear hkp
    by_cases hlt : k < 70
    · have hlt' : (k : Int) < 70 := by omega
      have hm := HK.out.cell (HH.out.mark k hlt) (by simp)
      have HMK : Hid (∀ W, Calls Tryz.prog 42 #[.int .i64 (k : Int)] W fun e w' => e = .returned (.int .u8 (165 - (k : Int))) ∧ w' = W) := fun W => mark_any (k : Int) W (by omega) hlt'
      have hb1 : (xs.length : Int) + (k : Int) < (xs.length : Int) + 70 := by omega
      have hwr : IntKind.i64.wrap ((xs.length : Int) + (k : Int)) = (xs.length : Int) + (k : Int) := by rw [IntKind.wrap_i64]; omega
      go_wp2
      go_quiet ((go_at_call 42; exact Calls.quiet_of_same (HMK.out _)))
      go_wp2
      go_roundw
      case rel => exact ⟨k + 1, by omega, by go_num, HK.out.drewN _⟩
      case measure => simp [intOf]; omega
    · have hlt' : ¬ (k : Int) < 70 := by omega
      go_wp2
      go_ret
      exact ⟨rfl, HK.out⟩

theorem Lnt.kp {w w' : World} {base g cap : Nat} {xs : List Nat} {S : Nat → Prop} (h : Lnt w base g cap xs) (hk : Kp S w w') (hs : ¬ S g) : Lnt w' base g cap xs :=
  ⟨hk.owns h.own (fun q hq => by simp [Value.ownBlock] at hq; subst hq; exact hs), h.byte, h.len⟩
end
section
open Go.RowKit Go

end
section
open Go.RowKit Go

end
section
open Go.RowKit Go
/-! ### What is laid is read; what is read is laid -/
end
section
open Go.RowKit Go
/-- A link. -/
structure Lk where
  v : Int
  c : Nat
  h : Nat
  d : List Nat
/-- A digest that its hash may have. -/
def okd (h : Nat) (d : List Nat) : Prop := (h = 18 ∧ d.length = 32) ∨ (h = 0 ∧ d.length ≤ 64)
instance (h : Nat) (d : List Nat) : Decidable (okd h d) := inferInstanceAs (Decidable (_ ∨ _))
/-- A link that may be. -/
def lok (l : Lk) : Prop := (l.v = 0 ∧ l.c = 112 ∧ l.h = 18 ∧ l.d.length = 32) ∨ (l.v = 1 ∧ l.c < 9223372036854775808 ∧ okd l.h l.d)
instance (l : Lk) : Decidable (lok l) := inferInstanceAs (Decidable (_ ∨ _))
theorem dlay_okd {h : Nat} {d : List Nat} : (dlay h d).2 = 0 ↔ okd h d := by
  unfold dlay okd
  split
  · simp
    omega
  · split
    · simp
      omega
    · simp
      omega
/-- A link's bytes (P4.4). -/
def lbytes (l : Lk) : List Nat := if l.v = 0 then l.h :: l.d.length :: l.d else 1 :: digs 9 l.c ++ (l.h :: l.d.length :: l.d)
end
section
open Go.RowKit Go

end
section
open Go.RowKit Go
/-- What a digit stands for. -/
def look : List Nat → Nat → Option Nat
  | [], _ => none
  | x :: t, c => if x = c then some 0 else (look t c).map (· + 1)
end
end Go.Proofs.YtgcccndbahphaaaGreatDoor
