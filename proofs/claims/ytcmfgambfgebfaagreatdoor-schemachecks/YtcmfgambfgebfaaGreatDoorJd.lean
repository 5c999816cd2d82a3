import Derived.Test.YtcmfgambfgebfaaGreatDoorJc
import Derived.Test.YtcmfgambfgebfaaGreatDoorJb
import Derived.Test.YtcmfgambfgebfaaGreatDoorJa
import Derived.Maps.OwnSet
import Derived.Maps.OwnOps
import Derived.Great.BuildSlice
import Derived.Great.FillDense
namespace Go.Proofs.YtcmfgambfgebfaaGreatDoor
section
open Go.RowKit Go
/-! ### Types in memory -/
def fdc (f : Fd) : Array Value := #[.string f.n, .string f.k, .string f.r.n, .bool f.r.z, .bool f.m]
def czc (c : Cz) : Array Value := #[.string c.k, .string c.n]
def rfc (r : Rf) : Array Value := #[.string r.n, .bool r.z]
def tpc (t : Tp) (vf vc vw : Value) : Array Value := #[.string t.n, .int .i64 t.k, .int .i64 t.lo, .int .i64 t.hi, .string t.r.n, .bool t.r.z, vf, vc, vw]
def Fdi (_ : World) (f : Fd) (c : Array Value) : Prop := c = fdc f ∧ f.n.size ≤ 140737488351232 ∧ f.k.size ≤ 140737488351232 ∧ f.r.n.size ≤ 140737488351232
def Czi (_ : World) (x : Cz) (c : Array Value) : Prop := c = czc x ∧ x.k.size ≤ 140737488351232 ∧ x.n.size ≤ 140737488351232
def Rfi (_ : World) (r : Rf) (c : Array Value) : Prop := c = rfc r ∧ r.n.size ≤ 140737488351232
abbrev FSl (w : World) (v : Value) (fs : List Fd) : Prop := GSl 5 Fdi w v fs
abbrev CSl (w : World) (v : Value) (cs : List Cz) : Prop := GSl 2 Czi w v cs
abbrev RSl (w : World) (v : Value) (rs : List Rf) : Prop := GSl 2 Rfi w v rs
/-- What holds of a type's own numbers and texts. -/
structure Tpb (t : Tp) : Prop where
  n : t.n.size ≤ 140737488351232
  r : t.r.n.size ≤ 140737488351232
  k : -9223372036854775808 ≤ t.k ∧ t.k ≤ 9223372036854775807
  lo : -9223372036854775808 ≤ t.lo ∧ t.lo ≤ 9223372036854775807
  hi : -9223372036854775808 ≤ t.hi ∧ t.hi ≤ 9223372036854775807
structure Tpi (w : World) (t : Tp) (c : Array Value) : Prop where
  ex : ∃ vf vc vw, c = tpc t vf vc vw ∧ FSl w vf t.fs ∧ CSl w vc t.cs ∧ SSl w vw t.ws
  b : Tpb t
theorem Tpi.move {w w' : World} {t : Tp} {c : Array Value} (h : Tpi w t c) (hm : ∀ p u, w.cell? p = some u → w'.cell? p = some u) : Tpi w' t c := by
  obtain ⟨⟨vf, vc, vw, e, h1, h2, h3⟩, hb⟩ := h
  exact ⟨⟨vf, vc, vw, e, h1.move (fun _ _ h => h) hm, h2.move (fun _ _ h => h) hm, h3.move hm⟩, hb⟩
theorem Tpi.size9 {w : World} {t : Tp} {c : Array Value} (h : Tpi w t c) : c.size = 9 := by
  obtain ⟨⟨_, _, _, rfl, _⟩, _⟩ := h
  rfl
theorem Tpi.all1 {w : World} {t : Tp} {c : Array Value} (h : Tpi w t c) : c.all (·.oneCell') = true := by
  obtain ⟨⟨_, _, _, rfl, ⟨⟨_, _, rfl, _⟩, _⟩, ⟨⟨_, _, rfl, _⟩, _⟩, ⟨⟨_, _, rfl, _⟩, _, _⟩⟩, _⟩ := h
  simp [tpc, Value.oneCell']
abbrev TSl (w : World) (v : Value) (ts : List Tp) : Prop := GSl 9 Tpi w v ts
theorem TSl.mv {w w' : World} {v : Value} {ts : List Tp} (h : TSl w v ts) (hm : ∀ p u, w.cell? p = some u → w'.cell? p = some u) : TSl w' v ts := GSl.move h (fun _ _ h => h.move hm) hm
theorem FSl.mv {w w' : World} {v : Value} {fs : List Fd} (h : FSl w v fs) (hm : ∀ p u, w.cell? p = some u → w'.cell? p = some u) : FSl w' v fs := GSl.move h (fun _ _ h => h) hm
theorem CSl.mv {w w' : World} {v : Value} {cs : List Cz} (h : CSl w v cs) (hm : ∀ p u, w.cell? p = some u → w'.cell? p = some u) : CSl w' v cs := GSl.move h (fun _ _ h => h) hm
theorem RSl.mv {w w' : World} {v : Value} {rs : List Rf} (h : RSl w v rs) (hm : ∀ p u, w.cell? p = some u → w'.cell? p = some u) : RSl w' v rs := GSl.move h (fun _ _ h => h) hm

theorem infoTp : (Tryz.prog.info? 45).map (·.size) = some 9 := by kernel_rfl
theorem infoFd : (Tryz.prog.info? 77).map (·.size) = some 5 := by kernel_rfl
theorem infoCz : (Tryz.prog.info? 102).map (·.size) = some 2 := by kernel_rfl
theorem infoRf : (Tryz.prog.info? 40).map (·.size) = some 2 := by kernel_rfl
theorem aggTp (w : World) : (isAgg 45).run Tryz.prog w = .ok true w := by
  unfold isAgg
  rw [Sem.run_bind, run_underlying Tryz.underlying45 w]
  simp
theorem aggFd (w : World) : (isAgg 77).run Tryz.prog w = .ok true w := by
  unfold isAgg
  rw [Sem.run_bind, run_underlying Tryz.underlying77 w]
  simp
theorem aggCz (w : World) : (isAgg 102).run Tryz.prog w = .ok true w := by
  unfold isAgg
  rw [Sem.run_bind, run_underlying Tryz.underlying102 w]
  simp
theorem aggRf (w : World) : (isAgg 40).run Tryz.prog w = .ok true w := by
  unfold isAgg
  rw [Sem.run_bind, run_underlying Tryz.underlying40 w]
  simp
end
section
open Go.RowKit Go
theorem wpList_ex {ops : Array Oper} {rest : List Oper} {o : Oper} {a : Act} {Q : Exit → Act → World → Prop} {w : World} {v : Value} (hgd : Region.wanted o (yielded ops a.tmps) = true) (he : (execOp a.eval o).run Tryz.prog w = .ok (.value v) w) (h : wpList Tryz.prog ops Q rest (a.put o.dst v) w) : wpList Tryz.prog ops Q (o :: rest) a w := by
  refine wpList_wanted hgd fun K hK => ?_
  unfold Oper.wp
  rw [he]
  exact hK _ _ h
theorem str_no {s t : ByteArray} (he : s ≠ t) : (s.toList == t.toList) = false := by
  rw [beq_eq_false_iff_ne]
  intro h
  rw [ByteArray.toList_eq, ByteArray.toList_eq] at h
  obtain ⟨⟨l⟩⟩ := s
  obtain ⟨⟨m⟩⟩ := t
  simp only at h
  exact he (by rw [h])
theorem str_yes (s : ByteArray) : (s.toList == s.toList) = true := by simp
/-! ### Maps by texts -/
theorem lawS : Maps.Keyed Tryz.prog 9 := Maps.string_keyed Tryz.underlying9
theorem zeroI (w : World) : (zeroValue 3).run Tryz.prog w = .ok (.int .i64 0) w := by kernel_rfl
theorem zeroU (w : World) : (zeroValue 60).run Tryz.prog w = .ok (.agg #[]) w := by kernel_rfl
def kyl (s : ByteArray) : Lit := .string s.data.toList
theorem kyl_ne {s t : ByteArray} (h : s ≠ t) : kyl s ≠ kyl t := fun e => h (by
  unfold kyl at e
  injection e with e
  obtain ⟨⟨l⟩⟩ := s
  obtain ⟨⟨m⟩⟩ := t
  simp only at e
  rw [e])
theorem keyS {s : ByteArray} (h : s.size ≤ 140737488351232) : keyOf Tryz.prog 9 (.string s) = some (kyl s) := WideMaps.keyOf_string_mk Tryz.underlying9 (by unfold maxLen; omega)
theorem isKeyL (s : ByteArray) : WideAt.IsKeyLit (kyl s) := trivial
/-- A map from texts to numbers. -/
def Mps (w : World) (B n : Nat) (g : ByteArray → Option Int) : Prop := ∃ D : DataW Unit, w.ownsMap Tryz.prog 9 (plainElem Tryz.prog 3) B n D ∧ ∀ s, Maps.has D (kyl s) = (g s).isSome ∧ ∀ i, g s = some i → D.atKey (kyl s) (.lit (.int .i64 0)) = .lit (.int .i64 i)
theorem Mps.made (w : World) : Mps (w.alloc (.map #[] 0)) w.heap.size 0 (fun _ => none) := ⟨.map [], World.ownsMap_made _ _ _ _, fun _ => ⟨rfl, fun _ h => by cases h⟩⟩
theorem Mps.block {w w' : World} {B n : Nat} {g : ByteArray → Option Int} (h : Mps w B n g) (hb : w'.heap[B]? = w.heap[B]?) : Mps w' B n g := by
  obtain ⟨D, ⟨es, clock, h1, h2⟩, h3⟩ := h
  exact ⟨D, ⟨es, clock, hb.trans h1, h2⟩, h3⟩
theorem Mps.lt {w : World} {B n : Nat} {g : ByteArray → Option Int} (h : Mps w B n g) : B < w.heap.size := by
  obtain ⟨D, h1, _⟩ := h
  exact h1.lt
theorem Mps.next {w w' : World} {B n : Nat} {g : ByteArray → Option Int} (h : Mps w B n g) (hb : Below w.heap.size w w') : Mps w' B n g := h.block (hb.block _ h.lt)
theorem Mps.kp {w w' : World} {B n : Nat} {g : ByteArray → Option Int} {S : Nat → Prop} (h : Mps w B n g) (hk : Kp S w w') (hs : ¬ S B) : Mps w' B n g := h.block (hk.block _ h.lt hs)
theorem Mps.look {w : World} {B n : Nat} {g : ByteArray → Option Int} (h : Mps w B n g) {s : ByteArray} (hs : s.size ≤ 140737488351232) : (Instr.lookup 50 (.map (some B)) (.string s) false).run Tryz.prog w = .ok (.int .i64 ((g s).getD 0)) w := by
  obtain ⟨D, h1, h2⟩ := h
  obtain ⟨c, hrun, hat, _⟩ := h1.lookup_int lawS Tryz.underlying50 Tryz.underlying3 (zeroI w) (keyS hs)
  rw [hrun]
  obtain ⟨h3, h4⟩ := h2 s
  cases hg : g s with
  | none =>
    rw [hg] at h3
    rw [Maps.atKey_of_not_has h3] at hat
    have he := (Lit.int.inj (DataW.lit.inj hat)).2
    rw [← he]
    rfl
  | some i =>
    rw [h4 i hg] at hat
    have he := (Lit.int.inj (DataW.lit.inj hat)).2
    rw [← he]
    rfl
theorem Mps.look_ok {w : World} {B n : Nat} {g : ByteArray → Option Int} (h : Mps w B n g) {s : ByteArray} (hs : s.size ≤ 140737488351232) : (Instr.lookup 50 (.map (some B)) (.string s) true).run Tryz.prog w = .ok (.tuple #[.int .i64 ((g s).getD 0), .bool (g s).isSome]) w := by
  obtain ⟨D, h1, h2⟩ := h
  obtain ⟨v, ps, hrun, hv⟩ := h1.look_ok lawS Tryz.underlying50 (zeroI w) (plainElem_int Tryz.underlying3 (by decide)) (keyS hs)
  obtain ⟨c, rfl, hc, _⟩ := plainElem_int_inv Tryz.underlying3 hv
  have hat := congrArg Prod.fst hc
  simp only at hat
  rw [hrun]
  obtain ⟨h3, h4⟩ := h2 s
  rw [h3]
  cases hg : g s with
  | none =>
    rw [hg] at h3
    rw [Maps.atKey_of_not_has h3] at hat
    have he := (Lit.int.inj (DataW.lit.inj hat)).2
    rw [← he]
    rfl
  | some i =>
    rw [h4 i hg] at hat
    have he := (Lit.int.inj (DataW.lit.inj hat)).2
    rw [← he]
    rfl
/-- What a map tells, one entry laid. -/
def putG (g : ByteArray → Option Int) (s : ByteArray) (i : Int) : ByteArray → Option Int := fun t => if t = s then some i else g t
theorem Mps.put {w : World} {B n : Nat} {g : ByteArray → Option Int} (h : Mps w B n g) {s : ByteArray} (hs : s.size ≤ 140737488351232) {i : Int} (hi : (Lit.int .i64 i).wf = true) (hn : n < 140737488351232) :
    ∃ w', (Instr.mapUpdate 50 (.map (some B)) (.string s) (.int .i64 i)).run Tryz.prog w = .ok () w' ∧ Mps w' B (n + 1) (putG g s i) ∧ Kp (fun q => q = B) w w' := by
  obtain ⟨D, h1, h2⟩ := h
  obtain ⟨w', hrun, h3, h4⟩ := h1.update lawS Tryz.underlying50 (by unfold maxLen; omega) (keyS hs) (plainElem_int Tryz.underlying3 hi)
  refine ⟨w', hrun, ⟨_, h3, fun t => ?_⟩, ⟨h4.os, h4.tape, h4.output, h4.size, fun k hk hne => h4.block k hk (fun e => hne (by injection e))⟩⟩
  unfold putG
  by_cases ht : t = s
  · subst ht
    rw [if_pos rfl]
    exact ⟨Maps.has_put_same h1.isMap (isKeyL t) _, fun j hj => by
      rw [← Option.some.inj hj]
      exact Maps.atKey_put_same h1.isMap (isKeyL t) _ _⟩
  · rw [if_neg ht, Maps.has_put_other (kyl_ne ht)]
    refine ⟨(h2 t).1, fun j hj => ?_⟩
    rw [Maps.atKey_put_other (kyl_ne ht)]
    exact (h2 t).2 j hj
/-- A set of texts: each once. -/
def Mst (w : World) (B n : Nat) (L : List ByteArray) : Prop := L.Nodup ∧ ∃ D : DataW Unit, w.ownsMap Tryz.prog 9 unitElem B n D ∧ (∀ s, Maps.has D (kyl s) = memb L s) ∧ Maps.size D = L.length
theorem Mst.made (w : World) : Mst (w.alloc (.map #[] 0)) w.heap.size 0 [] := ⟨List.nodup_nil, .map [], World.ownsMap_made _ _ _ _, fun _ => rfl, rfl⟩
theorem Mst.block {w w' : World} {B n : Nat} {L : List ByteArray} (h : Mst w B n L) (hb : w'.heap[B]? = w.heap[B]?) : Mst w' B n L := by
  obtain ⟨h0, D, ⟨es, clock, h1, h2⟩, h3⟩ := h
  exact ⟨h0, D, ⟨es, clock, hb.trans h1, h2⟩, h3⟩
theorem Mst.lt {w : World} {B n : Nat} {L : List ByteArray} (h : Mst w B n L) : B < w.heap.size := by
  obtain ⟨_, D, h1, _⟩ := h
  exact h1.lt
theorem Mst.next {w w' : World} {B n : Nat} {L : List ByteArray} (h : Mst w B n L) (hb : Below w.heap.size w w') : Mst w' B n L := h.block (hb.block _ h.lt)
theorem Mst.kp {w w' : World} {B n : Nat} {L : List ByteArray} {S : Nat → Prop} (h : Mst w B n L) (hk : Kp S w w') (hs : ¬ S B) : Mst w' B n L := h.block (hk.block _ h.lt hs)
theorem Mst.len {w : World} {B n : Nat} {L : List ByteArray} (h : Mst w B n L) (ty : TypeId) : (Builtin.len_ #[72] ty #[.map (some B)]).run Tryz.prog w = .ok (.int .i64 (L.length : Nat)) w := by
  obtain ⟨_, D, h1, _, h3⟩ := h
  rw [h1.len Tryz.underlying72 ty, h3]
theorem Mst.look {w : World} {B n : Nat} {L : List ByteArray} (h : Mst w B n L) {s : ByteArray} (hs : s.size ≤ 140737488351232) : (Instr.lookup 72 (.map (some B)) (.string s) true).run Tryz.prog w = .ok (.tuple #[.agg #[], .bool (memb L s)]) w := by
  obtain ⟨_, D, h1, h2, _⟩ := h
  obtain ⟨v, ps, hrun, hv⟩ := h1.look_ok lawS Tryz.underlying72 (zeroU w) unitElem_mk (keyS hs)
  obtain ⟨rfl, _⟩ := unitElem_inv hv
  rw [hrun, h2 s]
def putL (L : List ByteArray) (s : ByteArray) : List ByteArray := if memb L s = true then L else s :: L
theorem putL_mem {L : List ByteArray} {s t : ByteArray} : t ∈ putL L s ↔ t = s ∨ t ∈ L := by
  unfold putL
  split
  · rename_i h
    exact ⟨.inr, fun e => e.elim (fun e => by rw [e]; exact memb_iff.1 h) id⟩
  · exact List.mem_cons
theorem Mst.put {w : World} {B n : Nat} {L : List ByteArray} (h : Mst w B n L) {s : ByteArray} (hs : s.size ≤ 140737488351232) (hn : n < 140737488351232) :
    ∃ w', (Instr.mapUpdate 72 (.map (some B)) (.string s) (.agg #[])).run Tryz.prog w = .ok () w' ∧ Mst w' B (n + 1) (putL L s) ∧ Kp (fun q => q = B) w w' := by
  obtain ⟨h0, D, h1, h2, h3⟩ := h
  obtain ⟨w', hrun, h4, h5⟩ := h1.update lawS Tryz.underlying72 (by unfold maxLen; omega) (keyS hs) unitElem_mk
  refine ⟨w', hrun, ⟨?_, _, h4, fun t => ?_, ?_⟩, ⟨h5.os, h5.tape, h5.output, h5.size, fun k hk hne => h5.block k hk (fun e => hne (by injection e))⟩⟩
  · unfold putL
    split
    · exact h0
    · rename_i hne
      exact List.nodup_cons.2 ⟨fun e => hne (memb_iff.2 e), h0⟩
  · by_cases ht : t = s
    · subst ht
      rw [Maps.has_put_same h1.isMap (isKeyL t)]
      exact (memb_iff.2 (putL_mem.2 (.inl rfl))).symm
    · rw [Maps.has_put_other (kyl_ne ht), h2 t]
      rw [Bool.eq_iff_iff, memb_iff, memb_iff, putL_mem]
      exact ⟨.inr, fun e => e.resolve_left ht⟩
  · rw [Maps.size_put (h1.tidy lawS), h2 s, h3]
    unfold putL
    cases memb L s
    · rfl
    · rfl

/-! ### At the operation -/
section
variable {ops : Array Oper} {rest : List Oper} {o : Oper} {a : Act} {Q : Exit → Act → World → Prop} {w : World}
theorem wpList_lookG (hgd : Region.wanted o (yielded ops a.tmps) = true) {m x : Operand} (ho : o.op = .lookup 50 m x false) {B n : Nat} {g : ByteArray → Option Int} {s : ByteArray} (hm : a.eval m = .map (some B)) (hx : a.eval x = .string s) (h : Mps w B n g) (hs : s.size ≤ 140737488351232)
    (hK : wpList Tryz.prog ops Q rest (a.put o.dst (.int .i64 ((g s).getD 0))) w) : wpList Tryz.prog ops Q (o :: rest) a w := by
  refine wpList_wanted hgd fun K hK' => ?_
  unfold Oper.wp
  simp [execOp, ho, hm, hx, h.look hs, Result.andThen]
  exact hK' _ _ hK
theorem wpList_lookGo (hgd : Region.wanted o (yielded ops a.tmps) = true) {m x : Operand} (ho : o.op = .lookup 50 m x true) {B n : Nat} {g : ByteArray → Option Int} {s : ByteArray} (hm : a.eval m = .map (some B)) (hx : a.eval x = .string s) (h : Mps w B n g) (hs : s.size ≤ 140737488351232)
    (hK : wpList Tryz.prog ops Q rest (a.put o.dst (.tuple #[.int .i64 ((g s).getD 0), .bool (g s).isSome])) w) : wpList Tryz.prog ops Q (o :: rest) a w := by
  refine wpList_wanted hgd fun K hK' => ?_
  unfold Oper.wp
  simp [execOp, ho, hm, hx, h.look_ok hs, Result.andThen]
  exact hK' _ _ hK
theorem wpList_putG (hgd : Region.wanted o (yielded ops a.tmps) = true) {m x v : Operand} (ho : o.op = .mapUpdate 50 m x v) {B n : Nat} {g : ByteArray → Option Int} {s : ByteArray} {i : Int} (hm : a.eval m = .map (some B)) (hx : a.eval x = .string s) (hv : a.eval v = .int .i64 i) (h : Mps w B n g) (hs : s.size ≤ 140737488351232) (hi : (Lit.int .i64 i).wf = true) (hn : n < 140737488351232)
    (hK : ∀ w', Mps w' B (n + 1) (putG g s i) → Kp (fun q => q = B) w w' → wpList Tryz.prog ops Q rest (a.put o.dst undef) w') : wpList Tryz.prog ops Q (o :: rest) a w := by
  refine wpList_wanted hgd fun K hK' => ?_
  obtain ⟨w', hrun, h1, h2⟩ := h.put hs hi hn
  unfold Oper.wp
  simp [execOp, ho, hm, hx, hv, hrun, Result.andThen]
  exact hK' _ _ (hK w' h1 h2)
theorem wpList_lookS (hgd : Region.wanted o (yielded ops a.tmps) = true) {m x : Operand} (ho : o.op = .lookup 72 m x true) {B n : Nat} {L : List ByteArray} {s : ByteArray} (hm : a.eval m = .map (some B)) (hx : a.eval x = .string s) (h : Mst w B n L) (hs : s.size ≤ 140737488351232)
    (hK : wpList Tryz.prog ops Q rest (a.put o.dst (.tuple #[.agg #[], .bool (memb L s)])) w) : wpList Tryz.prog ops Q (o :: rest) a w := by
  refine wpList_wanted hgd fun K hK' => ?_
  unfold Oper.wp
  simp [execOp, ho, hm, hx, h.look hs, Result.andThen]
  exact hK' _ _ hK
theorem wpList_putS (hgd : Region.wanted o (yielded ops a.tmps) = true) {m x v : Operand} (ho : o.op = .mapUpdate 72 m x v) {B n : Nat} {L : List ByteArray} {s : ByteArray} (hm : a.eval m = .map (some B)) (hx : a.eval x = .string s) (hv : a.eval v = .agg #[]) (h : Mst w B n L) (hs : s.size ≤ 140737488351232) (hn : n < 140737488351232)
    (hK : ∀ w', Mst w' B (n + 1) (putL L s) → Kp (fun q => q = B) w w' → wpList Tryz.prog ops Q rest (a.put o.dst undef) w') : wpList Tryz.prog ops Q (o :: rest) a w := by
  refine wpList_wanted hgd fun K hK' => ?_
  obtain ⟨w', hrun, h1, h2⟩ := h.put hs hn
  unfold Oper.wp
  simp [execOp, ho, hm, hx, hv, hrun, Result.andThen]
  exact hK' _ _ (hK w' h1 h2)
theorem wpList_lenS (hgd : Region.wanted o (yielded ops a.tmps) = true) {m : Operand} (ho : o.op = .call { callee := .builtin Builtin.len, args := #[m], argTypes := #[72] }) {B n : Nat} {L : List ByteArray} (hm : a.eval m = .map (some B)) (h : Mst w B n L)
    (hK : wpList Tryz.prog ops Q rest (a.put o.dst (.int .i64 (L.length : Nat))) w) : wpList Tryz.prog ops Q (o :: rest) a w := by
  refine wpList_wanted hgd fun K hK' => ?_
  unfold Oper.wp
  simp [execOp, ho, resolve, invoke, builtin, hm, h.len o.type, Result.andThen]
  exact hK' _ _ hK
end
end
section
open Go.RowKit Go
/-! ### The table of built-in names -/
def ocs : Array Value := #[.string ⟨#[97, 110, 121]⟩, .int .i64 0, .string ⟨#[110, 117, 108, 108]⟩, .int .i64 1, .string ⟨#[98, 111, 111, 108]⟩, .int .i64 2, .string ⟨#[105, 110, 116]⟩, .int .i64 3, .string ⟨#[102, 108, 111, 97, 116]⟩, .int .i64 4, .string ⟨#[115, 105, 110, 103, 108, 101]⟩, .int .i64 4, .string ⟨#[116, 101, 120, 116]⟩, .int .i64 5, .string ⟨#[98, 121, 116, 101, 115]⟩, .int .i64 6, .string ⟨#[108, 105, 110, 107]⟩, .int .i64 7]
structure Otb (w : World) : Prop where
  c : ∀ j u, ocs[j]? = some u → w.cell? ⟨0, 0 + j, none⟩ = some u
theorem Otb.next {w w' : World} (h : Otb w) (hm : ∀ p u, w.cell? p = some u → w'.cell? p = some u) : Otb w' := ⟨fun j u hj => hm _ _ (h.c j u hj)⟩
theorem infoOw : (Tryz.prog.info? 109).map (·.size) = some 18 := by kernel_rfl
theorem aggOw (w : World) : (isAgg 109).run Tryz.prog w = .ok true w := by
  unfold isAgg
  rw [Sem.run_bind, run_underlying Tryz.underlying109 w]
  simp
theorem owns_len : owns.length = 9 := rfl
theorem own_index (w : World) (i : Nat) (n : ByteArray) (k : Nat) (h : owns[i]? = some (n, k)) : (Instr.index 109 (.agg ocs) (.int .i64 (i : Nat))).run Tryz.prog w = .ok (.agg #[.string n, .int .i64 (k : Nat)]) w := by
  rcases i with _ | _ | _ | _ | _ | _ | _ | _ | _ | i
  all_goals first
    | (simp only [owns, List.getElem?_cons_zero, List.getElem?_cons_succ, Option.some.injEq, Prod.mk.injEq] at h
       obtain ⟨rfl, rfl⟩ := h
       kernel_rfl)
    | (simp [owns] at h)
theorem exec_own {o : Oper} {a : Act} {x ix : Operand} {i : Nat} {n : ByteArray} {k : Nat} {w : World} (h : owns[i]? = some (n, k)) (ho : o.op = .index 109 x ix) (hx : a.eval x = .agg ocs) (hi : a.eval ix = .int .i64 (i : Nat)) : (execOp a.eval o).run Tryz.prog w = .ok (.value (.agg #[.string n, .int .i64 (k : Nat)])) w := by
  unfold execOp
  have hr := own_index w i n k h
  simp only [ho, Sem.run_bind, hx, hi, hr, Result.andThen_ok]
  rfl
theorem ownK_at {s : ByteArray} {i : Nat} {k : Nat} (h : owns[i]? = some (s, k)) (hn : ∀ j p, j < i → owns[j]? = some p → p.1 ≠ s) : ownK s = some k := by
  unfold ownK
  have : (owns.find? fun p => decide (p.1 = s)) = some (s, k) := by
    rw [List.find?_eq_some_iff_getElem]
    obtain ⟨hl, he⟩ := List.getElem?_eq_some_iff.1 h
    exact ⟨by simp, i, hl, he, fun j hj => by simpa using hn j _ hj (List.getElem?_eq_getElem (by omega))⟩
  rw [this]
  rfl
theorem ownK_no {s : ByteArray} (hn : ∀ j p, j < 9 → owns[j]? = some p → p.1 ≠ s) : ownK s = none := by
  unfold ownK
  have : (owns.find? fun p => decide (p.1 = s)) = none := by
    rw [List.find?_eq_none]
    intro p hp
    obtain ⟨j, hj, e⟩ := List.getElem_of_mem hp
    have := hn j p (by have := owns_len; omega) (by rw [List.getElem?_eq_getElem hj, e])
    simpa using this
  rw [this]
  rfl
set_option maxRecDepth 1000000 in
set_option maxHeartbeats 1000000 in
theorem ownKind_any (s : ByteArray) (w : World) (hT : Otb w) : Calls Tryz.prog 68 #[.string s] w fun e w' => e = .returned (.tuple #[.int .i64 ((ownK s).getD 0 : Nat), .bool (ownK s).isSome]) ∧ Below w.heap.size w w' := by
  have HT := hide hT.c
  have HI := hide infoOw
  have HA : Hid (∀ w, (isAgg 109).run Tryz.prog w = .ok true w) := aggOw
  clear hT
  go_enter Tryz.func68, Tryz.ntmps68
  go_wp2_with (refine wpList_aggAt rfl rfl HI.out HA.out 0 0 ocs rfl rfl HT.out ?_)
  clear HT HI HA
  have HOC : Hid (ocs = ocs) := rfl
  generalize hoc : ocs = OC at *
  have HOE := hide hoc
  clear hoc HOC
  go_loopw [7] (fun vi wx => ∃ i : Nat, i ≤ 9 ∧ vi = .int .i64 (i : Nat) ∧ Hid (∀ j p, j < i → owns[j]? = some p → p.1 ≠ s) ∧ Hid (Below w.heap.size w wx)) (fun vi _ => 9 - (intOf vi).toNat)
  case atStart => exact ⟨0, by omega, rfl, fun j _ hj => absurd hj (by omega), Below.refl _ _⟩
  case round =>
    obtain ⟨i, hi, rfl, HN, HBw⟩ := hrel
    by_cases hlt : i < 9
    · have g1 : (i : Int) < 9 := by omega
      obtain ⟨⟨n, k⟩, hp⟩ : ∃ p, owns[i]? = some p := ⟨owns[i]'(by have := owns_len; omega), List.getElem?_eq_getElem _⟩
      have HP := hide hp
      have hb1 := below_alloc4 wr (.cells #[.string n, .int .i64 (k : Nat)] 108)
      have HB1 : Hid (Below w.heap.size w (wr.alloc (.cells #[.string n, .int .i64 (k : Nat)] 108))) := HBw.out.trans (hb1.mono HBw.out.size)
      have HEX : Hid (∀ (o : Oper) (a : Act) (x ix : Operand) (w : World), o.op = .index 109 x ix → a.eval x = .agg OC → a.eval ix = .int .i64 (i : Nat) → (execOp a.eval o).run Tryz.prog w = .ok (.value (.agg #[.string n, .int .i64 (k : Nat)])) w) := fun o a x ix w h1 h2 h3 => exec_own hp h1 (h2.trans (by rw [HOE.out])) h3
      clear hp hb1
      by_cases he : n = s
      · have hne : (n.toList == s.toList) = true := by rw [he]; simp
        have HK : Hid (ownK s = some k) := by
          have h := HP.out
          rw [he] at h
          exact ownK_at h HN.out
        clear he
        go_wp2_with (refine wpList_ex rfl (HEX.out _ _ _ _ _ rfl rfl rfl) ?_)
        go_ret2
        exact ⟨by rw [HK.out]; rfl, HB1.out⟩
      · have hne : (n.toList == s.toList) = false := str_no he
        have HN2 : Hid (∀ j p, j < i + 1 → owns[j]? = some p → p.1 ≠ s) := fun j p hj h1 => by
          by_cases hji : j = i
          · subst hji
            rw [HP.out] at h1
            injection h1 with h1
            rw [← h1]
            exact he
          · exact HN.out j p (by omega) h1
        clear he HP HN
        go_wp2_with (refine wpList_ex rfl (HEX.out _ _ _ _ _ rfl rfl rfl) ?_)
        go_roundw
        case rel => exact ⟨i + 1, by omega, by go_num, HN2, HB1⟩
        case measure => simp [intOf]; omega
    · have g1 : ¬ (i : Int) < 9 := by omega
      have HK : Hid (ownK s = none) := ownK_no (fun j p hj => HN.out j p (by omega))
      go_wp2_with fail
      go_ret2
      exact ⟨by rw [HK.out]; rfl, HBw.out⟩
end
section
open Go.RowKit Go
/-! ### A list with its names' places -/
theorem plc_app (l : List Tp) (t : Tp) (s : ByteArray) : plc (l ++ [t]) s = match plc l s with
    | some i => some i
    | none => if t.n = s then some l.length else none := by
  induction l with
  | nil => simp [plc]
  | cons x r ih =>
    simp only [List.cons_append, plc]
    by_cases h : x.n = s
    · simp [h]
    · rw [if_neg h, if_neg h, ih]
      cases plc r s with
      | some i => rfl
      | none => by_cases h2 : t.n = s <;> simp [h2]
theorem plc_lt {l : List Tp} {s : ByteArray} {i : Nat} (h : plc l s = some i) : ∃ t, l[i]? = some t ∧ t.n = s := by
  induction l generalizing i with
  | nil => cases h
  | cons x r ih =>
    simp only [plc] at h
    by_cases hx : x.n = s
    · rw [if_pos hx] at h
      rw [← Option.some.inj h]
      exact ⟨x, rfl, hx⟩
    · rw [if_neg hx] at h
      cases hr : plc r s with
      | none => rw [hr] at h; cases h
      | some k =>
        rw [hr] at h
        rw [← Option.some.inj h]
        obtain ⟨t, h1, h2⟩ := ih hr
        exact ⟨t, by simpa using h1, h2⟩
def gpl (l : List Tp) : ByteArray → Option Int := fun s => (plc l s).map fun i => (i : Int)
theorem gpl_put (l : List Tp) (t : Tp) (h : plc l t.n = none) : putG (gpl l) t.n (l.length : Nat) = gpl (l ++ [t]) := by
  funext s
  unfold putG gpl
  rw [plc_app]
  by_cases e : s = t.n
  · subst e
    rw [if_pos rfl, h]
    simp
  · rw [if_neg e]
    cases plc l s with
    | some i => rfl
    | none => rw [if_neg (fun h : t.n = s => e h.symm)]
theorem gpl_old (l : List Tp) (t : Tp) (h : plc l t.n ≠ none) : gpl l = gpl (l ++ [t]) := by
  funext s
  unfold gpl
  rw [plc_app]
  cases hs : plc l s with
  | some i => rfl
  | none =>
    have : t.n ≠ s := fun e => h (by rw [e]; exact hs)
    simp [this]
theorem takeP (l : List Tp) (k : Nat) (t : Tp) (h : l[k]? = some t) : l.take (k + 1) = l.take k ++ [t] := by
  have hk := (List.getElem?_eq_some_iff.1 h).1
  rw [List.take_succ_eq_append_getElem hk]
  rw [List.getElem?_eq_getElem hk] at h
  injection h with h
  rw [h]
/-- A book in memory: a list and its names' places. -/
structure Sbok (w : World) (vt : Value) (B : Nat) (l : List Tp) : Prop where
  t : TSl w vt l
  m : ∃ n, Mps w B n (gpl l)
theorem Sbok.next {w w' : World} {vt : Value} {B : Nat} {l : List Tp} (h : Sbok w vt B l) (hb : Below w.heap.size w w') : Sbok w' vt B l := ⟨h.t.mv (keep_below hb), h.m.elim fun n h => ⟨n, h.next hb⟩⟩
theorem end_bk {wx : World} {R : Nat} {c : Array Value} {fn : Func} {p : Tmp} {tmps : Array Value} (hf : fn.results = #[.cell p 52]) (hr : wx.heap[R]? = some (.cells c 52 (0, 0))) (hp : tmps.getD p undef = .pointer (some ⟨R, 0, none⟩)) (hn : c.size = 2 := by rfl) : (results fn tmps).run Tryz.prog wx = .ok (.agg c) wx := by
  exact results_cell_row hf tmps wx R 52 c (0, 0) _ hp hr Tryz.underlying52 rfl (by rw [hn]; kernel_rfl)
theorem infoBk : (Tryz.prog.info? 52).map (·.size) = some 2 := by kernel_rfl
/-- What opened has in hand. -/
structure Opd (w : World) (B i : Nat) (l : List Tp) (wx : World) : Prop where
  r : wx.heap[w.heap.size]? = some (.cells #[.slice none 0 0, .map none] 52 (0, 0))
  m : ∃ n, n ≤ i ∧ Mps wx B n (gpl (l.take i))
  b : Below w.heap.size w wx
theorem Opd.next {w wx wy : World} {B i : Nat} {l : List Tp} (h : Opd w B i l wx) (hb : Below wx.heap.size wx wy) : Opd w B i l wy := ⟨(hb.block _ (blk_lt h.r)).trans h.r, h.m.elim fun n h => ⟨n, h.1, h.2.next hb⟩, h.b.trans (hb.mono h.b.size)⟩
set_option maxRecDepth 1000000 in
set_option maxHeartbeats 1000000 in
theorem opened_any (w : World) (v : Value) (l : List Tp) (hv : TSl w v l) : Calls Tryz.prog 18 #[v] w fun e w' => ∃ B, e = .returned (.agg #[v, .map (some B)]) ∧ Hid (w.heap.size ≤ B ∧ (∃ n, Mps w' B n (gpl l)) ∧ Below w.heap.size w w') := by
  have hmax := hv.max
  obtain ⟨⟨a, cap, rfl, _, hform⟩, _⟩ := hv
  have HF := hide hform
  have hmm := @run_makeMap Tryz.prog
  have e1 : (w.alloc (.cells #[.slice none 0 0, .map none] 52)).heap.size = w.heap.size + 1 := by simp
  have HO : Hid (Opd w (w.heap.size + 1) 0 l ((w.alloc (.cells #[.slice none 0 0, .map none] 52)).alloc (.map #[] 0))) := by
    have h := Mps.made (w.alloc (.cells #[.slice none 0 0, .map none] 52))
    rw [e1] at h
    exact ⟨blk_alloc _ (heap_alloc_new w _), ⟨0, Nat.le_refl _, h⟩, (below_alloc4 w _).trans ((below_alloc4 _ _).mono (below_alloc4 w _).size)⟩
  clear hform e1
  go_enter Tryz.func18, Tryz.ntmps18
  go_wp2_with fail
  generalize (w.alloc (.cells #[.slice none 0 0, .map none] 52)).alloc (.map #[] 0) = w0 at *
  go_loopw [11] (fun vi wx => ∃ i : Nat, i ≤ l.length ∧ vi = .int .i64 (i : Nat) ∧ Hid (Opd w (w.heap.size + 1) i l wx)) (fun vi _ => l.length - (intOf vi).toNat)
  case atStart => exact ⟨0, by omega, rfl, HO⟩
  case round =>
    obtain ⟨i, hi, rfl, HOi⟩ := hrel
    clear HO hmm
    by_cases hlt : i < l.length
    · as_aux_lemma =>
      have g1 : (i : Int) < (l.length : Int) := by omega
      obtain ⟨t, ht⟩ : ∃ t, l[i]? = some t := ⟨l[i], List.getElem?_eq_getElem hlt⟩
      obtain ⟨b, off, rfl, hcc⟩ := HF.out.resolve_left (fun h => by rw [h] at hlt; simp at hlt)
      obtain ⟨c, hc, hcell⟩ := hcc i t ht
      obtain ⟨⟨vf, vc, vw, rfl, ⟨⟨af, cf, rfl, -, -⟩, -⟩, ⟨⟨ac, cc, rfl, -, -⟩, -⟩, ⟨⟨aw, cw, rfl, -, -⟩, -, -⟩⟩, hbd⟩ := hc
      unfold tpc at hcell
      have HCL : Hid (∀ j u, (#[.string t.n, .int .i64 t.k, .int .i64 t.lo, .int .i64 t.hi, .string t.r.n, .bool t.r.z, .slice af t.fs.length cf, .slice ac t.cs.length cc, .slice aw t.ws.length cw] : Array Value)[j]? = some u → wr.cell? ⟨b, off + i * 9 + j, none⟩ = some u) := fun j u hj => keep_below HOi.out.b _ _ (hcell j u hj)
      have HNS := hide hbd.n
      have HTK := hide (takeP l i t ht)
      have HTL : Hid ((l.take i).length = i) := by show _ = _; rw [List.length_take]; omega
      have HO1 := hide (HOi.out.next (below_alloc4 wr (.cells #[.string t.n, .int .i64 t.k, .int .i64 t.lo, .int .i64 t.hi, .string t.r.n, .bool t.r.z, .slice af t.fs.length cf, .slice ac t.cs.length cc, .slice aw t.ws.length cw] 45)))
      obtain ⟨n, hn, hm⟩ := HO1.out.m
      have HM := hide hm
      have HN : Hid (n < 140737488351232) := by show _ < _; omega
      have HIW : Hid ((Lit.int .i64 (i : Nat)).wf = true) := WalkArith.wf_i64 (by omega)
      have HN2 : Hid (n ≤ i) := hn
      clear hcc hcell hbd ht hm hn HF
      have HIT := hide infoTp
      have HAT : Hid (∀ w, (isAgg 45).run Tryz.prog w = .ok true w) := aggTp
      cases hp : plc (l.take i) t.n with
      | none =>
        have hps : gpl (l.take i) t.n = none := by unfold gpl; rw [hp]; rfl
        have HG : Hid (putG (gpl (l.take i)) t.n (i : Nat) = gpl (l.take (i + 1))) := by
          show _ = _
          have h := gpl_put (l.take i) t hp
          rw [HTL.out] at h
          rw [HTK.out]
          exact h
        have HPS := hide hps
        clear hp hps
        go_wp2_with (first
          | (refine wpList_aggAt rfl rfl HIT.out HAT.out b (off + i * 9) #[.string t.n, .int .i64 t.k, .int .i64 t.lo, .int .i64 t.hi, .string t.r.n, .bool t.r.z, .slice af t.fs.length cf, .slice ac t.cs.length cc, .slice aw t.ws.length cw] rfl rfl HCL.out ?_)
          | (refine wpList_lookGo rfl rfl rfl rfl HM.out HNS.out ?_; rw [HPS.out])
          | (refine wpList_putG rfl rfl rfl rfl rfl HM.out HNS.out HIW.out HN.out ?_; intro w1 hm1 hk1))
        go_roundw
        case rel =>
          refine ⟨i + 1, by omega, by go_num, ?_⟩
          rw [HG.out] at hm1
          exact ⟨(hk1.block _ (blk_lt HO1.out.r) (by omega)).trans HO1.out.r, ⟨n + 1, by have := HN2.out; omega, hm1⟩, HO1.out.b.trans (hk1.below HO1.out.b.size (fun q e => by omega))⟩
        case measure => simp [intOf]; omega
      | some k =>
        have hps : gpl (l.take i) t.n = some (k : Int) := by unfold gpl; rw [hp]; rfl
        have HG : Hid (gpl (l.take i) = gpl (l.take (i + 1))) := by
          show _ = _
          rw [HTK.out]
          exact gpl_old (l.take i) t (by rw [hp]; exact fun h => by cases h)
        have HPS := hide hps
        clear hp hps
        go_wp2_with (first
          | (refine wpList_aggAt rfl rfl HIT.out HAT.out b (off + i * 9) #[.string t.n, .int .i64 t.k, .int .i64 t.lo, .int .i64 t.hi, .string t.r.n, .bool t.r.z, .slice af t.fs.length cf, .slice ac t.cs.length cc, .slice aw t.ws.length cw] rfl rfl HCL.out ?_)
          | (refine wpList_lookGo rfl rfl rfl rfl HM.out HNS.out ?_; rw [HPS.out]))
        go_roundw
        case rel =>
          refine ⟨i + 1, by omega, by go_num, ?_⟩
          have hm1 := HM.out
          rw [HG.out] at hm1
          exact ⟨HO1.out.r, ⟨n, by have := HN2.out; omega, hm1⟩, HO1.out.b⟩
        case measure => simp [intOf]; omega
    · as_aux_lemma =>
      have g1 : ¬ (i : Int) < (l.length : Int) := by omega
      have hil : i = l.length := by omega
      have HR := hide HOi.out.r
      have HIB : Hid ((Tryz.prog.info? 52).map (·.size) = some (#[.slice a l.length cap, .map (some (w.heap.size + 1))] : Array Value).size) := infoBk
      have HAB : Hid ((#[.slice a l.length cap, .map (some (w.heap.size + 1))] : Array Value).all (·.oneCell') = true) := by show _ = _; simp [Value.oneCell']
      obtain ⟨n, hn, hm⟩ := HOi.out.m
      rw [hil, List.take_length] at hm
      have HM := hide hm
      clear hil hm hn HF
      go_wp2_with (refine wpList_storeRow rfl rfl w.heap.size #[.slice none 0 0, .map none] #[.slice a l.length cap, .map (some (w.heap.size + 1))] 52 rfl rfl HR.out HIB.out rfl HAB.out ?_)
      have hkr := row_kp wr w.heap.size #[.slice a l.length cap, .map (some (w.heap.size + 1))]
      exact bodyPost_ret (end_bk rfl (row_same HR.out) rfl) rfl ⟨_, rfl, by omega, ⟨n, HM.out.kp hkr (by omega)⟩, HOi.out.b.trans (hkr.below HOi.out.b.size (fun q e => by omega))⟩
end
section
open Go.RowKit Go
theorem end_ct {wx : World} {R : Nat} {c : Array Value} {fn : Func} {p u : Tmp} {tmps : Array Value} {T : TypeId} {fs : Array Field} {x : Value} (hf : fn.results = #[.cell p T, .tmp u]) (hr : wx.heap[R]? = some (.cells c T (0, 0))) (hp : tmps.getD p undef = .pointer (some ⟨R, 0, none⟩)) (hx : tmps.getD u undef = x) (hu : Tryz.prog.underlying T = some (.struct fs)) (hi : (Tryz.prog.info? T).map (·.size) = some c.size) : (results fn tmps).run Tryz.prog wx = .ok (.tuple #[.agg c, x]) wx := by
  have h1 := run_loadVar_row (P := Tryz.prog) wx R T T c (0, 0) _ hr hu rfl hi
  refine (results_cell_tmp hf _ _ _).trans ?_
  rw [hp, hx]
  simp [asAddr, h1, Result.andThen]
theorem otp_tpi (w : World) (s : ByteArray) (hs : s.size ≤ 140737488351232) : Tpi w (otp s) #[.string s, .int .i64 0, .int .i64 0, .int .i64 0, .string ⟨#[]⟩, .bool false, .slice none 0 0, .slice none 0 0, .slice none 0 0] := ⟨⟨.slice none 0 0, .slice none 0 0, .slice none 0 0, rfl, GSl.nil, GSl.nil, ⟨⟨none, 0, rfl, ⟨Nat.le_refl _, fun _ => rfl⟩, .inl rfl⟩, Nat.zero_le _, fun _ h => by cases h⟩⟩, ⟨hs, by show (ByteArray.mk #[]).size ≤ _; decide, ⟨by show (-9223372036854775808 : Int) ≤ 0; decide, by show (0 : Int) ≤ _; decide⟩, ⟨by show (-9223372036854775808 : Int) ≤ 0; decide, by show (0 : Int) ≤ _; decide⟩, ⟨by show (-9223372036854775808 : Int) ≤ 0; decide, by show (0 : Int) ≤ _; decide⟩⟩⟩
theorem ztp_tpi (w : World) : Tpi w ztp #[.string ⟨#[]⟩, .int .i64 0, .int .i64 0, .int .i64 0, .string ⟨#[]⟩, .bool false, .slice none 0 0, .slice none 0 0, .slice none 0 0] := otp_tpi w ⟨#[]⟩ (by decide)
/-- Where a result stands that is a type. -/
structure Fin2 (w wx : World) (vt : Value) (B : Nat) : Prop where
  a : wx.heap[w.heap.size]? = some (.cells #[vt, .map (some B)] 52 (0, 0))
  r : wx.heap[w.heap.size + 1]? = some (.cells #[.string ⟨#[]⟩, .int .i64 0, .int .i64 0, .int .i64 0, .string ⟨#[]⟩, .bool false, .slice none 0 0, .slice none 0 0, .slice none 0 0] 45 (0, 0))
  b : Below w.heap.size w wx
theorem Fin2.start (w : World) (vt : Value) (B : Nat) : Fin2 w ((w.alloc (.cells #[vt, .map (some B)] 52)).alloc (.cells #[.string ⟨#[]⟩, .int .i64 0, .int .i64 0, .int .i64 0, .string ⟨#[]⟩, .bool false, .slice none 0 0, .slice none 0 0, .slice none 0 0] 45)) vt B := by
  have h1 := heap_alloc_new w (.cells #[vt, .map (some B)] 52)
  have e1 : (w.alloc (.cells #[vt, .map (some B)] 52)).heap.size = w.heap.size + 1 := by simp
  have h2 := heap_alloc_new (w.alloc (.cells #[vt, .map (some B)] 52)) (.cells #[.string ⟨#[]⟩, .int .i64 0, .int .i64 0, .int .i64 0, .string ⟨#[]⟩, .bool false, .slice none 0 0, .slice none 0 0, .slice none 0 0] 45)
  rw [e1] at h2
  exact ⟨blk_alloc _ h1, h2, (below_alloc4 w _).trans ((below_alloc4 _ _).mono (below_alloc4 w _).size)⟩
theorem Fin2.next {w wx wy : World} {vt : Value} {B : Nat} (h : Fin2 w wx vt B) (hb : Below wx.heap.size wx wy) : Fin2 w wy vt B := ⟨(hb.block _ (blk_lt h.a)).trans h.a, (hb.block _ (blk_lt h.r)).trans h.r, h.b.trans (hb.mono h.b.size)⟩
theorem Fin2.set {w wx : World} {vt : Value} {B : Nat} (h : Fin2 w wx vt B) (c : Array Value) : (wx.setRow (w.heap.size + 1) c).heap[w.heap.size + 1]? = some (.cells c 45 (0, 0)) ∧ Below w.heap.size w (wx.setRow (w.heap.size + 1) c) := ⟨row_same h.r, h.b.trans ((row_kp wx _ c).below h.b.size (fun q e => by omega))⟩
/-- What find tells. -/
def FndP (w : World) (l : List Tp) (s : ByteArray) (e : Ending) (w' : World) : Prop := ∃ c, e = .returned (.tuple #[.agg c, .bool (fnd l s).2]) ∧ Tpi w' (fnd l s).1 c ∧ Below w.heap.size w w'
theorem FndP.mk {w w' : World} {l : List Tp} {s : ByteArray} {c : Array Value} {t : Tp} {b : Bool} (h : fnd l s = (t, b)) (hc : Tpi w' t c) (hb : Below w.heap.size w w') : FndP w l s (.returned (.tuple #[.agg c, .bool b])) w' := ⟨c, by rw [h], by rw [h]; exact hc, hb⟩
set_option maxRecDepth 1000000 in
set_option maxHeartbeats 1000000 in
theorem find_any (w : World) (hT : Otb w) (vt : Value) (B : Nat) (l : List Tp) (hB : Sbok w vt B l) (s : ByteArray) (hs : s.size ≤ 140737488351232) : Calls Tryz.prog 29 #[.agg #[vt, .map (some B)], .string s] w (FndP w l s) := by
  have HT := hide hT
  have HB := hide hB
  have HS := hide hs
  have hmax := hB.t.max
  obtain ⟨⟨⟨a, cap, rfl, _, hform⟩, _⟩, _⟩ := hB
  have HF := hide hform
  have HW := hide (Fin2.start w (.slice a l.length cap) B)
  have HB1 := hide (HB.out.next HW.out.b)
  obtain ⟨n, hm⟩ := HB1.out.m
  have HM := hide hm
  have HIT : Hid (∀ c : Array Value, c.size = 9 → (Tryz.prog.info? 45).map (·.size) = some c.size) := fun c h => by rw [h]; exact infoTp
  have HAT : Hid (∀ w, (isAgg 45).run Tryz.prog w = .ok true w) := aggTp
  have HI9 := hide infoTp
  clear hform hT hs hm
  go_enter Tryz.func29, Tryz.ntmps29
  cases hp : plc l s with
  | some i => as_aux_lemma =>
    have hps : gpl l s = some (i : Int) := by unfold gpl; rw [hp]; rfl
    have HPS := hide hps
    obtain ⟨t, ht, htn⟩ := plc_lt hp
    have hil : i < l.length := (List.getElem?_eq_some_iff.1 ht).1
    have HFN : Hid (fnd l s = (t, true)) := by show _ = _; unfold fnd; rw [hp]; simp only [List.getD, ht]; rfl
    have g1 : (i : Int) < (l.length : Int) := by omega
    obtain ⟨b, off, rfl, hcc⟩ := HF.out.resolve_left (fun h => by rw [h] at hil; simp at hil)
    obtain ⟨c, hc, hcell⟩ := hcc i t ht
    have HC := hide hc
    obtain ⟨⟨vf, vc, vw, rfl, ⟨⟨af, cf, rfl, -, -⟩, -⟩, ⟨⟨ac, cc, rfl, -, -⟩, -⟩, ⟨⟨aw, cw, rfl, -, -⟩, -, -⟩⟩, hbd⟩ := hc
    unfold tpc at hcell HC
    have HCL : Hid (∀ wx, Below w.heap.size w wx → ∀ j u, (#[.string t.n, .int .i64 t.k, .int .i64 t.lo, .int .i64 t.hi, .string t.r.n, .bool t.r.z, .slice af t.fs.length cf, .slice ac t.cs.length cc, .slice aw t.ws.length cw] : Array Value)[j]? = some u → wx.cell? ⟨b, off + i * 9 + j, none⟩ = some u) := fun wx hx j u hj => keep_below hx _ _ (hcell j u hj)
    have HA1 : Hid ((#[.string t.n, .int .i64 t.k, .int .i64 t.lo, .int .i64 t.hi, .string t.r.n, .bool t.r.z, .slice af t.fs.length cf, .slice ac t.cs.length cc, .slice aw t.ws.length cw] : Array Value).all (·.oneCell') = true) := by show _ = _; simp [Value.oneCell']
    have q0 := blk_cell (j := 0) HW.out.a rfl
    have q1 := blk_cell (j := 1) HW.out.a rfl
    have HR := hide HW.out.r
    clear hcc hcell hbd ht htn hp hps hil HF
    go_wp2_with (first
      | (refine wpList_lookGo rfl rfl rfl rfl HM.out HS.out ?_; rw [HPS.out])
      | (refine wpList_aggAt rfl rfl HI9.out HAT.out b (off + i * 9) #[.string t.n, .int .i64 t.k, .int .i64 t.lo, .int .i64 t.hi, .string t.r.n, .bool t.r.z, .slice af t.fs.length cf, .slice ac t.cs.length cc, .slice aw t.ws.length cw] rfl rfl (HCL.out _ HW.out.b) ?_)
      | (refine wpList_storeRow rfl rfl (w.heap.size + 1) #[.string ⟨#[]⟩, .int .i64 0, .int .i64 0, .int .i64 0, .string ⟨#[]⟩, .bool false, .slice none 0 0, .slice none 0 0, .slice none 0 0] #[.string t.n, .int .i64 t.k, .int .i64 t.lo, .int .i64 t.hi, .string t.r.n, .bool t.r.z, .slice af t.fs.length cf, .slice ac t.cs.length cc, .slice aw t.ws.length cw] 45 rfl rfl HR.out (HIT.out _ rfl) rfl HA1.out ?_))
    have hs2 := HW.out.set #[.string t.n, .int .i64 t.k, .int .i64 t.lo, .int .i64 t.hi, .string t.r.n, .bool t.r.z, .slice af t.fs.length cf, .slice ac t.cs.length cc, .slice aw t.ws.length cw]
    exact bodyPost_ret (end_ct rfl hs2.1 rfl rfl Tryz.underlying45 infoTp) rfl (FndP.mk HFN.out (HC.out.move (keep_below hs2.2)) hs2.2)
  | none =>
    have hps : gpl l s = none := by unfold gpl; rw [hp]; rfl
    have HPS := hide hps
    have HPN := hide hp
    clear hp hps
    have q0 := blk_cell (j := 0) HW.out.a rfl
    have q1 := blk_cell (j := 1) HW.out.a rfl
    go_wp2_with (refine wpList_lookGo rfl rfl rfl rfl HM.out HS.out ?_; rw [HPS.out])
    generalize (w.alloc (.cells #[.slice a l.length cap, .map (some B)] 52)).alloc (.cells #[.string ⟨#[]⟩, .int .i64 0, .int .i64 0, .int .i64 0, .string ⟨#[]⟩, .bool false, .slice none 0 0, .slice none 0 0, .slice none 0 0] 45) = w1 at *
    refine (ownKind_any s w1 (HT.out.next (keep_below HW.out.b))).mono ?_
    rintro e w2 ⟨rfl, hb⟩
    have HW2 := hide (HW.out.next hb)
    have HR := hide HW2.out.r
    clear hb HM HB1
    cases ho : ownK s with
    | some k => as_aux_lemma =>
      have HFN : Hid (fnd l s = (otp s, true)) := by show _ = _; unfold fnd; rw [HPN.out]; simp only; rw [ho]; rfl
      clear ho
      simp only [Option.getD_some, Option.isSome_some]
      have HA1 : Hid ((#[.string s, .int .i64 0, .int .i64 0, .int .i64 0, .string ⟨#[]⟩, .bool false, .slice none 0 0, .slice none 0 0, .slice none 0 0] : Array Value).all (·.oneCell') = true) := by show _ = _; simp [Value.oneCell']
      go_wp2_with (refine wpList_storeRow rfl rfl (w.heap.size + 1) #[.string ⟨#[]⟩, .int .i64 0, .int .i64 0, .int .i64 0, .string ⟨#[]⟩, .bool false, .slice none 0 0, .slice none 0 0, .slice none 0 0] #[.string s, .int .i64 0, .int .i64 0, .int .i64 0, .string ⟨#[]⟩, .bool false, .slice none 0 0, .slice none 0 0, .slice none 0 0] 45 rfl rfl HR.out (HIT.out _ rfl) rfl HA1.out ?_)
      have hs2 := HW2.out.set #[.string s, .int .i64 0, .int .i64 0, .int .i64 0, .string ⟨#[]⟩, .bool false, .slice none 0 0, .slice none 0 0, .slice none 0 0]
      exact bodyPost_ret (end_ct rfl hs2.1 rfl rfl Tryz.underlying45 infoTp) rfl (FndP.mk HFN.out (otp_tpi _ s HS.out) hs2.2)
    | none => as_aux_lemma =>
      have HFN : Hid (fnd l s = (ztp, false)) := by show _ = _; unfold fnd; rw [HPN.out]; simp only; rw [ho]; rfl
      clear ho
      simp only [Option.getD_none, Option.isSome_none]
      have HA1 : Hid ((#[.string ⟨#[]⟩, .int .i64 0, .int .i64 0, .int .i64 0, .string ⟨#[]⟩, .bool false, .slice none 0 0, .slice none 0 0, .slice none 0 0] : Array Value).all (·.oneCell') = true) := by show _ = _; simp [Value.oneCell']
      go_wp2_with (refine wpList_storeRow rfl rfl (w.heap.size + 1) #[.string ⟨#[]⟩, .int .i64 0, .int .i64 0, .int .i64 0, .string ⟨#[]⟩, .bool false, .slice none 0 0, .slice none 0 0, .slice none 0 0] #[.string ⟨#[]⟩, .int .i64 0, .int .i64 0, .int .i64 0, .string ⟨#[]⟩, .bool false, .slice none 0 0, .slice none 0 0, .slice none 0 0] 45 rfl rfl HR.out (HIT.out _ rfl) rfl HA1.out ?_)
      have hs2 := HW2.out.set #[.string ⟨#[]⟩, .int .i64 0, .int .i64 0, .int .i64 0, .string ⟨#[]⟩, .bool false, .slice none 0 0, .slice none 0 0, .slice none 0 0]
      exact bodyPost_ret (end_ct rfl hs2.1 rfl rfl Tryz.underlying45 infoTp) rfl (FndP.mk HFN.out (ztp_tpi _) hs2.2)
end
section
open Go.RowKit Go
theorem any_list : nAny.toList = [97, 110, 121] := by rw [ByteArray.toList_eq]; rfl
theorem null_list : nNull.toList = [110, 117, 108, 108] := by rw [ByteArray.toList_eq]; rfl
theorem infoEn : (Tryz.prog.info? 92).map (·.size) = some 2 := by kernel_rfl
theorem aggBk (w : World) : (isAgg 52).run Tryz.prog w = .ok true w := by
  unfold isAgg
  rw [Sem.run_bind, run_underlying Tryz.underlying52 w]
  simp
theorem flw_size {l : List Tp} (hl : ∀ t ∈ l, t.r.n.size ≤ 140737488351232) (s : ByteArray) : (fnd l s).1.r.n.size ≤ 140737488351232 := by
  unfold fnd
  cases h : plc l s with
  | some i =>
    obtain ⟨t, ht, _⟩ := plc_lt h
    simp only [List.getD, ht]
    exact hl t (List.mem_of_getElem? ht)
  | none =>
    simp only
    split
    · show (ByteArray.mk #[]).size ≤ _; decide
    · show (ByteArray.mk #[]).size ≤ _; decide
/-- What follow has in hand. -/
structure Flw (w : World) (vt : Value) (B : Nat) (l : List Tp) (wx : World) : Prop where
  a : wx.heap[w.heap.size]? = some (.cells #[vt, .map (some B)] 52 (0, 0))
  r : wx.heap[w.heap.size + 1]? = some (.cells #[.string ⟨#[]⟩, .bool false] 92 (0, 0))
  b : Below w.heap.size w wx
theorem Flw.start (w : World) (vt : Value) (B : Nat) (l : List Tp) : Flw w vt B l ((w.alloc (.cells #[vt, .map (some B)] 52)).alloc (.cells #[.string ⟨#[]⟩, .bool false] 92)) := by
  have h1 := heap_alloc_new w (.cells #[vt, .map (some B)] 52)
  have e1 : (w.alloc (.cells #[vt, .map (some B)] 52)).heap.size = w.heap.size + 1 := by simp
  have h2 := heap_alloc_new (w.alloc (.cells #[vt, .map (some B)] 52)) (.cells #[.string ⟨#[]⟩, .bool false] 92)
  rw [e1] at h2
  exact ⟨blk_alloc _ h1, h2, (below_alloc4 w _).trans ((below_alloc4 _ _).mono (below_alloc4 w _).size)⟩
theorem Flw.next {w wx wy : World} {vt : Value} {B : Nat} {l : List Tp} (h : Flw w vt B l wx) (hb : Below wx.heap.size wx wy) : Flw w vt B l wy := ⟨(hb.block _ (blk_lt h.a)).trans h.a, (hb.block _ (blk_lt h.r)).trans h.r, h.b.trans (hb.mono h.b.size)⟩
theorem Flw.set {w wx : World} {vt : Value} {B : Nat} {l : List Tp} (h : Flw w vt B l wx) (c : Array Value) : (wx.setRow (w.heap.size + 1) c).heap[w.heap.size + 1]? = some (.cells c 92 (0, 0)) ∧ Below w.heap.size w (wx.setRow (w.heap.size + 1) c) := ⟨row_same h.r, h.b.trans ((row_kp wx _ c).below h.b.size (fun q e => by omega))⟩
theorem Flw.cells {w wx : World} {vt : Value} {B : Nat} {l : List Tp} (h : Flw w vt B l wx) : ∀ j u, (#[vt, .map (some B)] : Array Value)[j]? = some u → wx.cell? ⟨w.heap.size, 0 + j, none⟩ = some u := fun j u hu => by rw [Nat.zero_add]; exact blk_cell h.a hu
set_option maxRecDepth 1000000 in
set_option maxHeartbeats 1000000 in
theorem follow_any (w : World) (hT : Otb w) (vt : Value) (B : Nat) (l : List Tp) (hB : Sbok w vt B l) (hl : ∀ t ∈ l, t.r.n.size ≤ 140737488351232) (s : ByteArray) (hs : s.size ≤ 140737488351232) : Calls Tryz.prog 44 #[.agg #[vt, .map (some B)], .string s] w fun e w' => e = .returned (.agg #[.string (flo l s).1, .bool (flo l s).2]) ∧ Below w.heap.size w w' := by
  have HT := hide hT
  have HB := hide hB
  have HS := hide hs
  have HL := hide hl
  have hmax := hB.t.max
  obtain ⟨⟨⟨a, cap, rfl, _, _⟩, _⟩, _⟩ := hB
  have HW := hide (Flw.start w (.slice a l.length cap) B l)
  have HIB := hide infoBk
  have HAB : Hid (∀ w, (isAgg 52).run Tryz.prog w = .ok true w) := aggBk
  have HIE : Hid (∀ c : Array Value, c.size = 2 → (Tryz.prog.info? 92).map (·.size) = some c.size) := fun c h => by rw [h]; exact infoEn
  clear hT hs hl
  go_enter Tryz.func44, Tryz.ntmps44
  have q0 := blk_cell (j := 0) HW.out.a rfl
  have e1 : IntKind.i64.wrap ((l.length : Int) + 1) = ((l.length + 1 : Nat) : Int) := by rw [IntKind.wrap_i64]; omega
  go_wp2_with fail
  generalize (w.alloc (.cells #[.slice a l.length cap, .map (some B)] 52)).alloc (.cells #[.string ⟨#[]⟩, .bool false] 92) = w1 at *
  clear q0 e1
  go_loopw [1, 5, 12] (fun vs vz vi wx => ∃ (i : Nat) (s' : ByteArray) (z : Bool), i ≤ l.length + 1 ∧ vs = .string s' ∧ vz = .bool z ∧ vi = .int .i64 (i : Nat) ∧ Hid (s'.size ≤ 140737488351232) ∧ Hid (flw l (l.length + 1 - i) s' z = flo l s) ∧ Hid (Flw w (.slice a l.length cap) B l wx)) (fun _ _ vi _ => l.length + 1 - (intOf vi).toNat)
  case atStart => exact ⟨0, s, false, by omega, rfl, rfl, rfl, HS, rfl, HW⟩
  case round =>
    obtain ⟨i, s', z, hi, rfl, rfl, rfl, HSS, HFL, HWx⟩ := hrel
    clear HW
    by_cases hlt : i < l.length + 1
    · have g1 : (i : Int) < (l.length : Int) + 1 := by omega
      have HE : Hid (flw l (l.length + 1 - i) s' z = if (fnd l s').1.k ≠ 1 then (s', z || decide (s' = nAny) || decide (s' = nNull)) else flw l (l.length + 1 - (i + 1)) (fnd l s').1.r.n (z || (fnd l s').1.r.z)) := by
        show _ = _
        rw [show l.length + 1 - i = (l.length + 1 - (i + 1)) + 1 by omega]
        rfl
      rw [HFL.out] at HE
      have HZ2 := hide (flw_size HL.out s')
      have HCB := hide HWx.out.cells
      clear HFL
      go_wp2_with (refine wpList_aggAt rfl rfl HIB.out HAB.out w.heap.size 0 #[.slice a l.length cap, .map (some B)] rfl rfl HCB.out ?_)
      refine (find_any wr (HT.out.next (keep_below HWx.out.b)) _ B l (HB.out.next HWx.out.b) s' HSS.out).mono ?_
      rintro e w2 ⟨c, rfl, hc, hb⟩
      replace HWx := hide (HWx.out.next hb)
      clear hb HCB
      generalize (fnd l s').2 = fb at *
      generalize (fnd l s').1 = T at *
      obtain ⟨⟨vf, vc, vw, rfl, ⟨⟨af, cf, rfl, -, -⟩, -⟩, ⟨⟨ac, cc, rfl, -, -⟩, -⟩, ⟨⟨aw, cw, rfl, -, -⟩, -, -⟩⟩, hbd⟩ := hc
      unfold tpc
      have HX := hide (HWx.out.next (below_alloc4 w2 (.cells #[.string T.n, .int .i64 T.k, .int .i64 T.lo, .int .i64 T.hi, .string T.r.n, .bool T.r.z, .slice af T.fs.length cf, .slice ac T.cs.length cc, .slice aw T.ws.length cw] 45)))
      have HR := hide HX.out.r
      clear hbd HWx
      by_cases hk : T.k = 1
      · as_aux_lemma =>
        have gk : (T.k != 1) = false := by rw [hk]; rfl
        have HE2 : Hid (flw l (l.length + 1 - (i + 1)) T.r.n (z || T.r.z) = flo l s) := by
          have h := HE.out
          rw [if_neg (fun h => h hk)] at h
          exact h.symm
        clear HE hk
        cases z with
        | true =>
          go_wp2_with fail
          go_quiet (fail)
          go_wp2_with fail
          go_roundw
          case rel => exact ⟨i + 1, T.r.n, true, by omega, rfl, rfl, by go_num, HZ2, HE2, HX.out.next (_root_.Go.below_drewN (Below.refl _ _) _)⟩
          case measure => simp [intOf]; omega
        | false =>
          go_wp2_with fail
          go_quiet (fail)
          go_wp2_with fail
          go_roundw
          case rel => exact ⟨i + 1, T.r.n, T.r.z, by omega, rfl, rfl, by go_num, HZ2, (by have h := HE2.out; rw [Bool.false_or] at h; exact h), HX.out.next (_root_.Go.below_drewN (Below.refl _ _) _)⟩
          case measure => simp [intOf]; omega
      · as_aux_lemma =>
        have gk : (T.k != 1) = true := by simp [hk]
        rw [if_pos hk] at HE
        clear hk
        cases z with
        | true =>
          have HA1 : Hid ((#[.string s', .bool true] : Array Value).all (·.oneCell') = true) := by show _ = _; simp [Value.oneCell']
          go_wp2_with (refine wpList_storeRow rfl rfl (w.heap.size + 1) #[.string ⟨#[]⟩, .bool false] #[.string s', .bool true] 92 rfl rfl HR.out (HIE.out _ rfl) rfl HA1.out ?_)
          have hs2 := HX.out.set #[.string s', .bool true]
          exact bodyPost_ret (results_cell_row rfl _ _ _ _ _ _ _ rfl hs2.1 Tryz.underlying92 rfl infoEn) rfl ⟨by rw [HE.out]; rfl, hs2.2⟩
        | false =>
          by_cases ha : s' = nAny
          · have ga : (s'.toList == nAny.toList) = true := by rw [ha]; exact str_yes _
            have HA1 : Hid ((#[.string s', .bool true] : Array Value).all (·.oneCell') = true) := by show _ = _; simp [Value.oneCell']
            have HEE : Hid (flo l s = (s', true)) := by show _ = _; rw [HE.out, decide_eq_true ha]; rfl
            clear HE ha
            rw [any_list] at ga
            go_wp2_with (refine wpList_storeRow rfl rfl (w.heap.size + 1) #[.string ⟨#[]⟩, .bool false] #[.string s', .bool true] 92 rfl rfl HR.out (HIE.out _ rfl) rfl HA1.out ?_)
            have hs2 := HX.out.set #[.string s', .bool true]
            exact bodyPost_ret (results_cell_row rfl _ _ _ _ _ _ _ rfl hs2.1 Tryz.underlying92 rfl infoEn) rfl ⟨by rw [HEE.out], hs2.2⟩
          · have ga : (s'.toList == nAny.toList) = false := str_no ha
            obtain ⟨nb, hnb⟩ : ∃ nb, nb = decide (s' = nNull) := ⟨_, rfl⟩
            have gn : (s'.toList == nNull.toList) = nb := by
              by_cases hn : s' = nNull
              · rw [hnb, decide_eq_true hn, hn]; exact str_yes _
              · rw [hnb, decide_eq_false hn]; exact str_no hn
            have HEE : Hid (flo l s = (s', nb)) := by show _ = _; rw [HE.out, decide_eq_false ha, hnb]; rfl
            have HA1 : Hid ((#[.string s', .bool nb] : Array Value).all (·.oneCell') = true) := by show _ = _; simp [Value.oneCell']
            clear HE ha hnb
            rw [any_list] at ga
            rw [null_list] at gn
            go_wp2_with (refine wpList_storeRow rfl rfl (w.heap.size + 1) #[.string ⟨#[]⟩, .bool false] #[.string s', .bool nb] 92 rfl rfl HR.out (HIE.out _ rfl) rfl HA1.out ?_)
            have hs2 := HX.out.set #[.string s', .bool nb]
            exact bodyPost_ret (results_cell_row rfl _ _ _ _ _ _ _ rfl hs2.1 Tryz.underlying92 rfl infoEn) rfl ⟨by rw [HEE.out], hs2.2⟩
    · as_aux_lemma =>
      have g1 : ¬ (i : Int) < (l.length : Int) + 1 := by omega
      have HE : Hid (flo l s = (⟨#[]⟩, false)) := by
        show _ = _
        rw [← HFL.out, show l.length + 1 - i = 0 by omega]
        rfl
      have HR := hide HWx.out.r
      have HA1 : Hid ((#[.string ⟨#[]⟩, .bool false] : Array Value).all (·.oneCell') = true) := by show _ = _; simp [Value.oneCell']
      clear HFL
      go_wp2_with (refine wpList_storeRow rfl rfl (w.heap.size + 1) #[.string ⟨#[]⟩, .bool false] #[.string ⟨#[]⟩, .bool false] 92 rfl rfl HR.out (HIE.out _ rfl) rfl HA1.out ?_)
      have hs2 := HWx.out.set #[.string ⟨#[]⟩, .bool false]
      exact bodyPost_ret (results_cell_row rfl _ _ _ _ _ _ _ rfl hs2.1 Tryz.underlying92 rfl infoEn) rfl ⟨by rw [HE.out], hs2.2⟩
end
section
open Go.RowKit Go
/-! ### Rows of structs that a call makes -/
def gfl (l : List (Array Value)) : List Value := l.flatMap (·.toList)
theorem gfl_app (a b : List (Array Value)) : gfl (a ++ b) = gfl a ++ gfl b := by simp [gfl]
theorem gfl_len {k : Nat} : ∀ {l : List (Array Value)}, (∀ c ∈ l, c.size = k) → (gfl l).length = l.length * k
  | [], _ => by simp [gfl]
  | c :: r, h => by
    have ih := gfl_len (l := r) (fun x hx => h x (List.mem_cons_of_mem _ hx))
    have h0 := h c (List.mem_cons_self ..)
    have e : gfl (c :: r) = c.toList ++ gfl r := by simp [gfl]
    rw [e, List.length_append, ih, List.length_cons, Nat.succ_mul, Array.length_toList, h0, Nat.add_comm]
theorem gfl_get {n : Nat} : ∀ {l : List (Array Value)}, (∀ c ∈ l, c.size = n) → ∀ (k : Nat) (c : Array Value) (j : Nat) (u : Value), l[k]? = some c → c[j]? = some u → (gfl l)[k * n + j]? = some u
  | [], _, k, c, j, u, hk, _ => by cases hk
  | x :: r, h, 0, c, j, u, hk, hj => by
    have e : gfl (x :: r) = x.toList ++ gfl r := by simp [gfl]
    have hx : x = c := by simpa using hk
    subst hx
    rw [e, Nat.zero_mul, Nat.zero_add, List.getElem?_append_left (by have := (Array.getElem?_eq_some_iff.1 hj).1; simpa using this)]
    simpa using hj
  | x :: r, h, k + 1, c, j, u, hk, hj => by
    have e : gfl (x :: r) = x.toList ++ gfl r := by simp [gfl]
    have h0 := h x (List.mem_cons_self ..)
    have ih := gfl_get (fun y hy => h y (List.mem_cons_of_mem _ hy)) k c j u (by simpa using hk) hj
    rw [e, List.getElem?_append_right (by rw [Array.length_toList, h0, Nat.succ_mul]; omega), Array.length_toList, h0, Nat.succ_mul, show k * n + n + j - n = k * n + j by omega]
    exact ih
theorem addr0 (g j : Nat) : (⟨g, 0, none⟩ : Addr).add j = ⟨g, j, none⟩ := by unfold Addr.add; split <;> simp_all
theorem addrO (g o j : Nat) : (⟨g, o, none⟩ : Addr).add j = ⟨g, o + j, none⟩ := by unfold Addr.add; split <;> simp_all
/-- A type's row of the table. -/
theorem info_ex {T : TypeId} {z : Value} {k by' : Nat} (h : (Tryz.prog.info? T).map (fun i => (i.zero, i.size, i.bytes)) = some (some z, k, by')) : ∃ i, Tryz.prog.info? T = some i ∧ i.zero = some z ∧ i.size = k ∧ i.bytes = by' := by
  cases hi : Tryz.prog.info? T with
  | none => rw [hi] at h; cases h
  | some i =>
    rw [hi] at h
    injection h with h
    injection h with h1 h2
    injection h2 with h2 h3
    exact ⟨i, rfl, h1, h2, h3⟩
/-- append of one struct. -/
theorem append_g {ops : Array Oper} {rest : List Oper} {o : Oper} {a : Act} {Q : Exit → Act → World → Prop} {w : World} {S T : TypeId} {z : Value} {k by' : Nat} (hI : (Tryz.prog.info? T).map (fun i => (i.zero, i.size, i.bytes)) = some (some z, k, by')) (hS : Tryz.prog.underlying S = some (.slice T)) (hzs : z.cells.size = k) (hk : 0 < k) (hby : by' ≤ 1000) (hgd : o.guard = none) {s x : Operand}
    (ho : o.op = .call { callee := .builtin .append, args := #[s, x], argTypes := #[S, S] }) {B : Nat} {v : Value} {L : List (Array Value)} (hs : a.eval s = v) (hown : w.ownsRow B T k v L.length (gfl L))
    {g : Nat} {c : Array Value} (hx : a.eval x = .slice (some ⟨g, 0, none⟩) 1 1) (hg : w.heap[g]? = some (.cells c T (0, 0))) (hc : c.size = k) (h1 : ∀ u ∈ c.toList, u.oneCell' = true) (hlen : L.length ≤ 1000000) (hbase : B ≤ w.heap.size)
    (h : ∀ v' w', w'.ownsRow B T k v' (L.length + 1) (gfl (L ++ [c])) → w.grownBy w' v.ownBlock → (v'.ownBlock = v.ownBlock ∨ v'.ownBlock = some w.heap.size) → wpList Tryz.prog ops Q rest (a.put o.dst v') w') : wpList Tryz.prog ops Q (o :: rest) a w := by
  obtain ⟨i, hi, hz0, hz1, hz2⟩ := info_ex hI
  have hb : (L.length + 1) * by' ≤ 140737488355328 := by
    have : (L.length + 1) * by' ≤ 1000001 * 1000 := Nat.mul_le_mul (by omega) hby
    omega
  refine wpList_append_own_at w hgd s x S ho B T i z k by' hS hi hz0 hz1 hz2 hzs hk v L.length (gfl L) hs hown ⟨g, 0, none⟩ 1 1 c.toList hx (by simp [hc]) (fun j u hu => ?_) h1 (by unfold maxLen; omega) hb hbase fun v' w' h1 h2 _ h4 => h v' w' (by rw [gfl_app]; simpa [gfl] using h1) h2 h4
  rw [addr0]
  exact blk_cell hg (by simpa using hu)
theorem own_formG {w : World} {B : Nat} {e : TypeId} {k : Nat} {v : Value} {n : Nat} {xs : List Value} (h : w.ownsRow B e k v n xs) : ∃ a cap, v = .slice a n cap ∧ (0 < n → ∃ g, a = some ⟨g, 0, none⟩) := by
  rcases h.2 with ⟨rfl, h0⟩ | ⟨g, cap, cur, rfl, _⟩
  · exact ⟨none, 0, by rw [h0], fun hp => by omega⟩
  · exact ⟨_, cap, rfl, fun _ => ⟨g, rfl⟩⟩
theorem own_elt {w : World} {B g n m cap k i : Nat} {T : TypeId} {L : List (Array Value)} {c : Array Value} (h : w.ownsRow B T k (.slice (some ⟨g, 0, none⟩) m cap) n (gfl L)) (hl : ∀ c ∈ L, c.size = k) (hi : L[i]? = some c) : ∀ j u, c[j]? = some u → w.cell? ⟨g, 0 + i * k + j, none⟩ = some u := fun j u hu => by
  have := h.cells (g := g) rfl (i * k + j) u (gfl_get hl i c j u hi hu)
  rw [addr0] at this
  rw [Nat.zero_add]
  exact this
/-- What a call made reads as a row. -/
theorem own_gsl {α : Type} {k : Nat} {P : World → α → Array Value → Prop} {w : World} {B : Nat} {T : TypeId} {v : Value} {L : List (Array Value)} {xs : List α} (h : w.ownsRow B T k v L.length (gfl L)) (hl : ∀ c ∈ L, c.size = k) (hn : L.length = xs.length) (hm : xs.length ≤ 140737488351232) (hp : ∀ (i : Nat) (x : α) (c : Array Value), xs[i]? = some x → L[i]? = some c → P w x c) : GSl k P w v xs := by
  rw [hn] at h
  refine ⟨?_, hm⟩
  rcases id h.2 with ⟨rfl, h0⟩ | ⟨g, cap, cur, rfl, h1, h2, h3, _⟩
  · have : xs = [] := List.length_eq_zero_iff.1 h0
    subst this
    exact ⟨none, 0, rfl, ⟨Nat.le_refl _, fun _ => rfl⟩, .inl rfl⟩
  · refine ⟨_, cap, rfl, ⟨?_, fun e => by cases e⟩, .inr ⟨g, 0, rfl, fun i x hi => ?_⟩⟩
    · omega
    · obtain ⟨hlt, _⟩ := List.getElem?_eq_some_iff.1 hi
      have hiL : L[i]? = some (L[i]'(by omega)) := List.getElem?_eq_getElem (by omega)
      exact ⟨_, hp i x _ hi hiL, own_elt h hl hiL⟩
theorem row1 {ops : Array Oper} {rest : List Oper} {o : Oper} {a : Act} {w : World} {Q : Exit → Act → World → Prop} {S T : TypeId} {z : Value} {k by' : Nat} (hI : (Tryz.prog.info? T).map (fun i => (i.zero, i.size, i.bytes)) = some (some z, k, by')) (hS : Tryz.prog.underlying S = some (.slice T)) (hk : 0 < k) (hk2 : k ≤ 100) (hzs : z.cells.size = k) (hg : o.guard = none) {x : Operand} (ho : o.op = .buildSlice S 1 #[(0, x)]) {c : Array Value} (hx : a.eval x = .agg c) (hc : c.size = k)
    (h : wpList Tryz.prog ops Q rest (a.put o.dst (.slice (some ⟨w.heap.size, 0, none⟩) 1 1)) (w.alloc (.cells c T))) : wpList Tryz.prog ops Q (o :: rest) a w := by
  obtain ⟨i, hi, hz, hs, _⟩ := info_ex hI
  refine wpList_buildSlice hg S T 1 _ ho c i _ hS hi hz (by rw [hs]; omega) (by rw [hs]; omega) ?_ h
  rw [hs]
  have e : (Array.map (fun (i, x) => (i, a.eval x)) #[((0 : Nat), x)]).toList = (([.agg c] : List Value).zipIdx 0).map fun x => (x.2, x.1) := by
    simp [hx]
  rw [e]
  generalize hX : (Array.range (1 * k)).map (z.cells[· % z.cells.size]!) = X
  have hXs : X.size = k := by rw [← hX]; simp
  obtain ⟨r, hr, hsz, hk3⟩ := Great.fill_dense (s := k) hk [.agg c] 0 X (by
    intro v hv
    rw [List.mem_singleton.1 hv]
    exact hc) (by rw [hXs]; simp)
  have e2 : r = c := by
    apply Array.ext_getElem?
    intro j
    rw [hk3 j]
    by_cases hj : j < k
    · rw [if_pos ⟨by omega, by simpa using hj⟩, Nat.div_eq_of_lt hj, Nat.mod_eq_of_lt hj]
      rfl
    · rw [if_neg (by simp; omega), Array.getElem?_eq_none (by omega), Array.getElem?_eq_none (by omega)]
  rw [hr, e2]
end
section
open Go.RowKit Go
/-! ### The reference's small questions -/
theorem memb_take_no11 {L : List ByteArray} {s : ByteArray} {j : Nat} (h : ∀ i t, i < j → L[i]? = some t → t ≠ s) (hj : L.length ≤ j) : memb L s = false := by
  cases hm : memb L s with
  | false => rfl
  | true =>
    obtain ⟨i, hi, e⟩ := List.getElem_of_mem (memb_iff.1 hm)
    exact absurd e (h i _ (by omega) (List.getElem?_eq_getElem hi))
set_option maxRecDepth 1000000 in
set_option maxHeartbeats 1000000 in
theorem is11_any (w : World) (v : Value) (L : List ByteArray) (hv : SSl w v L) (s : ByteArray) : Calls Tryz.prog 48 #[v, .string s] w fun e w' => e = .returned (.bool (memb L s)) ∧ w' = w := by
  have hmax := hv.max
  obtain ⟨⟨a, cap, rfl, hn, hc⟩, _, _⟩ := hv
  have HC := hide hc
  clear hc hn
  go_enter Tryz.func48, Tryz.ntmps48
  go_wp2_with fail
  go_loopw [5] (fun vi wx => ∃ i : Nat, i ≤ L.length ∧ vi = .int .i64 (i : Nat) ∧ wx = w ∧ Hid (∀ j t, j < i → L[j]? = some t → t ≠ s)) (fun vi _ => L.length - (intOf vi).toNat)
  case atStart => exact ⟨0, by omega, rfl, rfl, fun j _ hj => absurd hj (by omega)⟩
  case round =>
    obtain ⟨i, hi, rfl, hw, HN⟩ := hrel
    subst hw
    by_cases hlt : i < L.length
    · have g1 : (i : Int) < (L.length : Int) := by omega
      obtain ⟨b, off, rfl, hcc⟩ := HC.out.resolve_left (fun h => by rw [h] at hlt; simp at hlt)
      obtain ⟨t, ht⟩ : ∃ t, L[i]? = some t := ⟨_, List.getElem?_eq_getElem hlt⟩
      have q1 := hcc i t ht
      have HT := hide ht
      have HM := hide (List.mem_of_getElem? ht)
      clear ht hcc HC
      by_cases he : t = s
      · subst he
        have e1 := str_yes t
        have HR : Hid (memb L t = true) := memb_iff.2 HM.out
        go_wp2_with fail
        go_ret
        exact ⟨by rw [HR.out]; rfl, rfl⟩
      · have e1 := str_no he
        have HN2 : Hid (∀ j u, j < i + 1 → L[j]? = some u → u ≠ s) := fun j u hj hu => by
          by_cases e : j = i
          · subst e
            rw [HT.out] at hu
            rw [← Option.some.inj hu]
            exact he
          · exact HN.out j u (by omega) hu
        clear HN he
        go_wp2_with fail
        go_roundw
        case rel => exact ⟨i + 1, by omega, by go_num, trivial, HN2⟩
        case measure => simp [intOf]; omega
    · have g1 : ¬ (i : Int) < (L.length : Int) := by omega
      have HR := hide (memb_take_no11 HN.out (by omega))
      go_wp2_with fail
      go_ret
      exact ⟨by rw [HR.out]; rfl, rfl⟩
/-! ### Place -/
def pli (l : List Tp) (s : ByteArray) : Int := match plc l s with | some i => (i : Nat) | none => -1
theorem plc_skip {l : List Tp} {s : ByteArray} : ∀ {i : Nat}, (∀ j t, j < i → l[j]? = some t → t.n ≠ s) → plc l s = (plc (l.drop i) s).map (· + i) := by
  intro i
  induction i generalizing l with
  | zero => intro _; simp
  | succ i ih =>
    intro h
    cases l with
    | nil => simp [plc]
    | cons t r =>
      have h0 := h 0 t (by omega) rfl
      rw [plc, if_neg h0, ih (fun j u hj hu => h (j + 1) u (by omega) (by simpa using hu)), List.drop_succ_cons, Option.map_map]
      congr 1
set_option maxRecDepth 1000000 in
set_option maxHeartbeats 1000000 in
theorem place11_any (w : World) (v : Value) (l : List Tp) (hv : TSl w v l) (s : ByteArray) : Calls Tryz.prog 50 #[v, .string s] w fun e w' => e = .returned (.int .i64 (pli l s)) ∧ w' = w := by
  have hmax := hv.max
  obtain ⟨⟨a, cap, rfl, hn, hc⟩, _⟩ := hv
  have HC := hide hc
  clear hc hn
  go_enter Tryz.func50, Tryz.ntmps50
  go_wp2_with fail
  go_loopw [5] (fun vi wx => ∃ i : Nat, i ≤ l.length ∧ vi = .int .i64 (i : Nat) ∧ wx = w ∧ Hid (∀ j t, j < i → l[j]? = some t → t.n ≠ s)) (fun vi _ => l.length - (intOf vi).toNat)
  case atStart => exact ⟨0, by omega, rfl, rfl, fun j _ hj => absurd hj (by omega)⟩
  case round =>
    obtain ⟨i, hi, rfl, hw, HN⟩ := hrel
    subst hw
    by_cases hlt : i < l.length
    · have g1 : (i : Int) < (l.length : Int) := by omega
      obtain ⟨b, off, rfl, hcc⟩ := HC.out.resolve_left (fun h => by rw [h] at hlt; simp at hlt)
      obtain ⟨t, ht⟩ : ∃ t, l[i]? = some t := ⟨_, List.getElem?_eq_getElem hlt⟩
      obtain ⟨c, ⟨⟨vf, vc, vw, rfl, _⟩, _⟩, hcell⟩ := hcc i t ht
      have q1 := hcell 0 (.string t.n) rfl
      rw [Nat.add_zero] at q1
      have HT := hide ht
      clear ht hcc HC hcell
      by_cases he : t.n = s
      · subst he
        have e1 := str_yes t.n
        have HR : Hid (pli l t.n = (i : Nat)) := by
          show _ = _
          unfold pli
          rw [plc_skip HN.out]
          obtain ⟨hi2, e2⟩ := List.getElem?_eq_some_iff.1 HT.out
          rw [List.drop_eq_getElem_cons hi2, e2, plc, if_pos rfl]
          simp
        go_wp2_with fail
        go_ret
        exact ⟨by rw [HR.out]; rfl, rfl⟩
      · have e1 := str_no he
        have HN2 : Hid (∀ j u, j < i + 1 → l[j]? = some u → u.n ≠ s) := fun j u hj hu => by
          by_cases e : j = i
          · subst e
            rw [HT.out] at hu
            rw [← Option.some.inj hu]
            exact he
          · exact HN.out j u (by omega) hu
        clear HN he
        go_wp2_with fail
        go_roundw
        case rel => exact ⟨i + 1, by omega, by go_num, trivial, HN2⟩
        case measure => simp [intOf]; omega
    · have g1 : ¬ (i : Int) < (l.length : Int) := by omega
      have HR : Hid (pli l s = -1) := by
        show _ = _
        unfold pli
        rw [plc_skip HN.out, List.drop_eq_nil_of_le (by omega)]
        rfl
      go_wp2_with fail
      go_ret
      exact ⟨by rw [HR.out]; rfl, rfl⟩
end
end Go.Proofs.YtcmfgambfgebfaaGreatDoor
