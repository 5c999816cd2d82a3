import Derived.Test.YtnkghcndaafmoaaGreatDoorJqr
import Derived.Test.YtnkghcndaafmoaaGreatDoorJqo
import Derived.Deep.QuietTactic
import Derived.Laws.StructEq
namespace Go.Proofs.YtnkghcndaafmoaaGreatDoor
section
open Go.RowKit Go

end
section
open Go.RowKit Go
def blt : List Nat → List Nat → Bool
  | x :: r, y :: q => if x = y then blt r q else decide (x < y)
  | _, _ => false
def lb (v : Int) (c h : Nat) (s : ByteArray) : List Nat := if lok ⟨v, c, h, sl s⟩ then lbytes ⟨v, c, h, sl s⟩ else []
end
section
open Go.RowKit Go
theorem sl_nstr {xs : List Nat} (h : ∀ x ∈ xs, x < 256) : sl (nstr xs) = xs := by
  have key : ∀ l : List Nat, (∀ x ∈ l, x < 256) → (nstr l).data.toList.map UInt8.toNat = l := by
    intro l hl
    simp only [nstr, strOfNums_data, List.map_map]
    conv => rhs; rw [← List.map_id l]
    apply List.map_congr_left
    intro x hx
    have := hl x hx
    simp; omega
  exact key xs h
def lof (c : Nat) (b : List Nat) : Lk × Nat := if c < 9223372036854775808 then (⟨1, c, 18, sha b⟩, 0) else (Lk.none, 40)
end
section
open Go.RowKit Go
structure Rg (tt : Nat) (B out R : List Nat) : Prop where
  e : B = out.flatMap (bitsW tt) ++ R
  o : ∀ x ∈ out, x < 2 ^ tt
  r : ∀ x ∈ R, x < 2
theorem Rg.take {tt : Nat} {B out R : List Nat} (h : Rg tt B out R) (hl : tt ≤ R.length) : Rg tt B (out ++ [valB 2 (R.take tt)]) (R.drop tt) := by
  have hl2 : (R.take tt).length = tt := by rw [List.length_take]; omega
  have hb : ∀ x ∈ R.take tt, x < 2 := fun x hx => h.r x (List.mem_of_mem_take hx)
  refine ⟨?_, ?_, fun x hx => h.r x (List.mem_of_mem_drop hx)⟩
  · have e := bitsW_valB (R.take tt) hb
    rw [hl2] at e
    rw [List.flatMap_append, List.flatMap_singleton, e, List.append_assoc, List.take_append_drop]
    exact h.e
  · intro x hx
    rcases List.mem_append.1 hx with hx | hx
    · exact h.o x hx
    · simp only [List.mem_singleton] at hx
      subst hx
      have := valB_lt (b := 2) (by decide) hb
      rwa [hl2] at this
end
section
open Go.RowKit Go
theorem nstr_sl (s : ByteArray) : nstr (sl s) = s := by
  obtain ⟨⟨l⟩⟩ := s
  have e : nstr (sl ⟨⟨l⟩⟩) = ⟨(nstr (sl ⟨⟨l⟩⟩)).data⟩ := rfl
  rw [e]
  congr 1
  apply Array.ext'
  simp only [nstr, sl, strOfNums_data, List.map_map]
  conv => rhs; rw [← List.map_id l]
  apply List.map_congr_left
  intro x _
  simp
theorem nstr_size {xs : List Nat} (h : ∀ x ∈ xs, x < 256) : (nstr xs).size = xs.length := by rw [← sl_len, sl_nstr h]
def lcs (l : Lk) : Array Value := #[.int .i64 l.v, .int .u64 (l.c : Nat), .int .u64 (l.h : Nat), .string (nstr l.d)]
structure Lkb (l : Lk) : Prop where
  c : l.c < 18446744073709551616
  h : l.h < 18446744073709551616
  d : ∀ x ∈ l.d, x < 256
  n : l.d.length ≤ 9223372036854775807
theorem Lkb.size {l : Lk} (h : Lkb l) : (nstr l.d).size = l.d.length := nstr_size h.d
theorem lk_ext {a b : Lk} : a = b ↔ a.v = b.v ∧ a.c = b.c ∧ a.h = b.h ∧ a.d = b.d := by
  constructor
  · rintro rfl
    exact ⟨rfl, rfl, rfl, rfl⟩
  · obtain ⟨_, _, _, _⟩ := a
    obtain ⟨_, _, _, _⟩ := b
    rintro ⟨h1, h2, h3, h4⟩
    simp only at h1 h2 h3 h4
    subst h1 h2 h3 h4
    rfl
instance : DecidableEq Lk := fun a b => decidable_of_iff _ (lk_ext (a := a) (b := b)).symm
theorem eqlk (w : World) {a b : Lk} (ha : ∀ x ∈ a.d, x < 256) (hb : ∀ x ∈ b.d, x < 256) : (Op.equalIn 10000 41 (.agg (lcs a)) (.agg (lcs b))).run Tryz.prog w = .ok (decide (a = b)) w := by
  have u3 := Tryz.underlying3
  have u9 := Tryz.underlying9
  have u33 := Tryz.underlying38
  have a3 := Tryz.isAgg3
  have a9 := Tryz.isAgg9
  have a33 := Tryz.isAgg38
  have z3 := Tryz.sizeOf3
  have z9 := Tryz.sizeOf9
  have z33 := Tryz.sizeOf38
  have hS : Tryz.prog.underlying 41 = some (.struct (Tryz.prog.fieldsOf 41)) := by kernel_rfl
  have hp : Tryz.prog.stoodInHeld 41 = false := by kernel_rfl
  have hs : ((nstr a.d).toList == (nstr b.d).toList) = decide (a.d = b.d) := by
    by_cases h : a.d = b.d
    · rw [h]; simp
    · rw [beq_eq_false_iff_ne.2 (fun e => h (nstr_inj ha hb e))]; simp [h]
  have hr : decide (a = b) = (decide (a.v = b.v) && (decide (a.c = b.c) && (decide (a.h = b.h) && decide (a.d = b.d)))) := by
    rw [Bool.eq_iff_iff]
    simp [lk_ext]
  rw [hr]
  unfold lcs
  rw [show (10000 : Nat) = 9999 + 1 from rfl, run_equalIn_agg w 9999 41 _ _ hS hp]
  simp only [Program.fieldsOf, Tryz.underlying41]
  go_simp
  by_cases h1 : a.v = b.v <;> by_cases h2 : a.c = b.c <;> by_cases h3 : a.h = b.h <;> by_cases h4 : a.d = b.d <;> first | (simp [h1, h2, h3, h4]; done) | (simp [h1, h2, h3, h4]; omega)

theorem eqg : Tryz.prog.eqGuardType Tryz.prog.depth 41 = false := by kernel_rfl
theorem qstep_link {C : World → Prop} {ops : Array Oper} {o : Oper} {a : Act} {K : Act → Prop} {p : Operand} (hgd : Region.wanted o (yielded ops a.tmps) = true) (ho : o.op = .load 41 p) (g : Nat) (cs : Array Value)
    (hp : a.eval p = .pointer (some ⟨g, 0, none⟩)) (hn : cs.size = 4) (hc : ∀ w, C w → w.heap[g]? = some (.cells cs 41 (0, 0)))
    (h : K (a.put o.dst (.agg cs))) : if Region.wanted o (yielded ops a.tmps) = true then o.quiet Tryz.prog a C K else K (a.put o.dst undef) := by
  rw [if_pos hgd]
  refine ⟨.agg cs, fun w hC => ?_, h⟩
  have hr : (Instr.loadAt 41 (.pointer (some ⟨g, 0, none⟩))).run Tryz.prog w = .ok (.agg cs) w := by
    simp only [Instr.loadAt, Instr.sureAddr, Sem.run_bind, Sem.run_pure, Result.andThen]
    exact run_loadVar_row (P := Tryz.prog) w g 41 41 cs (0, 0) _ (hc w hC) Tryz.underlying41 rfl (by rw [hn]; exact info61)
  unfold Oper.quietAt execOp
  simp only [ho, Sem.run_bind, hp, hr, Result.andThen_ok]
  exact ⟨rfl, rfl⟩

theorem wpList_wanted {P : Program} {ops : Array Oper} {Q : Exit → Act → World → Prop} {a : Act} {w : World} {rest : List Oper} {o : Oper} (hw : Region.wanted o (yielded ops a.tmps) = true)
    (h : ∀ K : Act → World → Prop, (∀ a w, wpList P ops Q rest a w → K a w) → o.wp P a w K Q) : wpList P ops Q (o :: rest) a w := wpList_step fun K hK => by rw [if_pos hw]; exact h K hK
theorem exec_eqlk {o : Oper} {a : Act} {x y : Operand} {T2 : TypeId} {A B : Array Value} {r : Bool} {w : World} (ho : o.op = .binOp .eql 41 x y T2) (hx : a.eval x = .agg A) (hy : a.eval y = .agg B) (he : (Op.equalIn 10000 41 (.agg A) (.agg B)).run Tryz.prog w = .ok r w) : (execOp a.eval o).run Tryz.prog w = .ok (.value (.bool r)) w := by
  unfold execOp
  simp only [ho, Sem.run_bind, hx, hy, run_eqGuard_agg w _ 41 x y A B eqg, run_eql_struct, he, Result.andThen_ok]
  rfl
theorem exec_nelk {o : Oper} {a : Act} {x y : Operand} {T2 : TypeId} {A B : Array Value} {r : Bool} {w : World} (ho : o.op = .binOp .neq 41 x y T2) (hx : a.eval x = .agg A) (hy : a.eval y = .agg B) (he : (Op.equalIn 10000 41 (.agg A) (.agg B)).run Tryz.prog w = .ok r w) : (execOp a.eval o).run Tryz.prog w = .ok (.value (.bool (!r))) w := by
  unfold execOp
  simp only [ho, Sem.run_bind, hx, hy, run_eqGuard_agg w _ 41 x y A B eqg, run_neq_struct, he, Result.andThen_ok]
  rfl
theorem qstep_eqlk {C : World → Prop} {ops : Array Oper} {o : Oper} {a : Act} {K : Act → Prop} {x y : Operand} {T2 : TypeId} (hgd : Region.wanted o (yielded ops a.tmps) = true) (ho : o.op = .binOp .eql 41 x y T2) (A B : Array Value) (r : Bool)
    (hx : a.eval x = .agg A) (hy : a.eval y = .agg B) (he : ∀ w, C w → (Op.equalIn 10000 41 (.agg A) (.agg B)).run Tryz.prog w = .ok r w)
    (h : K (a.put o.dst (.bool r))) : if Region.wanted o (yielded ops a.tmps) = true then o.quiet Tryz.prog a C K else K (a.put o.dst undef) := by
  rw [if_pos hgd]
  refine ⟨.bool r, fun w hC => ?_, h⟩
  unfold Oper.quietAt
  rw [exec_eqlk ho hx hy (he w hC)]
  exact ⟨rfl, rfl⟩
theorem wpList_eqlk {ops : Array Oper} {rest : List Oper} {o : Oper} {a : Act} {Q : Exit → Act → World → Prop} {w : World} {x y : Operand} {T2 : TypeId} (hgd : Region.wanted o (yielded ops a.tmps) = true) (ho : o.op = .binOp .eql 41 x y T2) (A B : Array Value) (r : Bool)
    (hx : a.eval x = .agg A) (hy : a.eval y = .agg B) (he : (Op.equalIn 10000 41 (.agg A) (.agg B)).run Tryz.prog w = .ok r w) (h : wpList Tryz.prog ops Q rest (a.put o.dst (.bool r)) w) : wpList Tryz.prog ops Q (o :: rest) a w := by
  refine wpList_wanted hgd fun K hK => ?_
  unfold Oper.wp
  rw [exec_eqlk ho hx hy he]
  exact hK _ _ h
set_option maxRecDepth 1000000 in
theorem old_any (w : World) (s : ByteArray) : Calls Tryz.prog 77 #[.string s] w fun e w' => e = .returned (.agg #[.int .i64 0, .int .u64 112, .int .u64 18, .string s]) ∧ Below w.heap.size w w' := by
  go_enter Tryz.func77, Tryz.ntmps77
  go_wp2_with fail
  exact bodyPost_ret (v := .agg #[.int .i64 0, .int .u64 112, .int .u64 18, .string s]) ((results_one (p := 2) (ty := 41) rfl _ _ _).trans (by go_simp; first | done | rfl)) rfl ⟨rfl, below_alloc4 w _⟩
set_option maxRecDepth 1000000 in
theorem fits4_any (w : World) (l : Lk) (hl : Lkb l) : Calls Tryz.prog 78 #[lkv l] w fun e w' => e = .returned (.bool (decide (okd l.h l.d))) ∧ Below w.heap.size w w' := by
  have hs := hl.size
  have hn := hl.n
  obtain ⟨v, c, h, d⟩ := l
  simp only at hs hn
  simp only [lkv]
  have HE : Hid (okd h d ↔ (h = 18 ∧ d.length = 32) ∨ (h = 0 ∧ d.length ≤ 64)) := Iff.rfl
  generalize hS : nstr d = S at *
  clear hS hl
  by_cases h1 : h = 18
  · subst h1
    have HR : Hid (decide (okd 18 d) = ((d.length : Int) == 32)) := by
      show _ = _
      rw [Bool.eq_iff_iff, decide_eq_true_iff, HE.out, beq_iff_eq]
      omega
    rw [HR.out]
    clear HE HR
    go_enter Tryz.func78, Tryz.ntmps78
    go_wp2_with fail
    go_ret
    exact ⟨rfl, below_alloc4 w _⟩
  · have g1 : ((h : Int) == 18) = false := beq_eq_false_iff_ne.2 (by omega)
    by_cases h2 : h = 0
    · subst h2
      have HR : Hid (decide (okd 0 d) = decide ((d.length : Int) ≤ 64)) := by
        show _ = _
        rw [Bool.eq_iff_iff, decide_eq_true_iff, HE.out, decide_eq_true_iff]
        omega
      rw [HR.out]
      clear HE HR
      go_enter Tryz.func78, Tryz.ntmps78
      go_wp2_with fail
      go_ret
      exact ⟨rfl, below_alloc4 w _⟩
    · have g2 : ((h : Int) == 0) = false := beq_eq_false_iff_ne.2 (by omega)
      have HR : Hid (decide (okd h d) = false) := by
        show _ = _
        rw [decide_eq_false_iff_not, HE.out]
        omega
      rw [HR.out]
      clear HE HR
      go_enter Tryz.func78, Tryz.ntmps78
      go_wp2_with fail
      go_ret
      exact ⟨rfl, below_alloc4 w _⟩
end
section
open Go.RowKit Go
structure GSl {α : Type} (n : Nat) (P : World → α → Array Value → Prop) (w : World) (v : Value) (xs : List α) : Prop where
  form : ∃ a cap, v = .slice a xs.length cap ∧ (xs.length ≤ cap ∧ (a = none → cap = 0)) ∧ (xs = [] ∨ ∃ b off, a = some ⟨b, off, none⟩ ∧ ∀ i x, xs[i]? = some x → ∃ c, P w x c ∧ ∀ j u, c[j]? = some u → w.cell? ⟨b, off + i * n + j, none⟩ = some u)
  max : xs.length ≤ 140737488351232
theorem GSl.move {α : Type} {n : Nat} {P : World → α → Array Value → Prop} {w w' : World} {v : Value} {xs : List α} (h : GSl n P w v xs) (hP : ∀ x c, P w x c → P w' x c) (hm : ∀ p u, w.cell? p = some u → w'.cell? p = some u) : GSl n P w' v xs := by
  obtain ⟨⟨a, cap, hv, hn, hc⟩, h1⟩ := h
  refine ⟨⟨a, cap, hv, hn, ?_⟩, h1⟩
  rcases hc with hc | ⟨b, off, ha, hc⟩
  · exact .inl hc
  · exact .inr ⟨b, off, ha, fun i x hi => by
      obtain ⟨c, h2, h3⟩ := hc i x hi
      exact ⟨c, hP x c h2, fun j u hj => hm _ _ (h3 j u hj)⟩⟩
theorem GSl.nil {α : Type} {n : Nat} {P : World → α → Array Value → Prop} {w : World} : GSl n P w (.slice none 0 0) [] := ⟨⟨none, 0, rfl, ⟨Nat.le_refl _, fun _ => rfl⟩, .inl rfl⟩, Nat.zero_le _⟩
theorem load_agg {w : World} {T n : Nat} (hi : (Tryz.prog.info? T).map (·.size) = some n) (ha : ∀ w, (isAgg T).run Tryz.prog w = .ok true w) (g o : Nat) (cs : Array Value) (hn : cs.size = n) (hc : ∀ j u, cs[j]? = some u → w.cell? ⟨g, o + j, none⟩ = some u) : (Instr.loadAt T (.pointer (some ⟨g, o, none⟩))).run Tryz.prog w = .ok (.agg cs) w := by
  have hl := run_loadCells_list (P := Tryz.prog) (w := w) ⟨g, o, none⟩ cs.toList (fun j v hv => by rw [addr_add]; exact hc j v (by simpa using hv))
  simp only [Instr.loadAt, Instr.sureAddr, Sem.run_bind, Sem.run_pure, Result.andThen]
  cases hq : Tryz.prog.info? T with
  | none => simp [hq] at hi
  | some i =>
    have hs : i.size = n := by simpa [hq] using hi
    have hn2 : cs.toList.length = n := by simpa using hn
    rw [hn2] at hl
    simp [loadVar, ha w, sizeOf, typeInfo, hq, hs, hl]
theorem wpList_aggAt {ops : Array Oper} {rest : List Oper} {o : Oper} {a : Act} {Q : Exit → Act → World → Prop} {w : World} {p : Operand} {T n : Nat} (hgd : Region.wanted o (yielded ops a.tmps) = true) (ho : o.op = .load T p) (hi : (Tryz.prog.info? T).map (·.size) = some n) (ha : ∀ w, (isAgg T).run Tryz.prog w = .ok true w) (g off : Nat) (cs : Array Value)
    (hp : a.eval p = .pointer (some ⟨g, off, none⟩)) (hn : cs.size = n) (hc : ∀ j u, cs[j]? = some u → w.cell? ⟨g, off + j, none⟩ = some u)
    (h : wpList Tryz.prog ops Q rest (a.put o.dst (.agg cs)) w) : wpList Tryz.prog ops Q (o :: rest) a w := by
  refine wpList_wanted hgd fun K hK => ?_
  unfold Oper.wp execOp
  simp only [ho, Sem.run_bind, hp, load_agg hi ha g off cs hn hc, Result.andThen_ok]
  exact hK _ _ h
theorem exec_aggAt {o : Oper} {a : Act} {p : Operand} {g off : Nat} {cs : Array Value} {w : World} {T n : Nat} (hi : (Tryz.prog.info? T).map (·.size) = some n) (ha : ∀ w, (isAgg T).run Tryz.prog w = .ok true w) (ho : o.op = .load T p) (hp : a.eval p = .pointer (some ⟨g, off, none⟩)) (hn : cs.size = n) (hc : ∀ j u, cs[j]? = some u → w.cell? ⟨g, off + j, none⟩ = some u) : (execOp a.eval o).run Tryz.prog w = .ok (.value (.agg cs)) w := by
  unfold execOp
  have hr := load_agg (w := w) hi ha g off cs hn hc
  simp only [ho, Sem.run_bind, hp, hr, Result.andThen_ok]
  rfl
end
section
open Go.RowKit Go
abbrev Blk := Lk × List Nat
def atB (L : List Blk) (l : Lk) : Option (List Nat) := (L.find? (fun p => decide (p.1 = l))).map Prod.snd
def delB (L : List Blk) (l : Lk) : List Blk := L.filter (fun p => decide (p.1 ≠ l))
def putB (L : List Blk) (l : Lk) (b : List Nat) : List Blk := (l, b) :: delB L l
def szB (L : List Blk) : Nat := (L.map (·.2.length)).sum
def ndB (L : List Blk) : Prop := (L.map Prod.fst).Nodup
theorem atB_cons (p : Blk) (L : List Blk) (l : Lk) : atB (p :: L) l = if p.1 = l then some p.2 else atB L l := by
  unfold atB
  rw [List.find?_cons]
  by_cases h : p.1 = l
  · simp [h]
  · simp [h]
theorem delB_cons (p : Blk) (L : List Blk) (l : Lk) : delB (p :: L) l = if p.1 = l then delB L l else p :: delB L l := by
  unfold delB
  rw [List.filter_cons]
  by_cases h : p.1 = l
  · simp [h]
  · simp [h]
theorem atB_del (L : List Blk) (l k : Lk) : atB (delB L l) k = if k = l then none else atB L k := by
  induction L with
  | nil => simp [delB, atB]
  | cons p L ih =>
    rw [delB_cons, atB_cons]
    by_cases h : p.1 = l
    · rw [if_pos h, ih]
      by_cases hk : k = l
      · rw [if_pos hk, if_pos hk]
      · rw [if_neg hk, if_neg hk, if_neg (fun e => hk (e.symm.trans h))]
    · rw [if_neg h, atB_cons, ih]
      by_cases hp : p.1 = k
      · rw [if_pos hp, if_pos hp, if_neg (fun e => h (hp.trans e))]
      · rw [if_neg hp, if_neg hp]
theorem atB_put (L : List Blk) (l k : Lk) (b : List Nat) : atB (putB L l b) k = if k = l then some b else atB L k := by
  unfold putB
  rw [atB_cons, atB_del]
  by_cases h : l = k
  · rw [if_pos h, if_pos h.symm]
  · rw [if_neg h, if_neg (fun e => h e.symm), if_neg (fun e => h e.symm)]
theorem atB_mem {L : List Blk} {l : Lk} {b : List Nat} (h : atB L l = some b) : (l, b) ∈ L := by
  induction L with
  | nil => cases h
  | cons p L ih =>
    rw [atB_cons] at h
    by_cases hp : p.1 = l
    · rw [if_pos hp] at h
      obtain ⟨q, y⟩ := p
      simp only at hp
      subst hp
      obtain rfl : y = b := Option.some.inj h
      exact List.mem_cons_self
    · rw [if_neg hp] at h
      exact List.mem_cons_of_mem _ (ih h)
theorem atB_none {L : List Blk} {l : Lk} : atB L l = none ↔ l ∉ L.map Prod.fst := by
  induction L with
  | nil => simp [atB]
  | cons p L ih =>
    rw [atB_cons, List.map_cons, List.mem_cons, not_or]
    by_cases hp : p.1 = l
    · rw [if_pos hp]
      simp [hp]
    · rw [if_neg hp, ih]
      exact ⟨fun h => ⟨fun e => hp e.symm, h⟩, fun h => h.2⟩
theorem mem_atB {L : List Blk} (hn : ndB L) {p : Blk} (h : p ∈ L) : atB L p.1 = some p.2 := by
  induction L with
  | nil => cases h
  | cons q L ih =>
    unfold ndB at hn
    rw [List.map_cons, List.nodup_cons] at hn
    rw [atB_cons]
    rcases List.mem_cons.1 h with rfl | h
    · rw [if_pos rfl]
    · rw [if_neg (fun e => hn.1 (by rw [e]; exact List.mem_map_of_mem h))]
      exact ih hn.2 h
theorem delB_none {L : List Blk} {l : Lk} (h : atB L l = none) : delB L l = L := by
  rw [atB_none] at h
  unfold delB
  rw [List.filter_eq_self]
  intro p hp
  rw [decide_eq_true_iff]
  intro e
  exact h (e ▸ List.mem_map_of_mem hp)
theorem ndB_del {L : List Blk} (h : ndB L) (l : Lk) : ndB (delB L l) := List.Nodup.sublist (List.Sublist.map _ List.filter_sublist) h
theorem ndB_put {L : List Blk} (h : ndB L) (l : Lk) (b : List Nat) : ndB (putB L l b) := by
  unfold ndB putB
  rw [List.map_cons, List.nodup_cons]
  refine ⟨?_, ndB_del h l⟩
  have := atB_del L l l
  rw [if_pos rfl] at this
  exact atB_none.1 this
theorem len_del {L : List Blk} (h : ndB L) (l : Lk) : (delB L l).length + (if (atB L l).isSome then 1 else 0) = L.length := by
  induction L with
  | nil => rfl
  | cons p L ih =>
    unfold ndB at h
    rw [List.map_cons, List.nodup_cons] at h
    rw [delB_cons, atB_cons]
    by_cases hp : p.1 = l
    · rw [if_pos hp, if_pos hp, delB_none (atB_none.2 (hp ▸ h.1))]
      rfl
    · rw [if_neg hp, if_neg hp]
      have := ih h.2
      simp only [List.length_cons]
      omega
theorem sz_del {L : List Blk} (h : ndB L) (l : Lk) : szB (delB L l) + ((atB L l).getD []).length = szB L := by
  induction L with
  | nil => rfl
  | cons p L ih =>
    unfold ndB at h
    rw [List.map_cons, List.nodup_cons] at h
    rw [delB_cons, atB_cons]
    by_cases hp : p.1 = l
    · rw [if_pos hp, if_pos hp, delB_none (atB_none.2 (hp ▸ h.1))]
      simp [szB]
      omega
    · rw [if_neg hp, if_neg hp]
      have := ih h.2
      simp only [szB, List.map_cons, List.sum_cons] at this ⊢
      omega
theorem len_put {L : List Blk} (h : ndB L) (l : Lk) (b : List Nat) : (putB L l b).length + (if (atB L l).isSome then 1 else 0) = L.length + 1 := by
  have := len_del h l
  simp only [putB, List.length_cons]
  omega
theorem sz_put {L : List Blk} (h : ndB L) (l : Lk) (b : List Nat) : szB (putB L l b) + ((atB L l).getD []).length = szB L + b.length := by
  have := sz_del h l
  simp only [putB, szB, List.map_cons, List.sum_cons] at this ⊢
  omega
theorem mem_del {L : List Blk} {l : Lk} {p : Blk} (h : p ∈ delB L l) : p ∈ L := (List.mem_filter.1 h).1
theorem mem_put {L : List Blk} {l : Lk} {b : List Nat} {p : Blk} (h : p ∈ putB L l b) : p = (l, b) ∨ p ∈ L := (List.mem_cons.1 h).imp id mem_del
theorem same_len {L M : List Blk} (hL : ndB L) (hM : ndB M) (h : ∀ k, atB L k = atB M k) : L.Perm M := by
  have nodup_of : ∀ {K : List Blk}, ndB K → K.Nodup := fun {K} hK => List.Pairwise.of_map Prod.fst (fun a b hne e => hne (congrArg Prod.fst e)) hK
  refine (List.perm_ext_iff_of_nodup (nodup_of hL) (nodup_of hM)).2 (fun p => ?_)
  constructor
  · intro hp
    have := mem_atB hL hp
    rw [h] at this
    exact atB_mem this
  · intro hp
    have := mem_atB hM hp
    rw [← h] at this
    exact atB_mem this
def mrg (L d : List Blk) : List Blk := d.foldr (fun x acc => putB acc x.1 x.2) L
theorem mrg_cons (L : List Blk) (x : Blk) (d : List Blk) : mrg L (x :: d) = putB (mrg L d) x.1 x.2 := rfl
theorem ndB_mrg {L : List Blk} (h : ndB L) : ∀ d, ndB (mrg L d)
  | [] => h
  | x :: d => by rw [mrg_cons]; exact ndB_put (ndB_mrg h d) _ _
theorem atB_mrg (L : List Blk) : ∀ (d : List Blk) (k : Lk), atB (mrg L d) k = (atB d k).or (atB L k)
  | [], k => by simp [mrg, atB]
  | x :: d, k => by
    rw [mrg_cons, atB_put, atB_cons, atB_mrg L d k]
    by_cases h : x.1 = k
    · rw [if_pos h.symm, if_pos h]; rfl
    · rw [if_neg (fun e => h e.symm), if_neg h]
theorem mem_mrg {L : List Blk} {p : Blk} : ∀ {d : List Blk}, p ∈ mrg L d → p ∈ d ∨ p ∈ L
  | [], h => .inr h
  | x :: d, h => by
    rw [mrg_cons] at h
    rcases mem_put h with rfl | h
    · exact .inl List.mem_cons_self
    · exact (mem_mrg h).imp (List.mem_cons_of_mem _) id
structure Dr where
  d : List Blk
  f : Nat
  g : Int
def drf (L : List Blk) : List Blk → Dr → Option Dr
  | [], s => some s
  | x :: r, s =>
    match atB s.d x.1 with
    | some b => if b = x.2 then drf L r s else none
    | none =>
      match atB L x.1 with
      | none => drf L r ⟨x :: s.d, s.f + 1, s.g + x.2.length⟩
      | some b => if b = x.2 then drf L r s else if dholds x.1.h x.1.d b then none else drf L r ⟨x :: s.d, s.f, s.g + (x.2.length - b.length)⟩
structure Drw (L : List Blk) (s : Dr) : Prop where
  nd : ndB s.d
  len : (mrg L s.d).length = L.length + s.f
  sz : (szB (mrg L s.d) : Int) = szB L + s.g
theorem Drw.start (L : List Blk) : Drw L ⟨[], 0, 0⟩ := ⟨List.nodup_nil, rfl, (Int.add_zero _).symm⟩
theorem ndB_cons {x : Blk} {d : List Blk} (h : ndB d) (hx : atB d x.1 = none) : ndB (x :: d) := by
  unfold ndB
  rw [List.map_cons, List.nodup_cons]
  exact ⟨atB_none.1 hx, h⟩
theorem Drw.step {L : List Blk} (hL : ndB L) {s : Dr} (h : Drw L s) {x : Blk} (hx : atB s.d x.1 = none) : Drw L ⟨x :: s.d, s.f + (if (atB L x.1).isSome then 0 else 1), s.g + (x.2.length - ((atB L x.1).getD []).length)⟩ := by
  have h1 := len_put (ndB_mrg hL s.d) x.1 x.2
  have h2 := sz_put (ndB_mrg hL s.d) x.1 x.2
  rw [atB_mrg, hx, Option.none_or] at h1 h2
  have h3 := h.len
  have h4 := h.sz
  refine ⟨ndB_cons h.nd hx, ?_, ?_⟩
  · rw [mrg_cons]
    split at h1
    · rename_i hh
      simp only [hh, if_true]
      omega
    · rename_i hh
      simp only [hh]
      simp only [Bool.false_eq_true, if_false]
      omega
  · rw [mrg_cons]
    simp only
    omega
end
end Go.Proofs.YtnkghcndaafmoaaGreatDoor
