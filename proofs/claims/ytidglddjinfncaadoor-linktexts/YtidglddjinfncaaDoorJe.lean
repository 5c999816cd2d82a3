import Derived.Test.YtidglddjinfncaaDoorJd
import Derived.Laws.StructEq
import Derived.Laws.ResultCell
import Derived.Laws.MakeOwn
import Derived.Lib.AppendZerosOnto
import Derived.Lib.SliceRun
namespace Go.Proofs.YtidglddjinfncaaDoor
section
open Go.RowKit Go
/-- The number that digits make, the first one the lowest. -/
def valL (b : Nat) : List Nat → Nat
  | [] => 0
  | d :: l => d + b * valL b l
theorem valL_rev (b : Nat) : ∀ l, valL b l = valB b l.reverse
  | [] => rfl
  | d :: l => by
    rw [valL, valL_rev b l, List.reverse_cons, valB_snoc, Nat.mul_comm]
    omega
theorem valL_app (b : Nat) : ∀ l m, valL b (l ++ m) = valL b l + b ^ l.length * valL b m
  | [], m => by simp [valL]
  | d :: l, m => by
    rw [List.cons_append, valL, valL_app b l m, valL, List.length_cons, Nat.pow_succ, Nat.mul_add, Nat.mul_comm (b ^ l.length) b, Nat.mul_assoc]
    omega
theorem valL_lt {b : Nat} (hb : 0 < b) {l : List Nat} (h : ∀ d ∈ l, d < b) : valL b l < b ^ l.length := by
  rw [valL_rev, ← List.length_reverse]
  exact valB_lt hb (fun d hd => h d (List.mem_reverse.1 hd))
theorem valL_digB {b : Nat} (hb : 2 ≤ b) {l : List Nat} (h : ∀ d ∈ l, d < b) (h0 : l = [] ∨ b ^ (l.length - 1) ≤ valL b l) : l.reverse = digB b (valL b l) := by
  rw [valL_rev]
  symm
  refine digB_valB hb _ _ rfl (fun d hd => h d (List.mem_reverse.1 hd)) ?_
  rcases h0 with rfl | h0
  · simp
  · intro e
    cases hl : l with
    | nil => rw [hl] at e; simp at e
    | cons x m =>
      obtain ⟨l0, d, hld⟩ : ∃ l0 d, l = l0 ++ [d] := ⟨l.dropLast, l.getLast (by rw [hl]; simp), (List.dropLast_concat_getLast (by rw [hl]; simp)).symm⟩
      rw [hld] at e h0 h
      rw [List.reverse_append] at e
      simp at e
      subst e
      rw [valL_app] at h0
      have := valL_lt (b := b) (by omega) (l := l0) (fun d hd => h d (by simp [hd]))
      simp [valL] at h0
      omega
theorem valB_zeros (b : Nat) (d : List Nat) : ∀ z, valB b (List.replicate z 0 ++ d) = valB b d
  | 0 => by simp
  | z + 1 => by rw [List.replicate_succ, List.cons_append, valB_cons, Nat.zero_mul, Nat.zero_add, valB_zeros b d z]
theorem conv_val (a b : Nat) (l : List Nat) : conv a b l = List.replicate (l.takeWhile (· == 0)).length 0 ++ digB b (valB a l) := by
  unfold conv
  congr 2
  have h := valB_zeros a (l.dropWhile (· == 0)) (l.takeWhile (· == 0)).length
  rw [← zeros_take, List.takeWhile_append_dropWhile] at h
  exact h.symm
theorem tw_snoc {b : Nat} (hb : 0 < b) (n : Nat) : ∀ p : List Nat, ((p ++ [n]).takeWhile (· == 0)).length = if valB b (p ++ [n]) = 0 then (p.takeWhile (· == 0)).length + 1 else (p.takeWhile (· == 0)).length
  | [] => by
    have e : valB b [n] = n := by rw [valB_cons]; simp [valB]
    rw [List.nil_append, e]
    by_cases h : n = 0
    · subst h
      simp
    · simp [h]
  | x :: p => by
    rw [List.cons_append, valB_cons]
    by_cases h : x = 0
    · subst h
      have ih := tw_snoc hb n p
      rw [Nat.zero_mul, Nat.zero_add]
      simp only [List.takeWhile_cons, beq_self_eq_true, if_true, List.length_cons, ih]
      split <;> rfl
    · have hp : 0 < x * b ^ (p ++ [n]).length := Nat.mul_pos (by omega) (Nat.pow_pos hb)
      rw [if_neg (by omega)]
      simp [h]

/-- What regroup has in hand: the digits told, the bits that wait. -/
structure Rg (tt : Nat) (B out R : List Nat) : Prop where
  e : B = out.flatMap (bitsW tt) ++ R
  o : ∀ x ∈ out, x < 2 ^ tt
  r : ∀ x ∈ R, x < 2
theorem Rg.start (tt : Nat) : Rg tt [] [] [] := ⟨rfl, by simp, by simp⟩
theorem Rg.more {tt f n : Nat} {B out R : List Nat} (h : Rg tt B out R) : Rg tt (B ++ bitsW f n) out (R ++ bitsW f n) :=
  ⟨by rw [h.e, List.append_assoc], h.o, fun x hx => by
    rcases List.mem_append.1 hx with hx | hx
    · exact h.r x hx
    · exact bitsW_lt f n x hx⟩
theorem Rg.take {tt : Nat} {B out R : List Nat} (h : Rg tt B out R) (hl : tt ≤ R.length) : Rg tt B (out ++ [valB 2 (R.take tt)]) (R.drop tt) := by
  have hl2 : (R.take tt).length = tt := by rw [List.length_take]; omega
  have hb : ∀ x ∈ R.take tt, x < 2 := fun x hx => h.r x (List.mem_of_mem_take hx)
  refine ⟨?_, ?_, fun x hx => h.r x (List.mem_of_mem_drop hx)⟩
  · have e := bitsW_valB (R.take tt) hb
    rw [hl2] at e
    rw [List.flatMap_append, List.flatMap_singleton, e, List.append_assoc, List.take_append_drop]
    exact h.e
  · intro x hx
    rcases List.mem_append.1 hx with hx | hx
    · exact h.o x hx
    · simp only [List.mem_singleton] at hx
      subst hx
      have := valB_lt (b := 2) (by decide) hb
      rwa [hl2] at this
theorem Rg.grp {tt : Nat} {B out R : List Nat} (h : Rg tt B out R) (hw : 0 < tt) (hl : R.length < tt) : out = grp tt B := by
  rw [h.e]
  exact (grp_bits hw hl h.o).symm
theorem rest_shift {R : List Nat} {tt : Nat} (h : ∀ x ∈ R, x < 2) : valB 2 R / 2 ^ (R.length - tt) = valB 2 (R.take tt) ∧ valB 2 R % 2 ^ (R.length - tt) = valB 2 (R.drop tt) := by
  have hd : (R.drop tt).length = R.length - tt := List.length_drop
  have hv := valB_lt (b := 2) (by decide) (l := R.drop tt) (fun x hx => h x (List.mem_of_mem_drop hx))
  have e := valB_app 2 (R.take tt) (R.drop tt)
  rw [List.take_append_drop] at e
  rw [hd] at hv e
  rw [e, Nat.mul_comm]
  exact ⟨by rw [Nat.mul_add_div (Nat.pow_pos (by decide)), Nat.div_eq_of_lt hv, Nat.add_zero], by rw [Nat.mul_add_mod, Nat.mod_eq_of_lt hv]⟩
theorem rest_more {R : List Nat} {f n : Nat} (hn : n < 2 ^ f) : valB 2 (R ++ bitsW f n) = valB 2 R * 2 ^ f + n := by
  rw [valB_app, bitsW_len, valB_bitsW, Nat.mod_eq_of_lt hn]
/-- The last digit, filled. -/
theorem encW_rg {w : Nat} (hw : 0 < w) {b out R : List Nat} (h : Rg w (b.flatMap (bitsW 8)) out R) (hl : R.length < w) : encW w b = out ++ (if R = [] then [] else [valB 2 R * 2 ^ (w - R.length)]) := by
  have hlen := congrArg List.length h.e
  rw [flat_len, List.length_append, flat_len] at hlen
  have hm : b.length * 8 % w = R.length := by rw [hlen, Nat.mul_comm, Nat.mul_add_mod, Nat.mod_eq_of_lt hl]
  have hfl : ∀ (o : List Nat) (z : List Nat), (∀ x ∈ o, x < 2 ^ w) → grp w (o.flatMap (bitsW w) ++ z) = o ++ grp w z := by
    intro o
    induction o with
    | nil => intro z _; rfl
    | cons x o ih => intro z ho; rw [List.flatMap_cons, List.append_assoc, grp_app hw (bitsW_len w x), valB_bitsW, Nat.mod_eq_of_lt (ho x (by simp)), ih z (fun y hy => ho y (List.mem_cons_of_mem _ hy)), List.cons_append]
  unfold encW
  rw [hm, h.e, List.append_assoc, hfl _ _ h.o]
  congr 1
  by_cases h0 : R = []
  · subst h0
    rw [if_pos rfl, List.length_nil, Nat.sub_zero, Nat.mod_self]
    exact grp_short (by simpa using hw)
  · have hp : 0 < R.length := List.length_pos_iff.2 h0
    rw [if_neg h0, Nat.mod_eq_of_lt (by omega)]
    have hr : (R ++ List.replicate (w - R.length) 0).length = w := by rw [List.length_append, List.length_replicate]; omega
    have e := grp_app hw hr []
    rw [List.append_nil] at e
    rw [e, grp_short (by simpa using hw), valB_app, List.length_replicate]
    congr 1
    have hz := valB_zeros 2 [] (w - R.length)
    rw [List.append_nil] at hz
    rw [hz]
    rfl
theorem valB2_zero : ∀ {R : List Nat}, (∀ x ∈ R, x < 2) → valB 2 R = 0 → R = List.replicate R.length 0
  | [], _, _ => rfl
  | x :: R, h, h0 => by
    rw [valB_cons] at h0
    have hx : x = 0 := by
      rcases Nat.eq_zero_or_pos x with e | e
      · exact e
      · have := Nat.mul_pos e (Nat.pow_pos (n := R.length) (show 0 < 2 by decide))
        omega
    subst hx
    rw [List.length_cons, List.replicate_succ, ← valB2_zero (fun y hy => h y (List.mem_cons_of_mem _ hy)) (by omega)]
/-- Digits are the digits of the bytes that they make just if no whole one is left and the bits that are left are 0. -/
theorem enc_dec {w : Nat} (hw : 0 < w) {l out R : List Nat} (hd : ∀ x ∈ l, x < 2 ^ w) (h : Rg 8 (l.flatMap (bitsW w)) out R) (hl : R.length < 8) : encW w out = l ↔ R.length < w ∧ valB 2 R = 0 := by
  have hlen := congrArg List.length h.e
  rw [flat_len, List.length_append, flat_len] at hlen
  have hp : (w - out.length * 8 % w) % w < w := Nat.mod_lt _ hw
  constructor
  · intro e
    have hd2 := congrArg (List.flatMap (bitsW w)) e
    unfold encW at hd2
    have hdiv : (out.length * 8 + (w - out.length * 8 % w) % w) % w = 0 := by
      have h1 := Nat.mod_lt (out.length * 8) hw
      by_cases h0 : out.length * 8 % w = 0
      · rw [h0, Nat.sub_zero, Nat.mod_self, Nat.add_zero]
        exact h0
      · rw [Nat.mod_eq_of_lt (a := w - out.length * 8 % w) (by omega)]
        have h2 := Nat.div_add_mod (out.length * 8) w
        have e : out.length * 8 + (w - out.length * 8 % w) = w * (out.length * 8 / w + 1) := by rw [Nat.mul_add, Nat.mul_one]; omega
        rw [e]
        exact Nat.mul_mod_right _ _
    obtain ⟨k, hk⟩ := Nat.dvd_of_mod_eq_zero hdiv
    rw [bits_grp hw k _ (by rw [List.length_append, flat_len, List.length_replicate, hk, Nat.mul_comm]) (fun d hd => by
      rcases List.mem_append.1 hd with h | h
      · exact flat_lt 8 out d h
      · have := List.eq_of_mem_replicate h
        omega), h.e] at hd2
    have hR := List.append_cancel_left hd2
    rw [← hR, List.length_replicate]
    have hz := valB_zeros 2 [] ((w - out.length * 8 % w) % w)
    rw [List.append_nil] at hz
    exact ⟨hp, hz⟩
  · rintro ⟨h1, h2⟩
    have hR := valB2_zero h.r h2
    have hpad : (w - out.length * 8 % w) % w = R.length := by
      have h3 := Nat.mod_lt (out.length * 8) hw
      have h4 := Nat.div_add_mod (out.length * 8) w
      have h5 : (out.length * 8 % w + R.length) % w = 0 := by
        have : (out.length * 8 + R.length) % w = 0 := by rw [← hlen]; exact Nat.mul_mod_left _ _
        rw [← h4, Nat.add_assoc, Nat.mul_add_mod] at this
        exact this
      generalize out.length * 8 % w = m at *
      rcases Nat.eq_zero_or_pos m with e | e
      · subst e
        rw [Nat.zero_add, Nat.mod_eq_of_lt h1] at h5
        rw [Nat.sub_zero, Nat.mod_self, h5]
      · have h6 : m + R.length < 2 * w := by omega
        have h7 : m + R.length = w := by
          rcases Nat.lt_or_ge (m + R.length) w with h | h
          · rw [Nat.mod_eq_of_lt h] at h5
            omega
          · rw [Nat.mod_eq_sub_mod h, Nat.mod_eq_of_lt (by omega)] at h5
            omega
        rw [Nat.mod_eq_of_lt (by omega)]
        omega
    unfold encW
    rw [hpad, ← hR, ← h.e]
    have := grp_bits hw (z := []) (by simpa using hw) hd
    rwa [List.append_nil] at this
end
section
open Go.RowKit Go
theorem nstr_sl (s : ByteArray) : nstr (sl s) = s := by
  obtain ⟨⟨l⟩⟩ := s
  have e : nstr (sl ⟨⟨l⟩⟩) = ⟨(nstr (sl ⟨⟨l⟩⟩)).data⟩ := rfl
  rw [e]
  congr 1
  apply Array.ext'
  simp only [nstr, sl, strOfNums_data, List.map_map]
  conv => rhs; rw [← List.map_id l]
  apply List.map_congr_left
  intro x _
  simp
theorem nstr_size {xs : List Nat} (h : ∀ x ∈ xs, x < 256) : (nstr xs).size = xs.length := by rw [← sl_len, sl_nstr h]
/-- A link's cells. -/
def lcs (l : Lk) : Array Value := #[.int .i64 l.v, .int .u64 (l.c : Nat), .int .u64 (l.h : Nat), .string (nstr l.d)]
theorem lkv_lcs (l : Lk) : lkv l = .agg (lcs l) := rfl
/-- A link that the program can hold. -/
structure Lkb (l : Lk) : Prop where
  c : l.c < 18446744073709551616
  h : l.h < 18446744073709551616
  d : ∀ x ∈ l.d, x < 256
  n : l.d.length ≤ 9223372036854775807
theorem Lkb.size {l : Lk} (h : Lkb l) : (nstr l.d).size = l.d.length := nstr_size h.d
theorem lk_ext {a b : Lk} : a = b ↔ a.v = b.v ∧ a.c = b.c ∧ a.h = b.h ∧ a.d = b.d := by
  constructor
  · rintro rfl
    exact ⟨rfl, rfl, rfl, rfl⟩
  · obtain ⟨_, _, _, _⟩ := a
    obtain ⟨_, _, _, _⟩ := b
    rintro ⟨h1, h2, h3, h4⟩
    simp only at h1 h2 h3 h4
    subst h1 h2 h3 h4
    rfl
instance : DecidableEq Lk := fun a b => decidable_of_iff _ (lk_ext (a := a) (b := b)).symm
theorem eqlk (w : World) {a b : Lk} (ha : ∀ x ∈ a.d, x < 256) (hb : ∀ x ∈ b.d, x < 256) : (Op.equalIn 10000 35 (.agg (lcs a)) (.agg (lcs b))).run Tryd.prog w = .ok (decide (a = b)) w := by
  have u3 := Tryd.underlying3
  have u9 := Tryd.underlying9
  have u33 := Tryd.underlying33
  have a3 := Tryd.isAgg3
  have a9 := Tryd.isAgg9
  have a33 := Tryd.isAgg33
  have z3 := Tryd.sizeOf3
  have z9 := Tryd.sizeOf9
  have z33 := Tryd.sizeOf33
  have hS : Tryd.prog.underlying 35 = some (.struct (Tryd.prog.fieldsOf 35)) := by kernel_rfl
  have hp : Tryd.prog.stoodInHeld 35 = false := by kernel_rfl
  have hs : ((nstr a.d).toList == (nstr b.d).toList) = decide (a.d = b.d) := by
    by_cases h : a.d = b.d
    · rw [h]; simp
    · rw [beq_eq_false_iff_ne.2 (fun e => h (nstr_inj ha hb e))]; simp [h]
  have hr : decide (a = b) = (decide (a.v = b.v) && (decide (a.c = b.c) && (decide (a.h = b.h) && decide (a.d = b.d)))) := by
    rw [Bool.eq_iff_iff]
    simp [lk_ext]
  rw [hr]
  unfold lcs
  rw [show (10000 : Nat) = 9999 + 1 from rfl, run_equalIn_agg w 9999 35 _ _ hS hp]
  simp only [Program.fieldsOf, Tryd.underlying35]
  go_simp
  by_cases h1 : a.v = b.v <;> by_cases h2 : a.c = b.c <;> by_cases h3 : a.h = b.h <;> by_cases h4 : a.d = b.d <;> first | (simp [h1, h2, h3, h4]; done) | (simp [h1, h2, h3, h4]; omega)

theorem eqg : Tryd.prog.eqGuardType Tryd.prog.depth 35 = false := by kernel_rfl
/-- A whole struct by value, as a step of a region that draws. -/
theorem qstep_link {C : World → Prop} {ops : Array Oper} {o : Oper} {a : Act} {K : Act → Prop} {p : Operand} (hgd : Region.wanted o (yielded ops a.tmps) = true) (ho : o.op = .load 35 p) (g : Nat) (cs : Array Value)
    (hp : a.eval p = .pointer (some ⟨g, 0, none⟩)) (hn : cs.size = 4) (hc : ∀ w, C w → w.heap[g]? = some (.cells cs 35 (0, 0)))
    (h : K (a.put o.dst (.agg cs))) : if Region.wanted o (yielded ops a.tmps) = true then o.quiet Tryd.prog a C K else K (a.put o.dst undef) := by
  rw [if_pos hgd]
  refine ⟨.agg cs, fun w hC => ?_, h⟩
  have hr : (Instr.loadAt 35 (.pointer (some ⟨g, 0, none⟩))).run Tryd.prog w = .ok (.agg cs) w := by
    simp only [Instr.loadAt, Instr.sureAddr, Sem.run_bind, Sem.run_pure, Result.andThen]
    exact run_loadVar_row (P := Tryd.prog) w g 35 35 cs (0, 0) _ (hc w hC) Tryd.underlying35 rfl (by rw [hn]; exact info61)
  unfold Oper.quietAt execOp
  simp only [ho, Sem.run_bind, hp, hr, Result.andThen_ok]
  exact ⟨rfl, rfl⟩

theorem wpList_wanted {P : Program} {ops : Array Oper} {Q : Exit → Act → World → Prop} {a : Act} {w : World} {rest : List Oper} {o : Oper} (hw : Region.wanted o (yielded ops a.tmps) = true)
    (h : ∀ K : Act → World → Prop, (∀ a w, wpList P ops Q rest a w → K a w) → o.wp P a w K Q) : wpList P ops Q (o :: rest) a w := wpList_step fun K hK => by rw [if_pos hw]; exact h K hK
/-- Two links held against each other. -/
theorem exec_eqlk {o : Oper} {a : Act} {x y : Operand} {T2 : TypeId} {A B : Array Value} {r : Bool} {w : World} (ho : o.op = .binOp .eql 35 x y T2) (hx : a.eval x = .agg A) (hy : a.eval y = .agg B) (he : (Op.equalIn 10000 35 (.agg A) (.agg B)).run Tryd.prog w = .ok r w) : (execOp a.eval o).run Tryd.prog w = .ok (.value (.bool r)) w := by
  unfold execOp
  simp only [ho, Sem.run_bind, hx, hy, run_eqGuard_agg w _ 35 x y A B eqg, run_eql_struct, he, Result.andThen_ok]
  rfl
theorem exec_nelk {o : Oper} {a : Act} {x y : Operand} {T2 : TypeId} {A B : Array Value} {r : Bool} {w : World} (ho : o.op = .binOp .neq 35 x y T2) (hx : a.eval x = .agg A) (hy : a.eval y = .agg B) (he : (Op.equalIn 10000 35 (.agg A) (.agg B)).run Tryd.prog w = .ok r w) : (execOp a.eval o).run Tryd.prog w = .ok (.value (.bool (!r))) w := by
  unfold execOp
  simp only [ho, Sem.run_bind, hx, hy, run_eqGuard_agg w _ 35 x y A B eqg, run_neq_struct, he, Result.andThen_ok]
  rfl
theorem qstep_eqlk {C : World → Prop} {ops : Array Oper} {o : Oper} {a : Act} {K : Act → Prop} {x y : Operand} {T2 : TypeId} (hgd : Region.wanted o (yielded ops a.tmps) = true) (ho : o.op = .binOp .eql 35 x y T2) (A B : Array Value) (r : Bool)
    (hx : a.eval x = .agg A) (hy : a.eval y = .agg B) (he : ∀ w, C w → (Op.equalIn 10000 35 (.agg A) (.agg B)).run Tryd.prog w = .ok r w)
    (h : K (a.put o.dst (.bool r))) : if Region.wanted o (yielded ops a.tmps) = true then o.quiet Tryd.prog a C K else K (a.put o.dst undef) := by
  rw [if_pos hgd]
  refine ⟨.bool r, fun w hC => ?_, h⟩
  unfold Oper.quietAt
  rw [exec_eqlk ho hx hy (he w hC)]
  exact ⟨rfl, rfl⟩
theorem wpList_eqlk {ops : Array Oper} {rest : List Oper} {o : Oper} {a : Act} {Q : Exit → Act → World → Prop} {w : World} {x y : Operand} {T2 : TypeId} (hgd : Region.wanted o (yielded ops a.tmps) = true) (ho : o.op = .binOp .eql 35 x y T2) (A B : Array Value) (r : Bool)
    (hx : a.eval x = .agg A) (hy : a.eval y = .agg B) (he : (Op.equalIn 10000 35 (.agg A) (.agg B)).run Tryd.prog w = .ok r w) (h : wpList Tryd.prog ops Q rest (a.put o.dst (.bool r)) w) : wpList Tryd.prog ops Q (o :: rest) a w := by
  refine wpList_wanted hgd fun K hK => ?_
  unfold Oper.wp
  rw [exec_eqlk ho hx hy he]
  exact hK _ _ h
theorem wpList_nelk {ops : Array Oper} {rest : List Oper} {o : Oper} {a : Act} {Q : Exit → Act → World → Prop} {w : World} {x y : Operand} {T2 : TypeId} (hgd : Region.wanted o (yielded ops a.tmps) = true) (ho : o.op = .binOp .neq 35 x y T2) (A B : Array Value) (r : Bool)
    (hx : a.eval x = .agg A) (hy : a.eval y = .agg B) (he : (Op.equalIn 10000 35 (.agg A) (.agg B)).run Tryd.prog w = .ok r w) (h : wpList Tryd.prog ops Q rest (a.put o.dst (.bool (!r))) w) : wpList Tryd.prog ops Q (o :: rest) a w := by
  refine wpList_wanted hgd fun K hK => ?_
  unfold Oper.wp
  rw [exec_nelk ho hx hy he]
  exact hK _ _ h
theorem wpList_loadLk {ops : Array Oper} {rest : List Oper} {o : Oper} {a : Act} {Q : Exit → Act → World → Prop} {w : World} {p : Operand} (hgd : Region.wanted o (yielded ops a.tmps) = true) (ho : o.op = .load 35 p) (g : Nat) (cs : Array Value)
    (hp : a.eval p = .pointer (some ⟨g, 0, none⟩)) (hn : cs.size = 4) (hg : w.heap[g]? = some (.cells cs 35 (0, 0))) (h : wpList Tryd.prog ops Q rest (a.put o.dst (.agg cs)) w) : wpList Tryd.prog ops Q (o :: rest) a w := by
  refine wpList_wanted hgd fun K hK => ?_
  unfold Oper.wp execOp
  have hr : (Instr.loadAt 35 (.pointer (some ⟨g, 0, none⟩))).run Tryd.prog w = .ok (.agg cs) w := by
    simp only [Instr.loadAt, Instr.sureAddr, Sem.run_bind, Sem.run_pure, Result.andThen]
    exact run_loadVar_row (P := Tryd.prog) w g 35 35 cs (0, 0) _ hg Tryd.underlying35 rfl (by rw [hn]; exact info61)
  simp only [ho, Sem.run_bind, hp, hr, Result.andThen_ok]
  exact hK _ _ h

set_option maxRecDepth 1000000 in
theorem old_any (w : World) (s : ByteArray) : Calls Tryd.prog 53 #[.string s] w fun e w' => e = .returned (.agg #[.int .i64 0, .int .u64 112, .int .u64 18, .string s]) ∧ Below w.heap.size w w' := by
  go_enter Tryd.func53, Tryd.ntmps53
  go_wp2_with fail
  exact bodyPost_ret (v := .agg #[.int .i64 0, .int .u64 112, .int .u64 18, .string s]) ((results_one (p := 2) (ty := 35) rfl _ _ _).trans (by go_simp; first | done | rfl)) rfl ⟨rfl, below_alloc4 w _⟩
set_option maxRecDepth 1000000 in
theorem fits4_any (w : World) (l : Lk) (hl : Lkb l) : Calls Tryd.prog 54 #[lkv l] w fun e w' => e = .returned (.bool (decide (okd l.h l.d))) ∧ Below w.heap.size w w' := by
  have hs := hl.size
  have hn := hl.n
  obtain ⟨v, c, h, d⟩ := l
  simp only at hs hn
  simp only [lkv]
  have HE : Hid (okd h d ↔ (h = 18 ∧ d.length = 32) ∨ (h = 0 ∧ d.length ≤ 64)) := Iff.rfl
  generalize hS : nstr d = S at *
  clear hS hl
  by_cases h1 : h = 18
  · subst h1
    have HR : Hid (decide (okd 18 d) = ((d.length : Int) == 32)) := by
      show _ = _
      rw [Bool.eq_iff_iff, decide_eq_true_iff, HE.out, beq_iff_eq]
      omega
    rw [HR.out]
    clear HE HR
    go_enter Tryd.func54, Tryd.ntmps54
    go_wp2_with fail
    go_ret
    exact ⟨rfl, below_alloc4 w _⟩
  · have g1 : ((h : Int) == 18) = false := beq_eq_false_iff_ne.2 (by omega)
    by_cases h2 : h = 0
    · subst h2
      have HR : Hid (decide (okd 0 d) = decide ((d.length : Int) ≤ 64)) := by
        show _ = _
        rw [Bool.eq_iff_iff, decide_eq_true_iff, HE.out, decide_eq_true_iff]
        omega
      rw [HR.out]
      clear HE HR
      go_enter Tryd.func54, Tryd.ntmps54
      go_wp2_with fail
      go_ret
      exact ⟨rfl, below_alloc4 w _⟩
    · have g2 : ((h : Int) == 0) = false := beq_eq_false_iff_ne.2 (by omega)
      have HR : Hid (decide (okd h d) = false) := by
        show _ = _
        rw [decide_eq_false_iff_not, HE.out]
        omega
      rw [HR.out]
      clear HE HR
      go_enter Tryd.func54, Tryd.ntmps54
      go_wp2_with fail
      go_ret
      exact ⟨rfl, below_alloc4 w _⟩
end
section
open Go.RowKit Go
set_option maxRecDepth 1000000 in
set_option maxHeartbeats 1000000 in
theorem check_any (w : World) (l : Lk) (hl : Lkb l) : Calls Tryd.prog 26 #[lkv l] w fun e w' => e = .returned (.int .i64 (if lok l then 0 else 40)) ∧ Below w.heap.size w w' := by
  generalize hR : (if lok l then (0 : Int) else 40) = R
  have HR := hide hR
  clear hR
  have HL := hide hl
  have HLO : Hid (∀ x ∈ (⟨0, 112, 18, l.d⟩ : Lk).d, x < 256) := hl.d
  have HOL : Hid (lcs ⟨0, 112, 18, l.d⟩ = #[.int .i64 0, .int .u64 112, .int .u64 18, .string (nstr l.d)]) := rfl
  have HT : Hid ((w.alloc (.cells #[.int .i64 l.v, .int .u64 (l.c : Nat), .int .u64 (l.h : Nat), .string (nstr l.d)] 35)).heap[w.heap.size]? = some (.cells (lcs l) 35 (0, 0))) := heap_alloc_new w _
  have HB := hide (below_alloc4 w (.cells #[.int .i64 l.v, .int .u64 (l.c : Nat), .int .u64 (l.h : Nat), .string (nstr l.d)] 35))
  simp only [lkv]
  go_enter Tryd.func26, Tryd.ntmps26
  go_wp2_with fail
  generalize w.alloc (.cells #[.int .i64 l.v, .int .u64 (l.c : Nat), .int .u64 (l.h : Nat), .string (nstr l.d)] 35) = w0 at *
  go_cut [3] (fun c wx => c = .bool (decide (l = ⟨0, 112, 18, l.d⟩) && decide (okd l.h l.d)) ∧ Hid (Below w0.heap.size w0 wx))
  case first => as_aux_lemma =>
    have q3 : ∀ t : Ext w0, t.w'.cell? ⟨w.heap.size, 3, none⟩ = some (.string (nstr l.d)) := fun t => Ext.cell (blk_cell HT.out rfl) t
    have HQ : Hid (∀ wx, (∃ t : Ext w0, wx = t.w') → wx.heap[w.heap.size]? = some (.cells (lcs l) 35 (0, 0))) := by
      rintro _ ⟨t, rfl⟩
      exact (t.h.block _ (blk_lt HT.out)).trans HT.out
    have HCO : Hid (∀ t : Ext w0, Calls Tryd.prog 53 #[.string (nstr l.d)] t.w' fun e w'' => e = .returned (.agg (lcs ⟨0, 112, 18, l.d⟩)) ∧ ∃ t' : Ext w0, w'' = t'.w') := fun t => Calls.ext_below (old_any t.w' (nstr l.d))
    have HCF : Hid (∀ t : Ext w0, Calls Tryd.prog 54 #[.agg (lcs l)] t.w' fun e w'' => e = .returned (.bool (decide (okd l.h l.d))) ∧ ∃ t' : Ext w0, w'' = t'.w') := fun t => Calls.ext_below (fits4_any t.w' l HL.out)
    have HEQ : Hid (∀ wx, (∃ t : Ext w0, wx = t.w') → (Op.equalIn 10000 35 (.agg (lcs l)) (.agg (lcs ⟨0, 112, 18, l.d⟩))).run Tryd.prog wx = .ok (decide (l = ⟨0, 112, 18, l.d⟩)) wx) := fun wx _ => eqlk wx HL.out.d HLO.out
    generalize hbb : decide (l = ⟨0, 112, 18, l.d⟩) = bb at *
    generalize lcs ⟨0, 112, 18, l.d⟩ = ol at *
    have HCN : Hid ((lcs l).size = 4) := rfl
    generalize lcs l = cl at *
    clear hbb
    cases bb
    · refine region_ext (by kernel_rfl) (by kernel_rfl) ?_
      repeat (
        refine wpQuiet_step (fun K hK => ?_)
        first
          | (refine qstep_link rfl rfl w.heap.size cl rfl HCN.out HQ.out (hK _ ?_); clear hK K)
          | (refine qstep_eqlk rfl rfl cl ol false rfl rfl HEQ.out (hK _ ?_); clear hK K)
          | (go_simp
             first
               | (refine hK _ ?_; clear hK K)
               | (apply Exists.intro
                  refine ⟨fun _ => ?_, hK _ ?_⟩
                  (first
                    | (go_at_call 53; exact HCO.out _)
                    | (go_at_call 54; exact HCF.out _))
                  clear hK K)))
      refine wpQuiet_nil ?_
      rintro _ ⟨tq, rfl⟩
      go_wp2_with fail
      go_meet
      case rel => exact ⟨rfl, tq.h⟩
    · refine region_ext (by kernel_rfl) (by kernel_rfl) ?_
      repeat (
        refine wpQuiet_step (fun K hK => ?_)
        first
          | (refine qstep_link rfl rfl w.heap.size cl rfl HCN.out HQ.out (hK _ ?_); clear hK K)
          | (refine qstep_eqlk rfl rfl cl ol true rfl rfl HEQ.out (hK _ ?_); clear hK K)
          | (go_simp
             first
               | (refine hK _ ?_; clear hK K)
               | (apply Exists.intro
                  refine ⟨fun _ => ?_, hK _ ?_⟩
                  (first
                    | (go_at_call 53; exact HCO.out _)
                    | (go_at_call 54; exact HCF.out _))
                  clear hK K)))
      refine wpQuiet_nil ?_
      rintro _ ⟨tq, rfl⟩
      go_wp2_with fail
      go_meet
      case rel => exact ⟨rfl, tq.h⟩
  case rest => as_aux_lemma =>
    obtain ⟨rfl, hb1⟩ := hcut
    have HT1 : Hid (wc.heap[w.heap.size]? = some (.cells (lcs l) 35 (0, 0))) := (hb1.out.block _ (blk_lt HT.out)).trans HT.out
    have HB1 : Hid (Below w.heap.size w wc) := HB.out.trans (hb1.out.mono HB.out.size)
    have HK : Hid (lok l ↔ (l = ⟨0, 112, 18, l.d⟩ ∧ okd l.h l.d) ∨ (l.v = 1 ∧ l.c < 9223372036854775808 ∧ okd l.h l.d)) := by
      show _ ↔ _
      unfold lok
      rw [lk_ext]
      constructor
      · rintro (⟨h1, h2, h3, h4⟩ | h)
        · exact .inl ⟨⟨h1, h2, h3, rfl⟩, .inl ⟨h3, h4⟩⟩
        · exact .inr h
      · rintro (⟨⟨h1, h2, h3, _⟩, h | h⟩ | h)
        · exact .inl ⟨h1, h2, h3, h.2⟩
        · simp only at h1 h2 h3
          omega
        · exact .inr h
    clear hb1 HT HB HOL HLO
    by_cases hc1 : l = ⟨0, 112, 18, l.d⟩ ∧ okd l.h l.d
    · as_aux_lemma =>
      have e1 : (decide (l = ⟨0, 112, 18, l.d⟩) && decide (okd l.h l.d)) = true := by rw [decide_eq_true hc1.1, decide_eq_true hc1.2]; rfl
      have HZ : Hid (R = 0) := by show _ = _; rw [← HR.out, if_pos (HK.out.2 (.inl hc1))]
      rw [e1]
      clear e1 hc1 HR HK
      go_wp2_with fail
      go_ret
      exact ⟨by rw [HZ.out]; rfl, HB1.out⟩
    · have e1 : (decide (l = ⟨0, 112, 18, l.d⟩) && decide (okd l.h l.d)) = false := by
        rw [Bool.and_eq_false_iff, decide_eq_false_iff_not, decide_eq_false_iff_not]
        exact Decidable.not_and_iff_or_not.1 hc1
      rw [e1]
      have HE : Hid (lok l ↔ (l.v = 1 ∧ l.c < 9223372036854775808 ∧ okd l.h l.d)) := HK.out.trans ⟨fun h => h.resolve_left hc1, .inr⟩
      have q0 : wc.cell? ⟨w.heap.size, 0, none⟩ = some (.int .i64 l.v) := blk_cell HT1.out rfl
      have q1 : wc.cell? ⟨w.heap.size, 1, none⟩ = some (.int .u64 (l.c : Nat)) := blk_cell HT1.out rfl
      have q2 : wc.cell? ⟨w.heap.size, 2, none⟩ = some (.int .u64 (l.h : Nat)) := blk_cell HT1.out rfl
      have q3 : wc.cell? ⟨w.heap.size, 3, none⟩ = some (.string (nstr l.d)) := blk_cell HT1.out rfl
      have HF := hide (fits4_any wc l HL.out)
      simp only [lkv] at HF
      have HCL := hide HL.out.c
      clear e1 hc1 HK HL hl HT1
      generalize nstr l.d = S at *
      obtain ⟨v, c, h, d⟩ := l
      simp only at *
      by_cases hv : v = 1
      · subst hv
        generalize hn : (c : Int) = n at *
        have HN := hide hn
        clear hn
        by_cases hc63 : n < 9223372036854775808
        · as_aux_lemma =>
          have HZ : Hid (R = if okd h d then 0 else 40) := by
            show _ = _
            rw [← HR.out]
            have := HN.out
            by_cases hk : okd h d
            · rw [if_pos hk, if_pos (HE.out.2 ⟨rfl, by omega, hk⟩)]
            · rw [if_neg hk, if_neg (fun e => hk (HE.out.1 e).2.2)]
          clear HE HR HN
          go_wp2_with fail
          refine HF.out.mono ?_
          rintro e w2 ⟨rfl, hb2⟩
          have HB2 : Hid (Below w.heap.size w w2) := HB1.out.trans (hb2.mono HB1.out.size)
          clear hb2 HF
          by_cases hk : okd h d
          · rw [decide_eq_true hk]
            rw [if_pos hk] at HZ
            go_wp2_with fail
            go_ret
            exact ⟨by rw [HZ.out]; rfl, HB2.out⟩
          · rw [decide_eq_false hk]
            rw [if_neg hk] at HZ
            go_wp2_with fail
            go_ret
            exact ⟨by rw [HZ.out]; rfl, HB2.out⟩
        · as_aux_lemma =>
          have g2' : (9223372036854775808 : Int) ≤ n := by omega
          have HZ : Hid (R = 40) := by show _ = _; rw [← HR.out, if_neg (fun e => hc63 (by have := (HE.out.1 e).2.1; have := HN.out; omega))]
          clear HE HR HN hc63
          go_wp2_with fail
          go_ret
          exact ⟨by rw [HZ.out]; rfl, HB1.out⟩
      · as_aux_lemma =>
        have g1 : (v == 1) = false := beq_eq_false_iff_ne.2 hv
        have HZ : Hid (R = 40) := by show _ = _; rw [← HR.out, if_neg (fun e => hv (HE.out.1 e).1)]
        clear HE HR hv
        go_wp2_with fail
        go_ret
        exact ⟨by rw [HZ.out]; rfl, HB1.out⟩
end
section
open Go.RowKit Go
/-- How a function ends whose first result is a struct. -/
theorem end_c2 {fn : Func} {p q : Tmp} {T : TypeId} {fs : Array Field} {wx : World} {R : Nat} {cs : Array Value} {x : Value} {tmps : Array Value} (hf : fn.results = #[.cell p T, .tmp q]) (hu : Tryd.prog.underlying T = some (.struct fs)) {n : Nat} (hi : (Tryd.prog.info? T).map (·.size) = some n) (hn : cs.size = n)
    (hr : wx.heap[R]? = some (.cells cs T (0, 0))) (hp : tmps.getD p undef = .pointer (some ⟨R, 0, none⟩)) (hx : tmps.getD q undef = x) : (results fn tmps).run Tryd.prog wx = .ok (.tuple #[.agg cs, x]) wx := by
  refine (results_cell_tmp hf _ _ _).trans ?_
  rw [hp, hx]
  have h1 := run_loadVar_row (P := Tryd.prog) wx R T T cs (0, 0) _ hr hu rfl (by rw [hn]; exact hi)
  simp [asAddr, h1, Result.andThen]
theorem end_c3 {fn : Func} {p q s : Tmp} {T : TypeId} {fs : Array Field} {wx : World} {R : Nat} {cs : Array Value} {x y : Value} {tmps : Array Value} (hf : fn.results = #[.cell p T, .tmp q, .tmp s]) (hu : Tryd.prog.underlying T = some (.struct fs)) {n : Nat} (hi : (Tryd.prog.info? T).map (·.size) = some n) (hn : cs.size = n)
    (hr : wx.heap[R]? = some (.cells cs T (0, 0))) (hp : tmps.getD p undef = .pointer (some ⟨R, 0, none⟩)) (hx : tmps.getD q undef = x) (hy : tmps.getD s undef = y) : (results fn tmps).run Tryd.prog wx = .ok (.tuple #[.agg cs, x, y]) wx := by
  refine (results_c3 hf _ _ _).trans ?_
  rw [hp, hx, hy]
  have h1 := run_loadVar_row (P := Tryd.prog) wx R T T cs (0, 0) _ hr hu rfl (by rw [hn]; exact hi)
  simp [asAddr, h1, Result.andThen]
/-- A whole link is laid. -/
theorem wpList_storeLk {ops : Array Oper} {rest : List Oper} {o : Oper} {a : Act} {Q : Exit → Act → World → Prop} {w : World} {p x : Operand} (hgd : o.guard = none) (ho : o.op = .store 35 p x) (g : Nat) (old : Array Value) (l : Lk)
    (hp : a.eval p = .pointer (some ⟨g, 0, none⟩)) (hx : a.eval x = .agg (lcs l)) (hn : old.size = 4) (hg : w.heap[g]? = some (.cells old 35 (0, 0))) (h : wpList Tryd.prog ops Q rest (a.put o.dst undef) (w.setRow g (lcs l))) : wpList Tryd.prog ops Q (o :: rest) a w :=
  wpList_storeRow hgd ho g old (lcs l) 35 hp hx hg info61 (by rw [hn]; rfl) (by kernel_rfl) h
end
section
open Go.RowKit Go
/-- The digits as a string. -/
def s16 : ByteArray := ⟨#[48, 49, 50, 51, 52, 53, 54, 55, 56, 57, 97, 98, 99, 100, 101, 102]⟩
def s32 : ByteArray := ⟨#[97, 98, 99, 100, 101, 102, 103, 104, 105, 106, 107, 108, 109, 110, 111, 112, 113, 114, 115, 116, 117, 118, 119, 120, 121, 122, 50, 51, 52, 53, 54, 55]⟩
def s58 : ByteArray := ⟨#[49, 50, 51, 52, 53, 54, 55, 56, 57, 65, 66, 67, 68, 69, 70, 71, 72, 74, 75, 76, 77, 78, 80, 81, 82, 83, 84, 85, 86, 87, 88, 89, 90, 97, 98, 99, 100, 101, 102, 103, 104, 105, 106, 107, 109, 110, 111, 112, 113, 114, 115, 116, 117, 118, 119, 120, 121, 122]⟩
theorem sl16 : sl s16 = d16 := by decide
theorem sl32 : sl s32 = d32 := by decide
theorem sl58 : sl s58 = d58 := by decide
/-- A base of the landed code. -/
structure Bs where
  l : ByteArray
  t : ByteArray
  n : Nat
def Bs.cs (b : Bs) : Array Value := #[.string b.l, .string b.t, .int .i64 (b.n : Nat)]
def b16 : Bs := ⟨⟨#[102]⟩, s16, 4⟩
def b32 : Bs := ⟨⟨#[98]⟩, s32, 5⟩
def b58 : Bs := ⟨⟨#[122]⟩, s58, 0⟩
def b0 : Bs := ⟨⟨#[]⟩, ⟨#[]⟩, 0⟩
def bof (n : Int) : Bs := if n = 1 then b16 else if n = 2 then b32 else if n = 3 then b58 else b0
theorem infoB : (Tryd.prog.info? 62).map (·.size) = some 3 := by kernel_rfl
theorem wpList_storeB {ops : Array Oper} {rest : List Oper} {o : Oper} {a : Act} {Q : Exit → Act → World → Prop} {w : World} {p x : Operand} (hgd : o.guard = none) (ho : o.op = .store 62 p x) (g : Nat) (old : Array Value) (b : Bs)
    (hp : a.eval p = .pointer (some ⟨g, 0, none⟩)) (hx : a.eval x = .agg b.cs) (hn : old.size = 3) (hg : w.heap[g]? = some (.cells old 62 (0, 0))) (h : wpList Tryd.prog ops Q rest (a.put o.dst undef) (w.setRow g b.cs)) : wpList Tryd.prog ops Q (o :: rest) a w :=
  wpList_storeRow hgd ho g old b.cs 62 hp hx hg infoB (by rw [hn]; rfl) (by kernel_rfl) h
theorem wpList_loadB {ops : Array Oper} {rest : List Oper} {o : Oper} {a : Act} {Q : Exit → Act → World → Prop} {w : World} {p : Operand} (hgd : Region.wanted o (yielded ops a.tmps) = true) (ho : o.op = .load 62 p) (g : Nat) (cs : Array Value)
    (hp : a.eval p = .pointer (some ⟨g, 0, none⟩)) (hn : cs.size = 3) (hg : w.heap[g]? = some (.cells cs 62 (0, 0))) (h : wpList Tryd.prog ops Q rest (a.put o.dst (.agg cs)) w) : wpList Tryd.prog ops Q (o :: rest) a w := by
  refine wpList_wanted hgd fun K hK => ?_
  unfold Oper.wp execOp
  have hr : (Instr.loadAt 62 (.pointer (some ⟨g, 0, none⟩))).run Tryd.prog w = .ok (.agg cs) w := by
    simp only [Instr.loadAt, Instr.sureAddr, Sem.run_bind, Sem.run_pure, Result.andThen]
    exact run_loadVar_row (P := Tryd.prog) w g 62 62 cs (0, 0) _ hg Tryd.underlying62 rfl (by rw [hn]; exact infoB)
  simp only [ho, Sem.run_bind, hp, hr, Result.andThen_ok]
  exact hK _ _ h
set_option maxRecDepth 1000000 in
set_option maxHeartbeats 1000000 in
theorem baseOf_any (w : World) (n : Int) : Calls Tryd.prog 33 #[.int .i64 n] w fun e w' => e = .returned (.tuple #[.agg (bof n).cs, .bool (decide (n = 1 ∨ n = 2 ∨ n = 3))]) ∧ Below w.heap.size w w' := by
  have HR0 : Hid ((w.alloc (.cells #[.string ⟨#[]⟩, .string ⟨#[]⟩, .int .i64 0] 62)).heap[w.heap.size]? = some (.cells b0.cs 62 (0, 0))) := heap_alloc_new w _
  have HB0 := hide (below_alloc4 w (.cells #[.string ⟨#[]⟩, .string ⟨#[]⟩, .int .i64 0] 62))
  have HBW : Hid (∀ cs, Below w.heap.size w ((w.alloc (.cells #[.string ⟨#[]⟩, .string ⟨#[]⟩, .int .i64 0] 62)).setRow w.heap.size cs)) := fun cs => HB0.out.trans ((row_kp _ _ _).below HB0.out.size (fun q e => by omega))
  by_cases h1 : n = 1
  · subst h1
    go_enter Tryd.func33, Tryd.ntmps33
    go_wp2_with (refine wpList_storeB rfl rfl w.heap.size b0.cs b16 rfl rfl rfl HR0.out ?_)
    exact bodyPost_ret (end_c2 rfl Tryd.underlying62 infoB rfl (row_same HR0.out) rfl rfl) rfl ⟨rfl, HBW.out _⟩
  · have g1 : (n == 1) = false := beq_eq_false_iff_ne.2 h1
    by_cases h2 : n = 2
    · subst h2
      go_enter Tryd.func33, Tryd.ntmps33
      go_wp2_with (refine wpList_storeB rfl rfl w.heap.size b0.cs b32 rfl rfl rfl HR0.out ?_)
      exact bodyPost_ret (end_c2 rfl Tryd.underlying62 infoB rfl (row_same HR0.out) rfl rfl) rfl ⟨rfl, HBW.out _⟩
    · have g2 : (n == 2) = false := beq_eq_false_iff_ne.2 h2
      by_cases h3 : n = 3
      · subst h3
        go_enter Tryd.func33, Tryd.ntmps33
        go_wp2_with (refine wpList_storeB rfl rfl w.heap.size b0.cs b58 rfl rfl rfl HR0.out ?_)
        exact bodyPost_ret (end_c2 rfl Tryd.underlying62 infoB rfl (row_same HR0.out) rfl rfl) rfl ⟨rfl, HBW.out _⟩
      · have g3 : (n == 3) = false := beq_eq_false_iff_ne.2 h3
        have HE : Hid (bof n = b0 ∧ decide (n = 1 ∨ n = 2 ∨ n = 3) = false) := by
          refine ⟨?_, decide_eq_false (by omega)⟩
          unfold bof
          rw [if_neg h1, if_neg h2, if_neg h3]
        rw [HE.out.1, HE.out.2]
        clear h1 h2 h3
        go_enter Tryd.func33, Tryd.ntmps33
        go_wp2_with (refine wpList_storeB rfl rfl w.heap.size b0.cs b0 rfl rfl rfl HR0.out ?_)
        exact bodyPost_ret (end_c2 rfl Tryd.underlying62 infoB rfl (row_same HR0.out) rfl rfl) rfl ⟨rfl, HBW.out _⟩
end
section
open Go.RowKit Go
/-- Which digit each byte is, counted from 1, by the first k digits. -/
def plt (t : List Nat) : Nat → List Nat
  | 0 => List.replicate 256 0
  | k + 1 => (plt t k).set (t.getD k 0) (k + 1)
theorem plt_len (t : List Nat) : ∀ k, (plt t k).length = 256
  | 0 => List.length_replicate
  | k + 1 => by rw [plt, List.length_set, plt_len t k]
theorem bv_set (l : List Nat) (i x : Nat) : (bv l).toArray.setIfInBounds i (.int .u8 ((x : Nat) : Int)) = (bv (l.set i x)).toArray := by
  simp [bv, List.map_set]
theorem zero256 : Tryd.zeroCells110 = (bv (List.replicate 256 0)).toArray := by kernel_rfl
theorem info256 : (Tryd.prog.info? 110).map (·.size) = some 256 := by kernel_rfl
/-- How a function ends whose result is an array. -/
theorem end_a1 {fn : Func} {p : Tmp} {T e : TypeId} {m n : Nat} {wx : World} {R : Nat} {cs : Array Value} {tmps : Array Value} (hf : fn.results = #[.cell p T]) (hu : Tryd.prog.underlying T = some (.array m e)) (hi : (Tryd.prog.info? T).map (·.size) = some n) (hn : cs.size = n)
    (hr : wx.heap[R]? = some (.cells cs T (0, 0))) (hp : tmps.getD p undef = .pointer (some ⟨R, 0, none⟩)) : (results fn tmps).run Tryd.prog wx = .ok (.agg cs) wx := by
  refine (results_one hf _ _ _).trans ?_
  rw [hp]
  have h1 := run_loadVar_row (P := Tryd.prog) wx R T T cs (0, 0) _ hr hu rfl (by rw [hn]; exact hi)
  simp [asAddr, h1, Result.andThen]
theorem sl_at (D : ByteArray) (k : Nat) (h : k < D.size) : (sl D).getD k 0 = D[k].toNat := by
  rw [sl_get]
  congr 1
  have h2 : k < D.data.toList.length := by rw [Array.length_toList]; exact h
  rw [List.getD_eq_getElem?_getD, List.getElem?_eq_getElem h2]
  rfl
/-- What places has in hand. -/
structure Plw (w wx : World) (L D : ByteArray) (n : Int) (k : Nat) : Prop where
  r : wx.heap[w.heap.size]? = some (.cells #[.string L, .string D, .int .i64 n] 62 (0, 0))
  z : wx.heap[w.heap.size + 1]? = some (.cells (bv (List.replicate 256 0)).toArray 110 (0, 0))
  o : wx.heap[w.heap.size + 1 + 1]? = some (.cells (bv (plt (sl D) k)).toArray 110 (0, 0))
  b : Below w.heap.size w wx
set_option maxRecDepth 1000000 in
set_option maxHeartbeats 1000000 in
theorem places_any (w : World) (L D : ByteArray) (n : Int) (hD : D.size ≤ 58) :
    Calls Tryd.prog 79 #[.agg #[.string L, .string D, .int .i64 n]] w fun e w' => e = .returned (.agg (bv (plt (sl D) D.size)).toArray) ∧ Below w.heap.size w w' := by
  have HP : Hid (Plw w (((w.alloc (.cells #[.string L, .string D, .int .i64 n] 62)).alloc (.cells Tryd.zeroCells110 110)).alloc (.cells Tryd.zeroCells110 110)) L D n 0) := by
    rw [zero256]
    refine ⟨blk_alloc _ (blk_alloc _ (heap_alloc_new w _)), blk_alloc _ (alloc2_new w _ _), ?_, (below_alloc4 w _).trans (((below_alloc4 _ _).trans ((below_alloc4 _ _).mono (by simp))).mono (by simp))⟩
    have h := heap_alloc_new ((w.alloc (.cells #[.string L, .string D, .int .i64 n] 62)).alloc (.cells (bv (List.replicate 256 0)).toArray 110)) (.cells (bv (List.replicate 256 0)).toArray 110)
    have e : ((w.alloc (.cells #[.string L, .string D, .int .i64 n] 62)).alloc (.cells (bv (List.replicate 256 0)).toArray 110)).heap.size = w.heap.size + 1 + 1 := by simp
    rw [e] at h
    exact h
  go_enter Tryd.func79, Tryd.ntmps79
  go_wp2_with fail
  generalize ((w.alloc (.cells #[.string L, .string D, .int .i64 n] 62)).alloc (.cells Tryd.zeroCells110 110)).alloc (.cells Tryd.zeroCells110 110) = w0 at *
  go_loopw [8] (fun ii wx => ∃ k : Nat, k ≤ D.size ∧ ii = .int .i64 (k : Nat) ∧ Hid (Plw w wx L D n k)) (fun ii _ => D.size - (intOf ii).toNat)
  case atStart => exact ⟨0, by omega, rfl, HP⟩
  case round =>
    obtain ⟨k, hk, rfl, HI⟩ := hrel
    clear HP
    by_cases hlt : k < D.size
    · have g1 : (k : Int) < (D.size : Int) := by omega
      have q1 : wr.cell? ⟨w.heap.size, 1, none⟩ = some (.string D) := blk_cell HI.out.r rfl
      have HK := hide hk
      have HX := hide (sl_at D k hlt)
      have hx256 : (D[k].toNat : Int) < 256 := by have := (D[k]).toNat_lt; omega
      have HX2 : Hid (D[k].toNat < 256) := (D[k]).toNat_lt
      have q2 : wr.cell? ⟨w.heap.size + 1 + 1, D[k].toNat, none⟩ = some (.int .u8 (((plt (sl D) k).getD D[k].toNat 0 : Nat) : Int)) := blk_cell HI.out.o (by rw [List.getElem?_toArray]; exact bv_get (by rw [plt_len]; exact HX2.out))
      have f2 : wr.frozen? ⟨w.heap.size + 1 + 1, D[k].toNat, none⟩ = false := blk_frozen _ HI.out.o
      have HS : Hid (Plw w (wr.setCell ⟨w.heap.size + 1 + 1, D[k].toNat, none⟩ (.int .u8 ((k + 1 : Nat) : Int))) L D n (k + 1)) := by
        have hk2 : Kp (fun q => q = w.heap.size + 1 + 1) wr (wr.setCell ⟨w.heap.size + 1 + 1, D[k].toNat, none⟩ (.int .u8 ((k + 1 : Nat) : Int))) := (Kp.refl _ _).setCell _ _ (fun _ => rfl)
        refine ⟨(hk2.block _ (blk_lt HI.out.r) (by omega)).trans HI.out.r, (hk2.block _ (blk_lt HI.out.z) (by omega)).trans HI.out.z, ?_, HI.out.b.trans (hk2.below HI.out.b.size (fun q e => by omega))⟩
        rw [plt, HX.out, ← bv_set]
        exact blk_set _ _ HI.out.o
      have hk58 : (k : Int) + 1 < 256 := by omega
      have HKE : Hid (((k + 1 : Nat) : Int) = (k : Int) + 1) := by show _ = _; omega
      rw [HKE.out] at HS
      clear hk HI HX HX2 hD
      go_wp2_with fail
      go_roundw
      case rel => exact ⟨k + 1, by omega, by go_num, HS⟩
      case measure => simp [intOf]; omega
    · have hkd : k = D.size := by omega
      have g1 : ¬ (k : Int) < (D.size : Int) := by omega
      have HO := hide HI.out.o
      have HZ := hide HI.out.z
      have HB := hide HI.out.b
      have H56 : Hid ((bv (plt (sl D) k)).toArray.size = 256) := by show _ = _; rw [List.size_toArray, bv_len, plt_len]
      have HI6 : Hid ((Tryd.prog.info? 110).map (·.size) = some (bv (plt (sl D) k)).toArray.size) := by show _ = _; rw [H56.out]; exact info256
      have HON : Hid ((bv (plt (sl D) k)).toArray.all (·.oneCell') = true) := by
        show _ = _
        rw [List.all_toArray, List.all_eq_true]
        exact bv_one _
      have HDK : Hid (k = D.size) := hkd
      clear hk hkd HI hlt
      go_wp2_with (first
        | (refine wpList_loadRow rfl rfl (w.heap.size + 1 + 1) 256 (bv (plt (sl D) k)).toArray 110 rfl HO.out Tryd.underlying110 HI6.out ?_)
        | (refine wpList_storeRow rfl rfl (w.heap.size + 1) _ (bv (plt (sl D) k)).toArray 110 rfl rfl HZ.out HI6.out (by rw [H56.out]; simp [bv]) HON.out ?_))
      have HL := hide (row_same HZ.out (cs := (bv (plt (sl D) k)).toArray))
      have HBL := hide (HB.out.trans ((row_kp wr (w.heap.size + 1) (bv (plt (sl D) k)).toArray).below HB.out.size (fun q e => by omega)))
      exact bodyPost_ret (end_a1 rfl Tryd.underlying110 info256 H56.out HL.out rfl) rfl ⟨by rw [← HDK.out], HBL.out⟩
end
section
open Go.RowKit Go
/-- Digits that the table tells. -/
def tells (t : List Nat) : Prop := ∀ c, c < 256 → (plt t t.length).getD c 0 = (match look t c with | some i => i + 1 | none => 0)
theorem tells16 : tells d16 := by unfold tells; decide +kernel
theorem tells32 : tells d32 := by unfold tells; decide +kernel
theorem tells58 : tells d58 := by unfold tells; decide +kernel
theorem looks_snoc (t : List Nat) : ∀ (s : List Nat) (c : Nat), looks t (s ++ [c]) = (looks t s).bind fun l => (look t c).map fun i => l ++ [i]
  | [], c => by
    simp only [List.nil_append, looks]
    cases look t c <;> rfl
  | x :: s, c => by
    simp only [List.cons_append, looks, looks_snoc t s c]
    cases look t x with
    | none => rfl
    | some i =>
      cases looks t s with
      | none => rfl
      | some l => cases look t c <;> rfl
theorem looks_len {t : List Nat} : ∀ {s l : List Nat}, looks t s = some l → l.length = s.length
  | [], l, h => by simp [looks] at h; subst h; rfl
  | x :: s, l, h => by
    unfold looks at h
    obtain ⟨i, _, h⟩ := Option.bind_eq_some_iff.1 h
    obtain ⟨m, hm, rfl⟩ := Option.map_eq_some_iff.1 h
    simp [looks_len hm]
theorem looks_none {t : List Nat} {s r : List Nat} (h : looks t s = none) : looks t (s ++ r) = none := by
  induction s with
  | nil => simp [looks] at h
  | cons x s ih =>
    unfold looks at h
    rw [List.cons_append, looks]
    cases hx : look t x with
    | none => rfl
    | some i =>
      rw [hx] at h
      simp only [Option.bind_some, Option.map_eq_none_iff] at h ⊢
      exact ih h
theorem bv_setL (l : List Nat) (i x : Nat) : (bv l).set i (.int .u8 ((x : Nat) : Int)) = bv (l.set i x) := by
  simp [bv, List.map_set]
theorem set_fill (ds : List Nat) (m x : Nat) (hm : 0 < m) : (ds ++ List.replicate m 0).set ds.length x = (ds ++ [x]) ++ List.replicate (m - 1) 0 := by
  obtain ⟨k, rfl⟩ : ∃ k, m = k + 1 := ⟨m - 1, by omega⟩
  rw [List.replicate_succ, List.set_append_right _ _ (Nat.le_refl _), Nat.sub_self, List.set_cons_zero]
  simp
theorem get_fill (ds : List Nat) (m : Nat) (hm : 0 < m) : (bv (ds ++ List.replicate m 0))[ds.length]? = some (.int .u8 0) := by
  obtain ⟨k, rfl⟩ : ∃ k, m = k + 1 := ⟨m - 1, by omega⟩
  simp [bv, List.replicate_succ]
theorem looks_lt {t s l : List Nat} (h : looks t s = some l) : ∀ i ∈ l, i < t.length := (looks_back h).2
theorem made_bv (c : Nat) : madeCells (Value.int .u8 0).cells c = (bv (List.replicate c 0)).toArray := by
  apply Array.ext'
  simp only [madeCells, Value.cells, bv, List.map_replicate]
  apply List.ext_getElem
  · simp
  · intro j h1 h2
    simp [Nat.mod_one]
/-- make([]byte, l, c). -/

theorem mk_bytes (w : World) (l c : Nat) (h : l ≤ c) (hc : c ≤ 1000000) : (Instr.makeSlice 47 (.int .i64 (l : Nat)) (.int .i64 (c : Nat))).run Tryd.prog w = .ok (.slice (some ⟨w.heap.size, 0, none⟩) l c) (w.alloc (.cells (bv (List.replicate c 0)).toArray 5)) := by
  obtain ⟨i5, hi, hz0, hz1, hz2⟩ := info5_ex
  have hr := run_make (P := Tryd.prog) w 47 5 i5 (.int .u8 0) Tryd.underlying47 hi hz0 .i64 .i64 l c (by omega) (by omega) (by rw [hz2]; omega) (by omega)
  simp only [Int.toNat_natCast, hz1, Nat.mul_one, made_bv] at hr
  exact hr
theorem mk_own (w : World) (B l c : Nat) (h : l ≤ c) (hc : c ≤ 1000000) (hB : B ≤ w.heap.size) : (w.alloc (.cells (bv (List.replicate c 0)).toArray 5)).ownsRow B 5 1 (.slice (some ⟨w.heap.size, 0, none⟩) l c) l (bv (List.replicate l 0)) := by
  refine ⟨by simp [bv], .inr ⟨w.heap.size, c, _, rfl, hB, heap_alloc_new w _, h, by unfold maxLen; omega, by simp [bv], ?_⟩⟩
  simp [bv, List.take_replicate, Nat.min_eq_left h]
/-- What numbers has in hand. -/
structure Nmw (w wx : World) (B : Nat) (tb : List Nat) (v : Value) (n : Nat) (ds : List Nat) : Prop where
  p : wx.heap[B]? = some (.cells (bv tb).toArray 110 (0, 0))
  o : wx.ownsRow w.heap.size 5 1 v n (bv (ds ++ List.replicate (n - ds.length) 0))
  b : Below w.heap.size w wx
set_option maxRecDepth 1000000 in
set_option maxHeartbeats 1000000 in
theorem numbers_any (w : World) (L D s : ByteArray) (m : Int) (hD : D.size ≤ 58) (hT : tells (sl D)) (hs : s.size ≤ 1000) :
    Calls Tryd.prog 62 #[.agg #[.string L, .string D, .int .i64 m], .string s] w fun e w' => ∃ v, e = .returned (.tuple #[v, .bool (looks (sl D) (sl s)).isSome]) ∧ w'.ownsRow w.heap.size 5 1 v ((looks (sl D) (sl s)).getD []).length (bv ((looks (sl D) (sl s)).getD [])) ∧ Below w.heap.size w w' := by
  have HT := hide hT
  have HD := hide hD
  have HB0 := hide (below_alloc4 w (.cells #[.string L, .string D, .int .i64 m] 62))
  clear hT hD
  go_enter Tryd.func62, Tryd.ntmps62
  go_wp2_with fail
  generalize w.alloc (.cells #[.string L, .string D, .int .i64 m] 62) = w0 at *
  refine (places_any w0 L D m HD.out).mono ?_
  rintro e w1 ⟨rfl, hb1⟩
  have HTB : Hid (∀ c, c < 256 → (plt (sl D) D.size).getD c 0 = (match look (sl D) c with | some i => i + 1 | none => 0)) := by
    have h := HT.out
    unfold tells at h
    rw [sl_len] at h
    exact h
  have HPL := hide (plt_len (sl D) D.size)
  have HB1 : Hid (Below w.heap.size w w1) := HB0.out.trans (hb1.mono HB0.out.size)
  clear hb1 HB0
  generalize plt (sl D) D.size = tb at *
  have H56 : Hid ((bv tb).toArray.size = 256) := by show _ = _; rw [List.size_toArray, bv_len, HPL.out]
  have HI6 : Hid ((Tryd.prog.info? 110).map (·.size) = some (bv tb).toArray.size) := by show _ = _; rw [H56.out]; exact info256
  have HON : Hid ((bv tb).toArray.all (·.oneCell') = true) := by
    show _ = _
    rw [List.all_toArray, List.all_eq_true]
    exact bv_one _
  have HP2 : Hid ((w1.alloc (.cells (bv tb).toArray 110)).heap[w1.heap.size]? = some (.cells (bv tb).toArray 110 (0, 0))) := heap_alloc_new w1 _
  have HB2 : Hid (Below w.heap.size w (w1.alloc (.cells (bv tb).toArray 110))) := HB1.out.trans ((below_alloc4 w1 _).mono HB1.out.size)
  have hmk := mk_bytes (w1.alloc (.cells (bv tb).toArray 110)) s.size s.size (Nat.le_refl _) (by omega)
  have HNW : Hid (Nmw w ((w1.alloc (.cells (bv tb).toArray 110)).alloc (.cells (bv (List.replicate s.size 0)).toArray 5)) w1.heap.size tb (.slice (some ⟨(w1.alloc (.cells (bv tb).toArray 110)).heap.size, 0, none⟩) s.size s.size) s.size []) :=
    ⟨blk_alloc _ HP2.out, mk_own _ _ _ _ (Nat.le_refl _) (by omega) HB2.out.size, HB2.out.trans ((below_alloc4 _ _).mono HB2.out.size)⟩
  have hz2 : (w1.alloc (.cells (bv tb).toArray 110)).heap.size = w1.heap.size + 1 := by simp
  rw [hz2] at hmk HNW
  clear HB1 HB2 HP2 hz2
  go_wp2_with (first
    | (refine wpList_storeRow rfl rfl w1.heap.size _ (bv tb).toArray 110 rfl rfl (heap_alloc_new w1 _) HI6.out (by rw [H56.out, zero256]; simp [bv]) HON.out ?_; rw [World.setRow_alloc_new]))
  clear hmk
  generalize (w1.alloc (.cells (bv tb).toArray 110)).alloc (.cells (bv (List.replicate s.size 0)).toArray 5) = w4 at *
  generalize w1.heap.size = B at *
  go_loopw [17] (fun ii wx => ∃ (k : Nat) (ds : List Nat), k ≤ s.size ∧ ii = .int .i64 (k : Nat) ∧ Hid (looks (sl D) ((sl s).take k) = some ds) ∧ Hid (Nmw w wx B tb (.slice (some ⟨B + 1, 0, none⟩) s.size s.size) s.size ds)) (fun ii _ => s.size - (intOf ii).toNat)
  case atStart => exact ⟨0, [], by omega, rfl, rfl, HNW⟩
  case round =>
    obtain ⟨k, ds, hk, rfl, HLK, HI⟩ := hrel
    clear HNW
    by_cases hlt : k < s.size
    · have g1 : (k : Int) < (s.size : Int) := by omega
      have HX := hide (sl_at s k hlt)
      have hx256 : (s[k].toNat : Int) < 256 := by have := (s[k]).toNat_lt; omega
      have HX2 : Hid (s[k].toNat < 256) := (s[k]).toNat_lt
      have q2 : wr.cell? ⟨B, s[k].toNat, none⟩ = some (.int .u8 ((tb.getD s[k].toNat 0 : Nat) : Int)) := blk_cell HI.out.p (by rw [List.getElem?_toArray]; exact bv_get (by rw [HPL.out]; exact HX2.out))
      have HSN : Hid ((sl s).take (k + 1) = (sl s).take k ++ [s[k].toNat]) := by
        show _ = _
        have h1 : k < (sl s).length := by rw [sl_len]; exact hlt
        rw [List.take_succ_eq_append_getElem h1]
        have h2 := HX.out
        rw [List.getD_eq_getElem?_getD, List.getElem?_eq_getElem h1] at h2
        simp at h2
        rw [h2]
      have HDL : Hid (ds.length = k) := by
        have h := looks_len HLK.out
        rw [List.length_take, sl_len] at h
        show _ = _
        omega
      have hTB := HTB.out s[k].toNat HX2.out
      cases hlo : look (sl D) s[k].toNat with
      | none =>
        as_aux_lemma =>
        rw [hlo] at hTB
        simp only at hTB
        rw [hTB] at q2
        have HN : Hid (looks (sl D) (sl s) = none) := by
          have h1 : looks (sl D) ((sl s).take (k + 1)) = none := by rw [HSN.out, looks_snoc, HLK.out, hlo]; rfl
          have h2 := looks_none (r := (sl s).drop (k + 1)) h1
          rw [List.take_append_drop] at h2
          exact h2
        have HB := hide HI.out.b
        clear hlo hTB
        go_wp2_with fail
        go_ret2
        exact ⟨_, by rw [HN.out]; rfl, by rw [HN.out]; exact World.ownsRow_nil _ _ _ _, HB.out⟩
      | some i =>
        as_aux_lemma =>
        rw [hlo] at hTB
        simp only at hTB
        rw [hTB] at q2
        have HLK2 : Hid (looks (sl D) ((sl s).take (k + 1)) = some (ds ++ [i])) := by show _ = _; rw [HSN.out, looks_snoc, HLK.out, hlo]; rfl
        have hi58 : i < 58 := by
          have h1 := looks_lt HLK2.out i (by simp)
          rw [sl_len] at h1
          have := HD.out
          omega
        have hcf := own_cell HI.out.o (get_fill ds (s.size - ds.length) (by have := HDL.out; omega))
        rw [HDL.out] at hcf
        obtain ⟨c3, f3⟩ := hcf
        have HS : Hid (Nmw w (wr.setCell ⟨B + 1, k, none⟩ (.int .u8 ((i : Nat) : Int))) B tb (.slice (some ⟨B + 1, 0, none⟩) s.size s.size) s.size (ds ++ [i])) := by
          have hk2 : Kp (fun q => q = B + 1) wr (wr.setCell ⟨B + 1, k, none⟩ (.int .u8 ((i : Nat) : Int))) := (Kp.refl _ _).setCell _ _ (fun _ => rfl)
          have ho := own_set (j := k) (.int .u8 ((i : Nat) : Int)) HI.out.o
          have hge := (HI.out.o.lt (B + 1) rfl).1
          refine ⟨(hk2.block _ (blk_lt HI.out.p) (by omega)).trans HI.out.p, ?_, HI.out.b.trans (hk2.below HI.out.b.size (fun q e => by omega))⟩
          rw [bv_setL] at ho
          have hsf := set_fill ds (s.size - ds.length) i (by have := HDL.out; omega)
          rw [HDL.out] at hsf
          rw [HDL.out, hsf] at ho
          rw [List.length_append, HDL.out, List.length_singleton]
          have e : s.size - (k + 1) = s.size - k - 1 := by omega
          rw [e]
          exact ho
        have g5 : (((i + 1 : Nat) : Int) == 0) = false := beq_eq_false_iff_ne.2 (by omega)
        have g6 : ((i + 1 : Nat) : Int) - 1 = (i : Int) := by omega
        have g7 : ((i + 1 : Nat) : Int) < 256 := by omega
        clear hlo hTB HI HLK HX HX2 HSN HDL
        generalize ((i + 1 : Nat) : Int) = i1 at *
        go_wp2_with fail
        go_roundw
        case rel => exact ⟨k + 1, ds ++ [i], by omega, by go_num, HLK2, HS⟩
        case measure => simp [intOf]; omega
    · have hks : k = s.size := by omega
      have g1 : ¬ (k : Int) < (s.size : Int) := by omega
      have HLA : Hid (looks (sl D) (sl s) = some ds) := by
        have h := HLK.out
        rw [List.take_of_length_le (by rw [sl_len]; omega)] at h
        exact h
      have HDL : Hid (ds.length = s.size) := by
        have h := looks_len HLA.out
        rw [sl_len] at h
        exact h
      have HO : Hid (wr.ownsRow w.heap.size 5 1 (.slice (some ⟨B + 1, 0, none⟩) s.size s.size) ds.length (bv ds)) := by
        have h := HI.out.o
        rw [HDL.out, Nat.sub_self, List.replicate_zero, List.append_nil] at h
        show World.ownsRow _ _ _ _ _ _ _
        rw [HDL.out]
        exact h
      have HB := hide HI.out.b
      clear hk hks HI HLK hlt
      go_wp2_with fail
      go_ret2
      exact ⟨_, by rw [HLA.out]; rfl, by rw [HLA.out]; exact HO.out, HB.out⟩
end
section
open Go.RowKit Go
/-- Turned from both ends so far. -/
def revd (xs : List Nat) (k : Nat) : List Nat := (List.range xs.length).map fun j => if j < k ∨ xs.length - k ≤ j then xs.getD (xs.length - 1 - j) 0 else xs.getD j 0
theorem revd_len (xs : List Nat) (k : Nat) : (revd xs k).length = xs.length := by simp [revd]
theorem revd_get (xs : List Nat) (k j : Nat) (h : j < xs.length) : (revd xs k).getD j 0 = if j < k ∨ xs.length - k ≤ j then xs.getD (xs.length - 1 - j) 0 else xs.getD j 0 := by
  simp [revd, List.getD, h]
theorem ext_getD {xs ys : List Nat} (hl : xs.length = ys.length) (h : ∀ j, j < xs.length → xs.getD j 0 = ys.getD j 0) : xs = ys := by
  apply List.ext_getElem hl
  intro j h1 h2
  have := h j h1
  simpa [List.getD, h1, h2] using this
theorem getD_set (xs : List Nat) (i j x : Nat) (h : j < xs.length) : (xs.set i x).getD j 0 = if i = j then x else xs.getD j 0 := by
  simp only [List.getD, List.getElem?_set]
  by_cases e : i = j
  · subst e
    simp [h]
  · simp [e]
theorem revd_zero (xs : List Nat) : revd xs 0 = xs := ext_getD (revd_len _ _) (fun j hj => by
  rw [revd_len] at hj
  rw [revd_get xs 0 j hj, if_neg (by omega)])
theorem revd_end (xs : List Nat) {k : Nat} (h : xs.length ≤ 2 * k + 1) : revd xs k = xs.reverse := ext_getD (by rw [revd_len, List.length_reverse]) (fun j hj => by
  rw [revd_len] at hj
  have hr : xs.reverse.getD j 0 = xs.getD (xs.length - 1 - j) 0 := by
    rw [List.getD_eq_getElem?_getD, List.getElem?_reverse hj, List.getD_eq_getElem?_getD]
  rw [revd_get xs k j hj, hr]
  split
  · rfl
  · have : xs.length - 1 - j = j := by omega
    rw [this])
theorem revd_step (xs : List Nat) {k : Nat} (h : 2 * k + 1 < xs.length) : ((revd xs k).set k ((revd xs k).getD (xs.length - 1 - k) 0)).set (xs.length - 1 - k) ((revd xs k).getD k 0) = revd xs (k + 1) := ext_getD (by simp [revd_len]) (fun j hj => by
  rw [List.length_set, List.length_set, revd_len] at hj
  rw [getD_set _ _ _ _ (by rw [List.length_set, revd_len]; exact hj), getD_set _ _ _ _ (by rw [revd_len]; exact hj), revd_get xs k k (by omega), revd_get xs k (xs.length - 1 - k) (by omega), revd_get xs k j hj, revd_get xs (k + 1) j hj]
  by_cases h1 : xs.length - 1 - k = j
  · subst h1
    rw [if_pos rfl, if_neg (by omega), if_pos (by omega)]
    congr 1
    omega
  · rw [if_neg h1]
    by_cases h2 : k = j
    · subst h2
      rw [if_pos rfl, if_neg (by omega), if_pos (by omega)]
    · rw [if_neg h2]
      by_cases h3 : j < k ∨ xs.length - k ≤ j
      · rw [if_pos h3, if_pos (by omega)]
      · rw [if_neg h3, if_neg (by omega)])
set_option maxRecDepth 1000000 in
set_option maxHeartbeats 1000000 in
/-- slices.Reverse. -/
theorem reverse_any {w : World} {B : Nat} {v : Value} {xs : List Nat} (h : w.ownsRow B 5 1 v xs.length (bv xs)) (hl : xs.length ≤ 100000) :
    Calls Tryd.prog 80 #[v] w fun e w' => e = .returned (.tuple #[]) ∧ w'.ownsRow B 5 1 v xs.length (bv xs.reverse) ∧ Kp (fun k => v.ownBlock = some k) w w' := by
  have HH := hide h
  obtain ⟨a, cap, rfl, _, _, ha⟩ := own_form h
  have HA := hide ha
  clear h ha
  go_enter Tryd.func80, Tryd.ntmps80
  go_wp2_with fail
  go_loopw [2, 3] (fun ii jj wx => ∃ k : Nat, 2 * k ≤ xs.length ∧ ii = .int .i64 (k : Nat) ∧ jj = .int .i64 ((xs.length : Int) - 1 - (k : Nat)) ∧ Hid (wx.ownsRow B 5 1 (.slice a xs.length cap) xs.length (bv (revd xs k))) ∧ Hid (Kp (fun q => (Value.slice a xs.length cap).ownBlock = some q) w wx)) (fun ii _ _ => xs.length - (intOf ii).toNat)
  case atStart => exact ⟨0, by omega, rfl, by simp, by rw [revd_zero]; exact HH, Kp.refl _ _⟩
  case round =>
    obtain ⟨k, hk, rfl, rfl, HO, HK⟩ := hrel
    by_cases hlt : 2 * k + 1 < xs.length
    · have g1 : (k : Int) < (xs.length : Int) - 1 - (k : Int) := by omega
      obtain ⟨g, rfl, _⟩ := HA.out 0 _ (bv_get (by omega))
      have ek : ((xs.length : Int) - 1 - (k : Int)) = ((xs.length - 1 - k : Nat) : Int) := by omega
      obtain ⟨c1, f1⟩ := own_cell HO.out (bv_get (xs := revd xs k) (j := k) (by rw [revd_len]; omega))
      obtain ⟨c2, f2⟩ := own_cell HO.out (bv_get (xs := revd xs k) (j := xs.length - 1 - k) (by rw [revd_len]; omega))
      have HS := hide (revd_step xs hlt)
      have hne : ¬ k = xs.length - 1 - k := by omega
      have hj1 : xs.length - 1 - k < xs.length := by omega
      rw [ek] at g1 ⊢
      generalize (revd xs k).getD k 0 = x1 at *
      generalize (revd xs k).getD (xs.length - 1 - k) 0 = x2 at *
      have HO2 : Hid (((wr.setCell ⟨g, k, none⟩ (.int .u8 (x2 : Nat))).setCell ⟨g, xs.length - 1 - k, none⟩ (.int .u8 (x1 : Nat))).ownsRow B 5 1 (.slice (some ⟨g, 0, none⟩) xs.length cap) xs.length (bv (revd xs (k + 1)))) := by
        have h1 := own_set (j := k) (.int .u8 ((x2 : Nat) : Int)) HO.out
        have h2 := own_set (j := xs.length - 1 - k) (.int .u8 ((x1 : Nat) : Int)) h1
        rw [bv_setL, bv_setL, HS.out] at h2
        exact h2
      have hjj : ((xs.length - 1 - k : Nat) : Int) < (xs.length : Int) := by omega
      have hkk : (k : Int) < (xs.length : Int) := by omega
      have HJ : Hid ((xs.length : Int) - 1 - ((k + 1 : Nat) : Int) = ((xs.length - 1 - k : Nat) : Int) - 1) := by show _ = _; omega
      clear hne HS ek
      have hkj : k < xs.length - 1 - k := by omega
      generalize hjn : xs.length - 1 - k = j at *
      clear hjn
      have hne2 : ¬ k = j := by omega
      have hne3 : ¬ j = k := by omega
      generalize hLL : xs.length = LL at *
      clear HO HH HA
      go_wp2_with fail
      go_region
      go_wp2_with fail
      go_roundw
      case rel => exact ⟨k + 1, by omega, by go_num, by rw [HJ.out], HO2.out, ((HK.out.setCell ⟨g, k, none⟩ _ (fun _ => rfl)).setCell ⟨g, j, none⟩ _ (fun _ => rfl)).drew⟩
      case measure => simp [intOf]; omega
    · have g1 : ¬ (k : Int) < (xs.length : Int) - 1 - (k : Int) := by omega
      have HE := hide (revd_end xs (k := k) (by omega))
      go_wp2_with fail
      go_end0
      exact ⟨rfl, by rw [← HE.out]; exact HO.out, HK.out⟩
end
section
open Go.RowKit Go
theorem take_at (xs : List Nat) (k : Nat) (h : k < xs.length) : xs.take (k + 1) = xs.take k ++ [xs.getD k 0] := by
  rw [List.take_succ_eq_append_getElem h, List.getD_eq_getElem?_getD, List.getElem?_eq_getElem h]
  rfl
theorem i64_or_nat (a b : Nat) (ha : a < 4294967296) (hb : b < 4294967296) : bits .or .i64 (a : Int) (b : Int) = ((a ||| b : Nat) : Int) := by
  have hx : a ||| b < 2 ^ 32 := Nat.or_lt_two_pow (by omega) (by omega)
  show IntKind.i64.wrap ((BitVec.ofInt 64 (a : Int) ||| BitVec.ofInt 64 (b : Int)).toNat : Int) = _
  rw [BitVec.toNat_or, ofInt_u64 a (by omega), ofInt_u64 b (by omega), IntKind.wrap_i64]
  omega
theorem i64_and_nat (a b : Nat) (ha : a < 4294967296) (hb : b < 4294967296) : bits .and .i64 (a : Int) (b : Int) = ((a &&& b : Nat) : Int) := by
  have hx : a &&& b < 2 ^ 32 := Nat.and_lt_two_pow _ (by omega)
  show IntKind.i64.wrap ((BitVec.ofInt 64 (a : Int) &&& BitVec.ofInt 64 (b : Int)).toNat : Int) = _
  rw [BitVec.toNat_and, ofInt_u64 a (by omega), ofInt_u64 b (by omega), IntKind.wrap_i64]
  omega
theorem pow_le8 {f : Nat} (h : f ≤ 8) : 2 ^ f ≤ 256 := Nat.pow_le_pow_right (n := 2) (by decide) h
theorem rg_small {R : List Nat} (h : ∀ x ∈ R, x < 2) {t : Nat} (hl : R.length < t) (ht : t ≤ 8) : valB 2 R < 128 := by
  have h1 := valB_lt (b := 2) (by decide) h
  have h2 : 2 ^ R.length ≤ 2 ^ 7 := Nat.pow_le_pow_right (by decide) (by omega)
  omega
theorem or_more {R : List Nat} {f x t : Nat} (h : ∀ y ∈ R, y < 2) (hl : R.length < t) (ht : t ≤ 8) (hf : f ≤ 8) (hx : x < 2 ^ f) : bits .or .i64 (wrap64 ((valB 2 R : Nat) * 2 ^ f)) (wrap64 (x : Int)) = ((valB 2 (R ++ bitsW f x) : Nat) : Int) := by
  have h1 := rg_small h hl ht
  have h2 := pow_le8 hf
  have h3 : valB 2 R * 2 ^ f ≤ 128 * 256 := Nat.mul_le_mul (by omega) h2
  have e1 : ((valB 2 R : Nat) : Int) * 2 ^ f = ((valB 2 R * 2 ^ f : Nat) : Int) := by rw [Int.natCast_mul, Int.natCast_pow]; rfl
  rw [e1]
  have e2 : wrap64 ((valB 2 R * 2 ^ f : Nat) : Int) = ((valB 2 R * 2 ^ f : Nat) : Int) := by unfold wrap64; omega
  have e3 : wrap64 (x : Int) = (x : Int) := by unfold wrap64; omega
  rw [e2, e3, i64_or_nat _ _ (by omega) (by omega), nat_join f _ x (Nat.mul_mod_left _ _) hx, rest_more hx]
theorem and_left {V m : Nat} (hV : V < 65536) (hm : m ≤ 16) : bits .and .i64 (V : Int) (wrap64 (wrap64 (2 ^ m) - 1)) = ((V % 2 ^ m : Nat) : Int) := by
  have h1 : 2 ^ m ≤ 2 ^ 16 := Nat.pow_le_pow_right (by decide) hm
  have h0 : 0 < 2 ^ m := Nat.pow_pos (by decide)
  have e1 : (2 : Int) ^ m = ((2 ^ m : Nat) : Int) := by rw [Int.natCast_pow]; rfl
  have e2 : wrap64 (wrap64 (2 ^ m) - 1) = ((2 ^ m - 1 : Nat) : Int) := by
    rw [e1]
    unfold wrap64
    omega
  rw [e2, i64_and_nat _ _ (by omega) (by omega), Nat.and_two_pow_sub_one_eq_mod]
theorem Rg.len {tt : Nat} {B out R : List Nat} (h : Rg tt B out R) : out.length * tt + R.length = B.length := by
  have := congrArg List.length h.e
  rw [List.length_append, flat_len] at this
  omega
/-- What regroup has in hand. -/
structure Rgw (w wx : World) (f t : Nat) (xs : List Nat) (k : Nat) (vo : Value) (out R : List Nat) : Prop where
  g : Rg t ((xs.take k).flatMap (bitsW f)) out R
  o : wx.ownsRow w.heap.size 5 1 vo out.length (bv out)
  b : Below w.heap.size w wx
set_option maxRecDepth 1000000 in
set_option maxHeartbeats 1000000 in
theorem regroup_any (w : World) (v : Value) (xs : List Nat) (f t : Nat) (hb : BSl w v xs) (hf : 0 < f) (hf8 : f ≤ 8) (ht : 0 < t) (ht8 : t ≤ 8) (hx : ∀ x ∈ xs, x < 2 ^ f) (hl : xs.length ≤ 1000) :
    Calls Tryd.prog 64 #[v, .int .i64 (f : Nat), .int .i64 (t : Nat)] w fun e w' => ∃ vo out R, e = .returned (.tuple #[vo, .int .i64 (valB 2 R : Nat), .int .i64 (R.length : Nat)]) ∧ Rg t (xs.flatMap (bitsW f)) out R ∧ R.length < t ∧ w'.ownsRow w.heap.size 5 1 vo out.length (bv out) ∧ Below w.heap.size w w' := by
  have HB := hide hb
  have HX := hide hx
  obtain ⟨⟨a, cap, rfl, hn, hc⟩, hmax, hby⟩ := hb
  have HC := hide hc
  clear hn hc hby hx
  go_enter Tryd.func64, Tryd.ntmps64
  go_wp2_with fail
  go_loopw [6, 7, 8, 13] (fun vo rr ll ii wx => ∃ (k : Nat) (out R : List Nat), k ≤ xs.length ∧ ii = .int .i64 (k : Nat) ∧ rr = .int .i64 (valB 2 R : Nat) ∧ ll = .int .i64 (R.length : Nat) ∧ R.length < t ∧ Hid (Rgw w wx f t xs k vo out R)) (fun _ _ _ ii _ => xs.length - (intOf ii).toNat)
  case atStart => exact ⟨0, [], [], by omega, rfl, rfl, rfl, ht, ⟨Rg.start t, World.ownsRow_nil _ _ _ _, Below.refl _ _⟩⟩
  case round =>
    obtain ⟨k, out, R, hk, rfl, rfl, rfl, hRt, HI⟩ := hrel
    by_cases hlt : k < xs.length
    · have g1 : (k : Int) < (xs.length : Int) := by omega
      obtain ⟨b, off, rfl, hcc⟩ := HC.out.resolve_left (by intro e; rw [e] at hlt; simp at hlt)
      have cx := keep_below HI.out.b _ _ (hcc k hlt)
      have HXK : Hid (xs.getD k 0 < 2 ^ f) := by
        refine HX.out _ ?_
        rw [List.getD_eq_getElem?_getD, List.getElem?_eq_getElem hlt]
        exact List.getElem_mem hlt
      have HTK := hide (take_at xs k hlt)
      generalize xs.getD k 0 = x at *
      have hor := or_more HI.out.g.r hRt ht8 hf8 HXK.out
      have HRR : Hid (∀ y ∈ R ++ bitsW f x, y < 2) := fun y hy => by
        rcases List.mem_append.1 hy with h | h
        · exact HI.out.g.r y h
        · exact bitsW_lt f x y h
      have HL16 : Hid ((R ++ bitsW f x).length = R.length + f) := by show _ = _; rw [List.length_append, bitsW_len]
      have HG0 : Hid (Rgw w wr f t xs (k + 1) u6 out (R ++ bitsW f x)) := ⟨by rw [HTK.out, List.flatMap_append, List.flatMap_singleton]; exact HI.out.g.more, HI.out.o, HI.out.b⟩
      clear HI HX hcc
      go_wp2_with fail
      have hle : ((R.length : Int) + (f : Int)) = (((R ++ bitsW f x).length : Nat) : Int) := by have := HL16.out; omega
      rw [hle]
      have hR16 : (R ++ bitsW f x).length < 16 := by have := HL16.out; omega
      clear hle hor
      generalize R ++ bitsW f x = R0 at *
      go_loopw [6, 7, 8] (fun vo rr ll wx => ∃ out2 R2 : List Nat, R2.length < 16 ∧ rr = .int .i64 (valB 2 R2 : Nat) ∧ ll = .int .i64 (R2.length : Nat) ∧ Hid (Rgw w wx f t xs (k + 1) vo out2 R2)) (fun _ _ ll _ => (intOf ll).toNat)
      case atStart => exact ⟨out, R0, hR16, rfl, rfl, HG0⟩
      case round => as_aux_lemma =>
        rename World => wz
        obtain ⟨out2, R2, hR2, rfl, rfl, HG⟩ := hrel
        by_cases hge : t ≤ R2.length
        · have g5 : (t : Int) ≤ (R2.length : Int) := by omega
          obtain ⟨a2, c2, hv2, _⟩ := own_form HG.out.o
          subst hv2
          have hsh := rest_shift (tt := t) HG.out.g.r
          have hdiv : ((valB 2 R2 : Nat) : Int) / 2 ^ (R2.length - t) % 256 = ((valB 2 (R2.take t) : Nat) : Int) := by
            have h1 := HG.out.g.take hge
            have h2 := h1.o (valB 2 (R2.take t)) (by simp)
            have h3 := pow_le8 ht8
            have e1 : ((valB 2 R2 : Nat) : Int) / 2 ^ (R2.length - t) = ((valB 2 R2 / 2 ^ (R2.length - t) : Nat) : Int) := by rw [Int.natCast_ediv, Int.natCast_pow]; rfl
            rw [e1, hsh.1]
            omega
          have HTL : Hid (valB 2 (R2.take t) < 256) := by
            have h1 := HG.out.g.take hge
            have h2 := h1.o (valB 2 (R2.take t)) (by simp)
            have h3 := pow_le8 ht8
            show _ < _
            omega
          have HGT := hide (HG.out.g.take hge)
          have HGL : Hid (out2.length * t + R2.length = (k + 1) * f) := by
            have h := HG.out.g.len
            rw [flat_len, List.length_take, Nat.min_eq_left (by omega)] at h
            exact h
          have HDL : Hid ((R2.drop t).length = R2.length - t) := List.length_drop
          have HV2 : Hid (valB 2 R2 < 65536) := by
            have h1 := valB_lt (b := 2) (by decide) HG.out.g.r
            have h2 : 2 ^ R2.length ≤ 2 ^ 16 := Nat.pow_le_pow_right (by decide) (by omega)
            show _ < _
            omega
          have HSH := hide hsh.2
          clear hsh
          generalize hTT : valB 2 (R2.take t) = T2 at *
          clear hTT
          have HL1 := hide (one_bsl wz T2 HTL.out)
          have HA1 := hide (HG.out.o.alloc (.cells #[.int .u8 ((T2 : Nat) : Int)] 5))
          have HZ1 : Hid (out2.length + ([T2] : List Nat).length ≤ 140737488355328) := by
            have h1 := HGL.out
            have h2 : out2.length * 1 ≤ out2.length * t := Nat.mul_le_mul_left _ ht
            have h3 : (k + 1) * f ≤ 1000 * 8 := Nat.mul_le_mul (by omega) hf8
            show _ ≤ _
            rw [List.length_singleton]
            omega
          have HBZ : Hid (w.heap.size ≤ (wz.alloc (.cells #[.int .u8 ((T2 : Nat) : Int)] 5)).heap.size) := by have := HG.out.b.size; show _ ≤ _; simp; omega
          have HBA : Hid (Below w.heap.size w (wz.alloc (.cells #[.int .u8 ((T2 : Nat) : Int)] 5))) := HG.out.b.alloc HG.out.b.size _
          go_wp2_with (at_builtin; refine append_bsl rfl _ _ rfl w.heap.size _ out2.length out2 rfl HA1.out _ [T2] rfl HL1.out HZ1.out HBZ.out ?_)
          intro v7 w7 ho7 hg7
          have HB7 : Hid (Below w.heap.size w w7) := HBA.out.grown hg7 HBZ.out (fun g hg => (HA1.out.lt g hg).1)
          have HO7 : Hid (w7.ownsRow w.heap.size 5 1 v7 (out2 ++ [T2]).length (bv (out2 ++ [T2]))) := by show World.ownsRow _ _ _ _ _ _ _; rw [List.length_append]; exact ho7
          obtain ⟨a7, c7, hv7, _⟩ := own_form ho7
          subst hv7
          have HAN : Hid (bits .and .i64 ((valB 2 R2 : Nat) : Int) (wrap64 (wrap64 (2 ^ (R2.length - t)) - 1)) = ((valB 2 (R2.drop t) : Nat) : Int)) := by
            show _ = _
            rw [and_left HV2.out (by omega), HSH.out]
          clear ho7 hg7 HA1 HL1 HBA HG hdiv
          go_wp2_with fail
          go_roundw
          case rel => exact ⟨out2 ++ [T2], R2.drop t, by have := HDL.out; omega, by rw [HAN.out], by have := HDL.out; congr 1; omega, ⟨HGT.out, HO7.out, HB7.out⟩⟩
          case measure => simp [intOf]; omega
        · have g5 : ¬ (t : Int) ≤ (R2.length : Int) := by omega
          obtain ⟨a2, c2, hv2, _⟩ := own_form HG.out.o
          subst hv2
          go_wp2_with fail
          go_roundw
          case rel => exact ⟨k + 1, out2, R2, by omega, by go_num, rfl, rfl, by omega, HG⟩
          case measure => simp [intOf]; omega
    · have hkx : k = xs.length := by omega
      have g1 : ¬ (k : Int) < (xs.length : Int) := by omega
      obtain ⟨a2, c2, hv2, _⟩ := own_form HI.out.o
      subst hv2
      have HTA : Hid (xs.take k = xs) := List.take_of_length_le (by omega)
      have HG : Hid (Rg t (xs.flatMap (bitsW f)) out R) := by
        have h := HI.out.g
        rw [HTA.out] at h
        exact h
      have HO := hide HI.out.o
      have HBW := hide HI.out.b
      clear hk hkx hlt HI
      go_wp2_with fail
      go_ret3
      exact ⟨_, out, R, rfl, HG.out, hRt, HO.out, HBW.out⟩
end
section
open Go.RowKit Go
/-- The digits so far, the lowest first, of the number that digits make. -/
structure Rcd (fr tt : Nat) (p L : List Nat) : Prop where
  v : valL tt L = valB fr p
  d : ∀ x ∈ L, x < tt
  n : L = [] ∨ tt ^ (L.length - 1) ≤ valL tt L
theorem Rcd.start (fr tt : Nat) : Rcd fr tt [] [] := ⟨rfl, by simp, .inl rfl⟩
/-- One round under way: the first i digits are new, the carry. -/
structure Rcm (fr tt n : Nat) (L M : List Nat) (i cy : Nat) : Prop where
  l : M.length = L.length
  q : i ≤ L.length
  r : M.drop i = L.drop i
  v : valL tt (M.take i) + tt ^ i * cy = n + fr * valL tt (L.take i)
  d : ∀ x ∈ M, x < tt
  c : cy < 65536
theorem Rcm.start {fr tt n : Nat} {L : List Nat} (hd : ∀ x ∈ L, x < tt) (hn : n < 256) : Rcm fr tt n L L 0 n := ⟨rfl, Nat.zero_le _, rfl, by simp [valL], hd, by omega⟩
theorem Rcm.step {fr tt n : Nat} {L M : List Nat} {i cy : Nat} (h : Rcm fr tt n L M i cy) (hi : i < L.length) (ht : 2 ≤ tt) (ht2 : tt ≤ 256) (hf2 : fr ≤ 256) :
    Rcm fr tt n L (M.set i ((cy + M.getD i 0 * fr) % tt)) (i + 1) ((cy + M.getD i 0 * fr) / tt) := by
  have hiM : i < M.length := by rw [h.l]; exact hi
  have hg : M.getD i 0 = L.getD i 0 := by
    have h1 := congrArg List.head? h.r
    rw [List.head?_drop, List.head?_drop] at h1
    rw [List.getD_eq_getElem?_getD, List.getD_eq_getElem?_getD, h1]
  have hx : M.getD i 0 < tt := by
    rw [List.getD_eq_getElem?_getD, List.getElem?_eq_getElem hiM]
    exact h.d _ (List.getElem_mem hiM)
  have hxf : M.getD i 0 * fr ≤ 255 * 256 := Nat.mul_le_mul (by omega) hf2
  have hs : cy + M.getD i 0 * fr < 131072 := by have := h.c; omega
  refine ⟨by rw [List.length_set]; exact h.l, hi, ?_, ?_, ?_, ?_⟩
  · rw [List.drop_set_of_lt (by omega)]
    have h1 := congrArg List.tail h.r
    rw [List.tail_drop, List.tail_drop] at h1
    exact h1
  · have e1 : (M.set i ((cy + M.getD i 0 * fr) % tt)).take (i + 1) = M.take i ++ [(cy + M.getD i 0 * fr) % tt] := by
      rw [List.take_succ_eq_append_getElem (by rw [List.length_set]; exact hiM), List.take_set_of_le (Nat.le_refl _)]
      simp
    have e2 : L.take (i + 1) = L.take i ++ [L.getD i 0] := take_at L i hi
    have l1 : (M.take i).length = i := by rw [List.length_take]; omega
    have l2 : (L.take i).length = i := by rw [List.length_take]; omega
    rw [e1, e2, valL_app, valL_app, l1, l2, ← hg]
    simp only [valL, Nat.mul_zero, Nat.add_zero]
    have hv := h.v
    have hdm := Nat.mod_add_div (cy + M.getD i 0 * fr) tt
    generalize (cy + M.getD i 0 * fr) % tt = a at *
    generalize (cy + M.getD i 0 * fr) / tt = b at *
    generalize M.getD i 0 = x at *
    have e3 : tt ^ i * a + tt ^ (i + 1) * b = tt ^ i * (cy + x * fr) := by rw [Nat.pow_succ, Nat.mul_assoc, ← Nat.mul_add, hdm]
    rw [Nat.mul_add] at e3
    have e4 : fr * (valL tt (L.take i) + tt ^ i * x) = fr * valL tt (L.take i) + tt ^ i * (x * fr) := by
      rw [Nat.mul_add]
      congr 1
      rw [Nat.mul_comm x fr]
      ac_rfl
    omega
  · intro y hy
    rcases List.mem_or_eq_of_mem_set hy with h1 | h1
    · exact h.d y h1
    · subst h1
      exact Nat.mod_lt _ (by omega)
  · have : (cy + M.getD i 0 * fr) / tt ≤ (cy + M.getD i 0 * fr) / 2 := Nat.div_le_div_left ht (by decide)
    omega
/-- The carry that is left is laid on. -/
structure Rce (tt N : Nat) (M : List Nat) (cy : Nat) : Prop where
  v : valL tt M + tt ^ M.length * cy = N
  d : ∀ x ∈ M, x < tt
  c : cy < 65536
  n : cy = 0 → M = [] ∨ tt ^ (M.length - 1) ≤ N
theorem Rce.step {tt N : Nat} {M : List Nat} {cy : Nat} (h : Rce tt N M cy) (hc : 0 < cy) (ht : 2 ≤ tt) : Rce tt N (M ++ [cy % tt]) (cy / tt) := by
  have hdm := Nat.mod_add_div cy tt
  refine ⟨?_, ?_, ?_, ?_⟩
  · rw [valL_app, List.length_append, List.length_singleton, Nat.pow_succ, Nat.mul_assoc]
    simp only [valL, Nat.mul_zero, Nat.add_zero]
    rw [Nat.add_assoc, ← Nat.mul_add, hdm]
    exact h.v
  · intro y hy
    rcases List.mem_append.1 hy with h1 | h1
    · exact h.d y h1
    · simp only [List.mem_singleton] at h1
      subst h1
      exact Nat.mod_lt _ (by omega)
  · have : cy / tt ≤ cy := Nat.div_le_self _ _
    have := h.c
    omega
  · intro _
    right
    rw [List.length_append, List.length_singleton, Nat.add_sub_cancel]
    have h1 := h.v
    have h2 : tt ^ M.length * 1 ≤ tt ^ M.length * cy := Nat.mul_le_mul_left _ hc
    omega
theorem Rce.done {fr tt : Nat} {p M : List Nat} (h : Rce tt (valB fr p) M 0) : Rcd fr tt p M := by
  have hv := h.v
  rw [Nat.mul_zero, Nat.add_zero] at hv
  exact ⟨hv, h.d, by rw [hv]; exact h.n rfl⟩
theorem Rcm.done {fr tt n : Nat} {p L M : List Nat} {cy : Nat} (hL : Rcd fr tt p L) (h : Rcm fr tt n L M L.length cy) (hf : 1 ≤ fr) : Rce tt (valB fr (p ++ [n])) M cy := by
  have hM : M.take L.length = M := List.take_of_length_le (by rw [h.l]; omega)
  have hv := h.v
  rw [hM, List.take_length, hL.v, ← h.l] at hv
  have hN : valB fr (p ++ [n]) = n + fr * valB fr p := by rw [valB_snoc, Nat.mul_comm]; omega
  refine ⟨by rw [hN]; exact hv, h.d, h.c, fun _ => ?_⟩
  rcases hL.n with h1 | h1
  · left
    have := h.l
    rw [h1] at this
    exact List.eq_nil_of_length_eq_zero this
  · right
    rw [hN, h.l]
    rw [hL.v] at h1
    have : 1 * valB fr p ≤ fr * valB fr p := Nat.mul_le_mul_right _ hf
    omega
/-- How many noughts stand at the front. -/
def nz (p : List Nat) : Nat := (p.takeWhile (· == 0)).length
theorem Rcd.nil {fr tt : Nat} {p L : List Nat} (h : Rcd fr tt p L) (ht : 2 ≤ tt) : L = [] ↔ valB fr p = 0 := by
  constructor
  · intro e
    rw [← h.v, e]
    rfl
  · intro e
    rcases h.n with h1 | h1
    · exact h1
    · exfalso
      have := Nat.pow_pos (n := L.length - 1) (show 0 < tt by omega)
      rw [h.v, e] at h1
      omega
theorem Rcd.zeros {fr tt : Nat} {p L : List Nat} {n : Nat} (h : Rcd fr tt (p ++ [n]) L) (ht : 2 ≤ tt) (hf : 0 < fr) : nz (p ++ [n]) = if L = [] then nz p + 1 else nz p := by
  unfold nz
  rw [tw_snoc hf]
  by_cases e : L = []
  · rw [if_pos e, if_pos ((h.nil ht).1 e)]
  · rw [if_neg e, if_neg (fun h0 => e ((h.nil ht).2 h0))]
theorem Rcd.conv {fr tt : Nat} {p L : List Nat} (h : Rcd fr tt p L) (ht : 2 ≤ tt) : conv fr tt p = List.replicate (nz p) 0 ++ L.reverse := by
  rw [conv_val, valL_digB ht h.d h.n, h.v]
  rfl
theorem nz_le (p : List Nat) : nz p ≤ p.length := (List.takeWhile_prefix _).length_le
end
section
open Go.RowKit Go
theorem val_pow {fr tt : Nat} {p : List Nat} (hp : ∀ x ∈ p, x < fr) (hf : 2 ≤ fr) (hf2 : fr ≤ 256) (ht : 2 ≤ tt) : valB fr p < tt ^ (8 * p.length) := by
  have h1 := valB_lt (b := fr) (by omega) hp
  have h2 : fr ^ p.length ≤ 256 ^ p.length := Nat.pow_le_pow_left hf2 _
  have h3 : 256 ^ p.length = 2 ^ (8 * p.length) := by rw [Nat.pow_mul]
  have h4 : 2 ^ (8 * p.length) ≤ tt ^ (8 * p.length) := Nat.pow_le_pow_left ht _
  omega
theorem Rcd.len {fr tt : Nat} {p L : List Nat} (h : Rcd fr tt p L) (hp : ∀ x ∈ p, x < fr) (hf : 2 ≤ fr) (hf2 : fr ≤ 256) (ht : 2 ≤ tt) : L.length ≤ 8 * p.length := by
  rcases h.n with h1 | h1
  · rw [h1]
    simp
  · have h2 := val_pow hp hf hf2 ht
    rw [h.v] at h1
    have := (Nat.pow_lt_pow_iff_right (a := tt) (by omega)).1 (Nat.lt_of_le_of_lt h1 h2)
    omega
theorem Rce.len {fr tt : Nat} {p M : List Nat} {cy : Nat} (h : Rce tt (valB fr p) M cy) (hc : 0 < cy) (hp : ∀ x ∈ p, x < fr) (hf : 2 ≤ fr) (hf2 : fr ≤ 256) (ht : 2 ≤ tt) : M.length < 8 * p.length := by
  have h1 := h.v
  have h2 := val_pow hp hf hf2 ht
  have h3 : tt ^ M.length * 1 ≤ tt ^ M.length * cy := Nat.mul_le_mul_left _ hc
  exact (Nat.pow_lt_pow_iff_right (a := tt) (by omega)).1 (by omega)
theorem rc_sum {cy d fr : Nat} (hc : cy < 65536) (hd : d < 256) (hf : fr ≤ 256) : wrap64 ((cy : Int) + wrap64 (wrap64 (d : Int) * (fr : Int))) = ((cy + d * fr : Nat) : Int) := by
  have h1 : d * fr ≤ 255 * 256 := Nat.mul_le_mul (by omega) hf
  have e1 : wrap64 (d : Int) = (d : Int) := by unfold wrap64; omega
  rw [e1, ← Int.natCast_mul]
  generalize d * fr = m at *
  unfold wrap64
  omega
theorem rc_lt {cy d fr : Nat} (hc : cy < 65536) (hd : d < 256) (hf : fr ≤ 256) : cy + d * fr < 131072 := by
  have h1 : d * fr ≤ 255 * 256 := Nat.mul_le_mul (by omega) hf
  omega
theorem rc_div {s tt : Nat} (hs : s < 131072) : wrap64 ((s : Int).tdiv (tt : Int)) = ((s / tt : Nat) : Int) := by
  have e : (s : Int).tdiv (tt : Int) = ((s / tt : Nat) : Int) := rfl
  have h : s / tt ≤ s := Nat.div_le_self _ _
  rw [e]
  generalize s / tt = q at *
  unfold wrap64
  omega
theorem rc_mod {s tt : Nat} (ht : 2 ≤ tt) (ht2 : tt ≤ 256) : (s : Int).tmod (tt : Int) % 256 = ((s % tt : Nat) : Int) := by
  have e : (s : Int).tmod (tt : Int) = ((s % tt : Nat) : Int) := rfl
  have h : s % tt < tt := Nat.mod_lt _ (by omega)
  rw [e]
  omega
/-- What recast has in hand. -/
structure Rcw (w wx : World) (vl : Value) (M : List Nat) : Prop where
  o : wx.ownsRow w.heap.size 5 1 vl M.length (bv M)
  b : Below w.heap.size w wx
set_option maxRecDepth 1000000 in
set_option maxHeartbeats 1000000 in
theorem recast_any (w : World) (v : Value) (xs : List Nat) (fr tt : Nat) (hb : BSl w v xs) (hf : 2 ≤ fr) (hf2 : fr ≤ 256) (ht : 2 ≤ tt) (ht2 : tt ≤ 256) (hx : ∀ x ∈ xs, x < fr) (hl : xs.length ≤ 1000) :
    Calls Tryd.prog 63 #[v, .int .i64 (fr : Nat), .int .i64 (tt : Nat)] w fun e w' => ∃ vo, e = .returned vo ∧ w'.ownsRow w.heap.size 5 1 vo (conv fr tt xs).length (bv (conv fr tt xs)) ∧ Below w.heap.size w w' := by
  have HB := hide hb
  have HX := hide hx
  obtain ⟨⟨a, cap, rfl, hn, hc⟩, hmax, hby⟩ := hb
  have HC := hide hc
  clear hn hc hby hx
  go_enter Tryd.func63, Tryd.ntmps63
  go_wp2_with fail
  go_loopw [7, 8, 16] (fun zz vl ii wx => ∃ (k : Nat) (L : List Nat), k ≤ xs.length ∧ ii = .int .i64 (k : Nat) ∧ zz = .int .i64 (nz (xs.take k) : Nat) ∧ Hid (Rcd fr tt (xs.take k) L) ∧ Hid (Rcw w wx vl L)) (fun _ _ ii _ => xs.length - (intOf ii).toNat)
  case atStart => exact ⟨0, [], by omega, rfl, rfl, Rcd.start fr tt, ⟨World.ownsRow_nil _ _ _ _, Below.refl _ _⟩⟩
  case round =>
    obtain ⟨k, L, hk, rfl, rfl, HR, HI⟩ := hrel
    have HPX : Hid (∀ x ∈ xs.take k, x < fr) := fun x hx => HX.out x (List.mem_of_mem_take hx)
    have HLL : Hid (L.length ≤ 8 * k) := by
      have h := HR.out.len HPX.out hf hf2 ht
      rw [List.length_take] at h
      show _ ≤ _
      omega
    obtain ⟨a2, c2, hv2, hcp, _⟩ := own_form HI.out.o
    subst hv2
    by_cases hlt : k < xs.length
    · have g1 : (k : Int) < (xs.length : Int) := by omega
      obtain ⟨b, off, rfl, hcc⟩ := HC.out.resolve_left (by intro e; rw [e] at hlt; simp at hlt)
      have cx := keep_below HI.out.b _ _ (hcc k hlt)
      have HXK : Hid (xs.getD k 0 < fr) := by
        refine HX.out _ ?_
        rw [List.getD_eq_getElem?_getD, List.getElem?_eq_getElem hlt]
        exact List.getElem_mem hlt
      have HTK := hide (take_at xs k hlt)
      have hLm : L.length ≤ 8000 := by have := HLL.out; omega
      have HP2 : Hid (∀ x ∈ xs.take (k + 1), x < fr) := fun x hx => HX.out x (List.mem_of_mem_take hx)
      have HL2 : Hid ((xs.take (k + 1)).length = k + 1) := by show _ = _; rw [List.length_take]; omega
      generalize xs.getD k 0 = x at *
      have hx256 : (x : Int) < 256 := by have := HXK.out; omega
      have hwx : wrap64 (x : Int) = (x : Int) := by unfold wrap64; omega
      clear hcc
      go_wp2_with fail
      go_loopw [11, 24] (fun cc jj wx => ∃ (i cy : Nat) (M : List Nat), jj = .int .i64 (i : Nat) ∧ cc = .int .i64 (cy : Nat) ∧ Hid (Rcm fr tt x L M i cy) ∧ Hid (Rcw w wx (.slice a2 L.length c2) M)) (fun _ jj _ => L.length - (intOf jj).toNat)
      case atStart => exact ⟨0, x, L, rfl, rfl, Rcm.start HR.out.d (by omega), HI⟩
      case round =>
        rename World => wz
        obtain ⟨i, cy, M, rfl, rfl, HM, HJ⟩ := hrel
        have hML := HM.out.l
        have hcy := HM.out.c
        by_cases hil : i < L.length
        · have g3 : (i : Int) < (L.length : Int) := by omega
          have ho := HJ.out.o
          obtain ⟨a3, c3, hv3, _, _, hcl⟩ := own_form ho
          injection hv3 with e1 e2 e3
          subst e1
          obtain ⟨g, rfl, _⟩ := hcl i _ (bv_get (by omega))
          rw [hML] at ho
          obtain ⟨q1, f1⟩ := own_cell ho (bv_get (xs := M) (j := i) (by omega))
          have HST := hide (HM.out.step hil ht ht2 hf2)
          have HMD : Hid (M.getD i 0 < tt) := by
            rw [List.getD_eq_getElem?_getD, List.getElem?_eq_getElem (by omega)]
            exact HM.out.d _ (List.getElem_mem (by omega))
          have HML := hide hML
          clear hcl e2 e3 hML
          generalize M.getD i 0 = d at *
          have HMD2 : Hid (d < 256) := Nat.lt_of_lt_of_le HMD.out ht2
          have hsum := rc_sum (cy := cy) (d := d) (fr := fr) hcy HMD2.out hf2
          have HSS : Hid (cy + d * fr < 131072) := rc_lt hcy HMD2.out hf2
          have hdv := rc_div (s := cy + d * fr) (tt := tt) HSS.out
          have hmd := rc_mod (s := cy + d * fr) ht ht2
          have HOS : Hid (Rcw w (wz.setCell ⟨g, i, none⟩ (.int .u8 (((cy + d * fr) % tt : Nat) : Int))) (.slice (some ⟨g, 0, none⟩) L.length c2) (M.set i ((cy + d * fr) % tt))) := by
            have h1 := own_set (j := i) (.int .u8 (((cy + d * fr) % tt : Nat) : Int)) ho
            rw [bv_setL] at h1
            have hge := (ho.lt g rfl).1
            exact ⟨by rw [List.length_set, HML.out]; exact h1, HJ.out.b.trans (((Kp.refl (fun q => q = g) wz).setCell _ _ (fun _ => rfl)).below HJ.out.b.size (fun q e => by omega))⟩
          have HS := hide hsum
          have HD := hide hdv
          have HMO := hide hmd
          clear ho hsum hdv hmd HI HJ HM
          generalize cy + d * fr = sm at *
          generalize sm % tt = m at *
          generalize sm / tt = q at *
          as_aux_lemma =>
          go_wp2_with fail
          go_roundw
          case rel => exact ⟨i + 1, q, M.set i m, by go_num, by rw [HS.out, HD.out], HST, by rw [HS.out, HMO.out]; exact HOS⟩
          case measure => simp [intOf]; omega
        · have hie : i = L.length := by have := HM.out.q; omega
          have g3 : ¬ (i : Int) < (L.length : Int) := by omega
          subst hie
          have HE0 : Hid (Rce tt (valB fr (xs.take (k + 1))) M cy) := by
            rw [HTK.out]
            exact HM.out.done HR.out (by omega)
          clear hML hcy HM
          go_wp2_with fail
          go_loopw [8, 11] (fun vl cc wx => ∃ (cy2 : Nat) (M2 : List Nat), cc = .int .i64 (cy2 : Nat) ∧ Hid (Rce tt (valB fr (xs.take (k + 1))) M2 cy2) ∧ Hid (Rcw w wx vl M2)) (fun _ cc _ => (intOf cc).toNat)
          case atStart => exact ⟨cy, M, rfl, HE0, HJ⟩
          case round => as_aux_lemma =>
            rename World => wv
            obtain ⟨cy2, M2, rfl, HE, HW⟩ := hrel
            clear HE0 HJ HI
            obtain ⟨a4, c4, hv4, _⟩ := own_form HW.out.o
            subst hv4
            have hcy2 := HE.out.c
            by_cases hp : 0 < cy2
            · have g7 : (0 : Int) < (cy2 : Int) := by omega
              have HLN := hide (HE.out.len hp HP2.out hf hf2 ht)
              rw [HL2.out] at HLN
              have HST := hide (HE.out.step hp ht)
              have hdv : (cy2 : Int) / (tt : Int) = ((cy2 / tt : Nat) : Int) := (Int.natCast_ediv cy2 tt).symm
              have hmd : (cy2 : Int) % (tt : Int) % 256 = ((cy2 % tt : Nat) : Int) := by
                have h := Nat.mod_lt cy2 (show 0 < tt by omega)
                rw [← Int.natCast_emod]
                omega
              have hm256 : cy2 % tt < 256 := by have := Nat.mod_lt cy2 (show 0 < tt by omega); omega
              have hdl : cy2 / tt < cy2 := Nat.div_lt_self hp (by omega)
              generalize cy2 % tt = m at *
              generalize cy2 / tt = q at *
              have HL1 := hide (one_bsl wv m hm256)
              have HA1 := hide (HW.out.o.alloc (.cells #[.int .u8 ((m : Nat) : Int)] 5))
              have HZ1 : Hid (M2.length + ([m] : List Nat).length ≤ 140737488355328) := by have := HLN.out; show _ ≤ _; rw [List.length_singleton]; omega
              have HBZ : Hid (w.heap.size ≤ (wv.alloc (.cells #[.int .u8 ((m : Nat) : Int)] 5)).heap.size) := by have := HW.out.b.size; show _ ≤ _; simp; omega
              have HBA : Hid (Below w.heap.size w (wv.alloc (.cells #[.int .u8 ((m : Nat) : Int)] 5))) := HW.out.b.alloc HW.out.b.size _
              go_wp2_with (at_builtin; refine append_bsl rfl _ _ rfl w.heap.size _ M2.length M2 rfl HA1.out _ [m] rfl HL1.out HZ1.out HBZ.out ?_)
              intro v7 w7 ho7 hg7
              have HB7 : Hid (Below w.heap.size w w7) := HBA.out.grown hg7 HBZ.out (fun g hg => (HA1.out.lt g hg).1)
              have HO7 : Hid (w7.ownsRow w.heap.size 5 1 v7 (M2 ++ [m]).length (bv (M2 ++ [m]))) := by show World.ownsRow _ _ _ _ _ _ _; rw [List.length_append]; exact ho7
              obtain ⟨a7, c7, hv7, _⟩ := own_form ho7
              subst hv7
              clear ho7 hg7 HA1 HL1 HBA HW
              go_wp2_with fail
              go_roundw
              case rel => exact ⟨q, M2 ++ [m], rfl, HST, ⟨HO7.out, HB7.out⟩⟩
              case measure => simp [intOf]; omega
            · have hz : cy2 = 0 := by omega
              subst hz
              have HRD : Hid (Rcd fr tt (xs.take (k + 1)) M2) := HE.out.done
              have HZR : Hid (nz (xs.take (k + 1)) = if M2 = [] then nz (xs.take k) + 1 else nz (xs.take k)) := by
                have h := HRD.out
                rw [HTK.out] at h
                show _ = _
                rw [HTK.out]
                exact h.zeros ht (by omega)
              have hnz : nz (xs.take k) ≤ 1000 := by have h := nz_le (xs.take k); rw [List.length_take] at h; omega
              clear HE hcy2
              by_cases hm : M2 = []
              · subst hm
                rw [if_pos rfl] at HZR
                simp only [List.length_nil] at HW ⊢
                go_wp2_with fail
                go_roundw
                case rel => exact ⟨k + 1, [], by omega, by go_num, by rw [HZR.out]; go_num, HRD, HW⟩
                case measure => simp [intOf]; omega
              · rw [if_neg hm] at HZR
                have g9 : ((M2.length : Int) == 0) = false := beq_eq_false_iff_ne.2 (by have := List.length_pos_iff.2 hm; omega)
                go_wp2_with fail
                go_roundw
                case rel => exact ⟨k + 1, M2, by omega, by go_num, by rw [HZR.out], HRD, HW⟩
                case measure => simp [intOf]; omega
    · have hkx : k = xs.length := by omega
      have g1 : ¬ (k : Int) < (xs.length : Int) := by omega
      have HTA : Hid (xs.take k = xs) := List.take_of_length_le (by omega)
      rw [HTA.out] at HR ⊢
      have HCV := hide (HR.out.conv ht)
      have HRD := hide HR.out.d
      have hLm : L.length ≤ 8000 := by have := HLL.out; omega
      have hzm : nz xs ≤ 1000 := by have := nz_le xs; omega
      clear HLL HPX hkx hlt HR hk HTA
      go_wp2_with fail
      refine (reverse_any HI.out.o (by omega)).mono ?_
      rintro e w1 ⟨rfl, ho1, hk1⟩
      have HO1 := hide ho1
      have HB1 : Hid (Below w.heap.size w w1) := HI.out.b.trans (hk1.below HI.out.b.size (fun q e => (HI.out.o.lt q e).1))
      have hmk := mk_bytes w1 (nz xs) (nz xs + L.length) (by omega) (by omega)
      have HM0 := hide (mk_own w1 w.heap.size (nz xs) (nz xs + L.length) (by omega) (by omega) HB1.out.size)
      have HB2 : Hid (Below w.heap.size w (w1.alloc (.cells (bv (List.replicate (nz xs + L.length) 0)).toArray 5))) := HB1.out.trans ((below_alloc4 w1 _).mono HB1.out.size)
      have HRB : Hid (∀ y ∈ L.reverse, y < 256) := fun y hy => by have := HRD.out y (List.mem_reverse.1 hy); omega
      have ho2 : w1.ownsRow w.heap.size 5 1 (.slice a2 L.length c2) L.reverse.length (bv L.reverse) := by rw [List.length_reverse]; exact HO1.out
      have HV2 := hide ((BSl.own ho2 HRB.out).move (keep_below (below_alloc4 w1 (.cells (bv (List.replicate (nz xs + L.length) 0)).toArray 5))))
      have HZ2 : Hid (nz xs + L.reverse.length ≤ 140737488355328) := by show _ ≤ _; rw [List.length_reverse]; omega
      have hcs : ((nz xs + L.length : Nat) : Int) = (nz xs : Int) + (L.length : Int) := by omega
      rw [hcs] at hmk
      clear ho1 hk1 ho2 hcs HO1 HI
      go_wp2_with (at_builtin; refine append_bsl rfl _ _ rfl w.heap.size _ (nz xs) (List.replicate (nz xs) 0) rfl HM0.out _ L.reverse rfl HV2.out HZ2.out HB2.out.size ?_)
      intro v7 w7 ho7 hg7
      have HB7 : Hid (Below w.heap.size w w7) := HB2.out.grown hg7 HB2.out.size (fun g hg => (HM0.out.lt g hg).1)
      have HO7 : Hid (w7.ownsRow w.heap.size 5 1 v7 (conv fr tt xs).length (bv (conv fr tt xs))) := by
        show World.ownsRow _ _ _ _ _ _ _
        rw [HCV.out, List.length_append, List.length_replicate]
        rw [List.length_reverse]
        exact ho7
      obtain ⟨a7, c7, hv7, _⟩ := own_form ho7
      subst hv7
      clear ho7 hg7 HM0 HV2
      go_wp2_with fail
      go_ret
      exact ⟨_, rfl, HO7.out, HB7.out⟩
end
section
open Go.RowKit Go
/-- A row's digits in a base. -/
def cutd (b : Bs) (xs : List Nat) : List Nat := if b.n = 0 then conv 256 b.t.size xs else encW b.n xs
/-- A base that may be. -/
structure Bok (b : Bs) : Prop where
  n : b.n ≤ 8
  t : 2 ≤ b.t.size
  t2 : b.t.size ≤ 58
  e : b.n ≠ 0 → 2 ^ b.n = b.t.size
  w : tells (sl b.t)
  z : b.l.size ≤ 8
theorem bok16 : Bok b16 := ⟨by decide, by decide, by decide, fun _ => by decide, by show tells (sl s16); rw [sl16]; exact tells16, by decide⟩
theorem bok32 : Bok b32 := ⟨by decide, by decide, by decide, fun _ => by decide, by show tells (sl s32); rw [sl32]; exact tells32, by decide⟩
theorem bok58 : Bok b58 := ⟨by decide, by decide, by decide, fun h => absurd rfl h, by show tells (sl s58); rw [sl58]; exact tells58, by decide⟩
theorem cutd_lt {b : Bs} (hb : Bok b) (xs : List Nat) : ∀ x ∈ cutd b xs, x < b.t.size := by
  unfold cutd
  split
  · exact conv_lt hb.t xs
  · rename_i h
    rw [← hb.e h]
    exact encW_lt (by omega) xs
theorem byte8 {xs : List Nat} (h : ∀ x ∈ xs, x < 256) : ∀ x ∈ xs, x < 2 ^ 8 := h
set_option maxRecDepth 1000000 in
set_option maxHeartbeats 1000000 in
theorem cut_any (w : World) (b : Bs) (v : Value) (xs : List Nat) (hb : Bok b) (hv : BSl w v xs) (hl : xs.length ≤ 1000) :
    Calls Tryd.prog 57 #[.agg b.cs, v] w fun e w' => ∃ vo, e = .returned vo ∧ w'.ownsRow w.heap.size 5 1 vo (cutd b xs).length (bv (cutd b xs)) ∧ Below w.heap.size w w' := by
  have HV := hide hv
  have HB := hide hb
  have HL := hide hl
  obtain ⟨⟨a, cap, rfl, hn, hc⟩, hmax, hby⟩ := hv
  have HBY := hide hby
  clear hn hc hby hb hl
  obtain ⟨bl, bt, bn⟩ := b
  have HT : Hid ((w.alloc (.cells #[.string bl, .string bt, .int .i64 (bn : Nat)] 62)).heap[w.heap.size]? = some (.cells #[.string bl, .string bt, .int .i64 (bn : Nat)] 62 (0, 0))) := heap_alloc_new w _
  have HB0 := hide (below_alloc4 w (.cells #[.string bl, .string bt, .int .i64 (bn : Nat)] 62))
  have HV0 := hide (HV.out.move (keep_below HB0.out))
  simp only [Bs.cs]
  by_cases h0 : bn = 0
  · subst h0
    have HCU : Hid (cutd ⟨bl, bt, 0⟩ xs = conv 256 bt.size xs) := rfl
    rw [HCU.out]
    go_enter Tryd.func57, Tryd.ntmps57
    go_wp2_with fail
    have HT0 : Hid ((w.alloc (.cells #[.string bl, .string bt, .int .i64 0] 62)).heap[w.heap.size]? = some (.cells #[.string bl, .string bt, .int .i64 0] 62 (0, 0))) := heap_alloc_new w _
    have HBX : Hid (Below w.heap.size w (w.alloc (.cells #[.string bl, .string bt, .int .i64 0] 62))) := below_alloc4 w _
    have HVX := hide (HV.out.move (keep_below HBX.out))
    clear HT HB0 HV0
    generalize w.alloc (.cells #[.string bl, .string bt, .int .i64 0] 62) = w0 at *
    have HRC : Calls Tryd.prog 63 #[.slice a xs.length cap, .int .i64 256, .int .i64 (bt.size : Nat)] w0 _ := recast_any w0 _ xs 256 bt.size HVX.out (by decide) (by decide) HB.out.t (Nat.le_trans HB.out.t2 (by decide)) HBY.out HL.out
    refine HRC.mono ?_
    rintro e w1 ⟨vo, rfl, ho, hb1⟩
    have HO := hide (own_mono4 ho HBX.out.size)
    have HB1 : Hid (Below w.heap.size w w1) := HBX.out.trans (hb1.mono HBX.out.size)
    obtain ⟨a2, c2, hv2, _⟩ := own_form ho
    subst hv2
    clear ho hb1
    go_wp2_with fail
    go_ret
    exact ⟨_, rfl, HO.out, HB1.out⟩
  · have HCU : Hid (cutd ⟨bl, bt, bn⟩ xs = encW bn xs) := by show _ = _; unfold cutd; rw [if_neg h0]
    rw [HCU.out]
    have g0 : ((bn : Int) == 0) = false := beq_eq_false_iff_ne.2 (by omega)
    have hn8 : bn ≤ 8 := HB.out.n
    have h0' : 0 < bn := by omega
    have q2 : (w.alloc (.cells #[.string bl, .string bt, .int .i64 (bn : Nat)] 62)).cell? ⟨w.heap.size, 2, none⟩ = some (.int .i64 (bn : Nat)) := blk_cell HT.out rfl
    clear h0
    go_enter Tryd.func57, Tryd.ntmps57
    go_wp2_with fail
    generalize w.alloc (.cells #[.string bl, .string bt, .int .i64 (bn : Nat)] 62) = w0 at *
    have HRC : Calls Tryd.prog 64 #[.slice a xs.length cap, .int .i64 8, .int .i64 (bn : Nat)] w0 _ := regroup_any w0 _ xs 8 bn HV0.out (by decide) (by decide) h0' hn8 (byte8 HBY.out) HL.out
    refine HRC.mono ?_
    rintro e w1 ⟨vo, out, R, rfl, hg, hR, ho, hb1⟩
    have HEN := hide (encW_rg h0' hg hR)
    have HRS : Hid (valB 2 R < 2 ^ R.length) := valB_lt (b := 2) (by decide) hg.r
    have HOL : Hid (out.length ≤ 8000) := by
      have h := hg.len
      rw [flat_len] at h
      have h2 : out.length * 1 ≤ out.length * bn := Nat.mul_le_mul_left _ h0'
      have := HL.out
      show _ ≤ _
      omega
    have HO := hide (own_mono4 ho HB0.out.size)
    have HB1 : Hid (Below w.heap.size w w1) := HB0.out.trans (hb1.mono HB0.out.size)
    have q3 : w1.cell? ⟨w.heap.size, 2, none⟩ = some (.int .i64 (bn : Nat)) := keep_below hb1 _ _ q2
    obtain ⟨a2, c2, hv2, _⟩ := own_form ho
    subst hv2
    clear ho hb1 hg q2 HV0 HT
    by_cases hR0 : R = []
    · as_aux_lemma =>
      rw [if_pos hR0, List.append_nil] at HEN
      subst hR0
      simp only [List.length_nil]
      go_wp2_with fail
      go_ret
      exact ⟨_, rfl, by rw [HEN.out]; exact HO.out, HB1.out⟩
    · as_aux_lemma =>
      rw [if_neg hR0] at HEN
      have hRp : 0 < R.length := List.length_pos_iff.2 hR0
      have g1 : (0 : Int) < (R.length : Int) := by omega
      have hV : valB 2 R * 2 ^ (bn - R.length) < 256 := by
        have h1 : (valB 2 R + 1) * 2 ^ (bn - R.length) ≤ 2 ^ R.length * 2 ^ (bn - R.length) := Nat.mul_le_mul_right _ HRS.out
        rw [← Nat.pow_add] at h1
        have e : R.length + (bn - R.length) = bn := by omega
        rw [e, Nat.add_mul, Nat.one_mul] at h1
        have h2 := pow_le8 hn8
        have h3 : 0 < 2 ^ (bn - R.length) := Nat.pow_pos (by decide)
        omega
      generalize hX : valB 2 R * 2 ^ (bn - R.length) = X at *
      have hXI : ((valB 2 R : Nat) : Int) * 2 ^ (bn - R.length) = (X : Int) := by rw [← hX, Int.natCast_mul, Int.natCast_pow]; rfl
      have HL1 := hide (one_bsl w1 X hV)
      have HA1 := hide (HO.out.alloc (.cells #[.int .u8 ((X : Nat) : Int)] 5))
      have HZ1 : Hid (out.length + ([X] : List Nat).length ≤ 140737488355328) := by have := HOL.out; show _ ≤ _; rw [List.length_singleton]; omega
      have HBZ : Hid (w.heap.size ≤ (w1.alloc (.cells #[.int .u8 ((X : Nat) : Int)] 5)).heap.size) := by have := HB1.out.size; show _ ≤ _; simp; omega
      have HBA : Hid (Below w.heap.size w (w1.alloc (.cells #[.int .u8 ((X : Nat) : Int)] 5))) := HB1.out.alloc HB1.out.size _
      clear hX hR0
      go_wp2_with (at_builtin; refine append_bsl rfl _ _ rfl w.heap.size _ out.length out rfl HA1.out _ [X] rfl HL1.out HZ1.out HBZ.out ?_)
      intro v7 w7 ho7 hg7
      have HB7 : Hid (Below w.heap.size w w7) := HBA.out.grown hg7 HBZ.out (fun g hg => (HA1.out.lt g hg).1)
      have HO7 : Hid (w7.ownsRow w.heap.size 5 1 v7 (out ++ [X]).length (bv (out ++ [X]))) := by show World.ownsRow _ _ _ _ _ _ _; rw [List.length_append]; exact ho7
      obtain ⟨a7, c7, hv7, _⟩ := own_form ho7
      subst hv7
      clear ho7 hg7 HA1 HL1 HBA
      go_wp2_with fail
      go_ret
      exact ⟨_, rfl, by rw [HEN.out]; exact HO7.out, HB7.out⟩
end
section
open Go.RowKit Go
/-- A row's text in a base. -/
def btext (b : Bs) (xs : List Nat) : List Nat := (cutd b xs).map fun d => (sl b.t).getD d 0
theorem btext_byte (b : Bs) (xs : List Nat) : ∀ x ∈ btext b xs, x < 256 := by
  intro x hx
  obtain ⟨d, _, rfl⟩ := List.mem_map.1 hx
  exact getD_lt (sl_byte b.t) d
theorem map_step (ds : List Nat) (f : Nat → Nat) (k : Nat) (hk : k < ds.length) : ((ds.take k).map f ++ ds.drop k).set k (f (ds.getD k 0)) = (ds.take (k + 1)).map f ++ ds.drop (k + 1) := by
  rw [take_at ds k hk, List.map_append, List.drop_eq_getElem_cons hk, List.set_append_right _ _ (by simp; omega)]
  have hl : ((ds.take k).map f).length = k := by rw [List.length_map, List.length_take]; omega
  rw [hl, Nat.sub_self, List.set_cons_zero]
  simp
theorem map_get (ds : List Nat) (f : Nat → Nat) (k : Nat) (hk : k < ds.length) : ((ds.take k).map f ++ ds.drop k).getD k 0 = ds.getD k 0 := by
  have hl : ((ds.take k).map f).length = k := by rw [List.length_map, List.length_take]; omega
  rw [List.getD_eq_getElem?_getD, List.getElem?_append_right (by omega), hl, Nat.sub_self, List.getElem?_drop, Nat.add_zero, ← List.getD_eq_getElem?_getD]
theorem map_len (ds : List Nat) (f : Nat → Nat) (k : Nat) (hk : k ≤ ds.length) : ((ds.take k).map f ++ ds.drop k).length = ds.length := by
  rw [List.length_append, List.length_map, List.length_take, List.length_drop]
  omega
theorem cutd_len {b : Bs} (hb : Bok b) {xs : List Nat} (h : ∀ x ∈ xs, x < 256) : (cutd b xs).length ≤ 9 * xs.length + 9 := by
  unfold cutd
  split
  · unfold conv
    rw [List.length_append, List.length_replicate]
    have hd : ∀ x ∈ xs.dropWhile (· == 0), x < 256 := fun x hx => h x ((List.dropWhile_suffix _).subset hx)
    have h1 := digB_len hb.t _ _ (val_pow hd (by decide) (by decide) hb.t)
    have h2 := congrArg List.length (List.takeWhile_append_dropWhile (p := (· == 0)) (l := xs))
    rw [List.length_append] at h2
    omega
  · rename_i h0
    unfold encW
    rw [grp_len (by omega) _ _ (Nat.le_refl _), List.length_append, flat_len, List.length_replicate]
    have h1 := Nat.mod_lt (b.n - xs.length * 8 % b.n) (show 0 < b.n by omega)
    have h2 := hb.n
    have h3 := Nat.div_le_self (xs.length * 8 + (b.n - xs.length * 8 % b.n) % b.n) b.n
    omega
set_option maxRecDepth 1000000 in
set_option maxHeartbeats 1000000 in
theorem text_any (w : World) (b : Bs) (v : Value) (xs : List Nat) (hb : Bok b) (hv : BSl w v xs) (hl : xs.length ≤ 1000) :
    Calls Tryd.prog 34 #[.agg b.cs, v] w fun e w' => e = .returned (.string (nstr (btext b xs))) ∧ Below w.heap.size w w' := by
  have HV := hide hv
  have HB := hide hb
  have HL := hide hl
  obtain ⟨⟨a, cap, rfl, hn, hc⟩, hmax, hby⟩ := hv
  have HBY := hide hby
  have HCL : Hid ((cutd b xs).length ≤ 10000) := by have := cutd_len hb hby; show _ ≤ _; omega
  have HCD := hide (cutd_lt hb xs)
  have HBT : Hid (btext b xs = (cutd b xs).map fun d => (sl b.t).getD d 0) := rfl
  have HBB := hide (btext_byte b xs)
  clear hn hc hby hb hl
  obtain ⟨bl, bt, bn⟩ := b
  have HT : Hid ((w.alloc (.cells #[.string bl, .string bt, .int .i64 (bn : Nat)] 62)).heap[w.heap.size]? = some (.cells (Bs.cs ⟨bl, bt, bn⟩) 62 (0, 0))) := heap_alloc_new w _
  have HB0 := hide (below_alloc4 w (.cells #[.string bl, .string bt, .int .i64 (bn : Nat)] 62))
  have HV0 := hide (HV.out.move (keep_below HB0.out))
  simp only [Bs.cs]
  go_enter Tryd.func34, Tryd.ntmps34
  go_wp2_with fail
  generalize w.alloc (.cells #[.string bl, .string bt, .int .i64 (bn : Nat)] 62) = w0 at *
  refine (cut_any w0 ⟨bl, bt, bn⟩ _ xs HB.out HV0.out HL.out).mono ?_
  rintro e w1 ⟨vo, rfl, ho, hb1⟩
  have HO := hide (own_mono4 ho HB0.out.size)
  have HB1 : Hid (Below w.heap.size w w1) := HB0.out.trans (hb1.mono HB0.out.size)
  have HT1 : Hid (w1.heap[w.heap.size]? = some (.cells (Bs.cs ⟨bl, bt, bn⟩) 62 (0, 0))) := (hb1.block _ (blk_lt HT.out)).trans HT.out
  have HGE : Hid (∀ g, vo.ownBlock = some g → ¬ g = w.heap.size) := fun g hg e => by have := (ho.lt g hg).1; have := blk_lt HT.out; omega
  obtain ⟨a2, c2, hv2, hcp, hq0⟩ := own_form ho
  subst hv2
  clear hq0 ho hb1 HT HV0 HB0
  generalize hDS : cutd ⟨bl, bt, bn⟩ xs = ds at *
  generalize hBX : btext ⟨bl, bt, bn⟩ xs = bx at *
  have HBXE := hide hBX
  clear hDS hBX
  go_wp2_with fail
  go_loopw [13] (fun ii wx => ∃ k : Nat, k ≤ ds.length ∧ ii = .int .i64 (k : Nat) ∧ Hid (wx.ownsRow w.heap.size 5 1 (.slice a2 ds.length c2) ds.length (bv ((ds.take k).map (fun d => (sl bt).getD d 0) ++ ds.drop k))) ∧ Hid (wx.heap[w.heap.size]? = some (.cells (Bs.cs ⟨bl, bt, bn⟩) 62 (0, 0))) ∧ Hid (Below w.heap.size w wx)) (fun ii _ => ds.length - (intOf ii).toNat)
  case atStart => exact ⟨0, by omega, rfl, HO, HT1, HB1⟩
  case round =>
    obtain ⟨k, hk, rfl, HI, HTI, HBI⟩ := hrel
    have hdl : ds.length ≤ 10000 := HCL.out
    by_cases hlt : k < ds.length
    · have g1 : (k : Int) < (ds.length : Int) := by omega
      obtain ⟨a3, c3, hv3, hq1, hq2, hcl⟩ := own_form HI.out
      injection hv3 with e1 e2 e3
      subst e1
      obtain ⟨g, rfl, hq3⟩ := hcl k _ (bv_get (by rw [map_len _ _ _ (by omega)]; exact hlt))
      obtain ⟨q1, f1⟩ := own_cell HI.out (bv_get (xs := (ds.take k).map (fun d => (sl bt).getD d 0) ++ ds.drop k) (j := k) (by rw [map_len _ _ _ (by omega)]; exact hlt))
      rw [map_get ds _ k hlt] at q1
      have hDX : ds.getD k 0 < bt.size := by
        rw [List.getD_eq_getElem?_getD, List.getElem?_eq_getElem hlt]
        exact HCD.out _ (List.getElem_mem hlt)
      have hDX2 : (ds.getD k 0 : Int) < (bt.size : Int) := by omega
      have c1 : wr.cell? ⟨w.heap.size, 1, none⟩ = some (.string bt) := blk_cell HTI.out rfl
      have HMS := hide (map_step ds (fun d => (sl bt).getD d 0) k hlt)
      have HSA := hide (sl_at bt (ds.getD k 0) hDX)
      have HGN : Hid (¬ g = w.heap.size) := HGE.out g rfl
      have hgn : ¬ g = w.heap.size := HGN.out
      clear hcl e2 e3 hq1 hq2 hq3
      generalize ds.getD k 0 = d at *
      have HSV : Hid (wr.setCell ⟨g, k, none⟩ (.int .u8 (bt[d].toNat : Int)) = wr.setCell ⟨g, k, none⟩ (.int .u8 (((sl bt).getD d 0 : Nat) : Int))) := by show _ = _; rw [HSA.out]
      go_wp2_with fail
      go_roundw
      case rel => 
        refine ⟨k + 1, by omega, by go_num, ?_, ?_, ?_⟩
        · show World.ownsRow _ _ _ _ _ _ _
          rw [HSV.out, ← HMS.out, ← bv_setL]
          exact own_set _ HI.out
        · exact blk_other _ _ HTI.out (fun e => hgn e.symm)
        · exact HBI.out.trans (((Kp.refl (fun q => q = g) wr).setCell ⟨g, k, none⟩ _ (fun _ => rfl)).below HBI.out.size (fun q e => by subst e; exact (HI.out.lt q rfl).1))
      case measure => simp [intOf]; omega
    · have hke : k = ds.length := by omega
      have g1 : ¬ (k : Int) < (ds.length : Int) := by omega
      have ho := HI.out
      rw [List.take_of_length_le (by omega), List.drop_of_length_le (by omega), List.append_nil, ← HBT.out] at ho
      have hbl : bx.length = ds.length := by rw [HBT.out, List.length_map]
      rw [← hbl] at ho
      have HBS := hide (BSl.own ho HBB.out)
      rw [hbl] at HBS
      have cv := HBS.out.text
      clear ho hbl hke hlt
      go_wp2_with fail
      go_ret
      exact ⟨by rw [HBXE.out]; rfl, HBI.out⟩
end
section
open Go.RowKit Go
set_option maxRecDepth 1000000 in
set_option maxHeartbeats 1000000 in
/-- slices.Grow of nil. -/
theorem grow_any (w : World) (n : Nat) (h0 : 0 < n) (hn : n ≤ 1000) :
    Calls Tryd.prog 77 #[.slice none 0 0, .int .i64 (n : Nat)] w fun e w' => ∃ v, e = .returned v ∧ w'.ownsRow w.heap.size 5 1 v 0 (bv []) ∧ Below w.heap.size w w' := by
  obtain ⟨i5, hi, hz0, hz1, hz2⟩ := info5_ex
  have hold : (Builtin.firstCells i5.size 0 (.slice none 0 0)).run Tryd.prog w.drew = .ok ([] : List Value).toArray w.drew := run_firstCells_none w.drew i5.size 0 0 0
  have hrz : ∀ ty, (Builtin.append_ #[47, 3] ty #[.slice none 0 0, .int .i64 (n : Nat)]).run Tryd.prog w = .ok (.slice (some ⟨w.heap.size, 0, none⟩) n (grownCap w n 0 5)) (w.drew.alloc (.cells (Builtin.zeroCells (Value.int .u8 0).cells n ++ Builtin.zeroCells (Value.int .u8 0).cells (grownCap w n 0 5 - n)) 5)) := fun ty => by
    have h := Lib.run_append_grow_zeros w 47 3 ty 5 i5 (.int .u8 0) .i64 .i64 Tryd.underlying47 Tryd.underlying3 hi hz0 none 0 0 [] hold n h0 (by rw [hz1]; omega) (by omega) (by omega) (by rw [hz2]; omega) (growslice_fits (by omega) (by rw [hz2]; omega))
    simpa using h
  have hG := grownCap_ge w n 0 5
  have hM := grownCap_le_maxLen w n 0 5 (by unfold maxLen; omega)
  have HO : Hid ((w.drew.alloc (.cells (Builtin.zeroCells (Value.int .u8 0).cells n ++ Builtin.zeroCells (Value.int .u8 0).cells (grownCap w n 0 5 - n)) 5)).ownsRow w.heap.size 5 1 (.slice (some ⟨w.heap.size, 0, none⟩) 0 (grownCap w n 0 5)) 0 (bv [])) := by
    refine ⟨rfl, .inr ⟨w.heap.size, grownCap w n 0 5, _, rfl, Nat.le_refl _, heap_alloc_new w.drew _, by omega, hM, ?_, by simp [bv]⟩⟩
    simp [Builtin.zeroCells, Value.cells]
    omega
  have HB : Hid (Below w.heap.size w (w.drew.alloc (.cells (Builtin.zeroCells (Value.int .u8 0).cells n ++ Builtin.zeroCells (Value.int .u8 0).cells (grownCap w n 0 5 - n)) 5))) := (Below.refl w.heap.size w).drew.alloc (Nat.le_refl _) _
  clear hold hi hz0 hz1 hz2
  have h1 : ¬ ((n : Int) < 0) := by omega
  have h4 : (n : Int) > 0 := by omega
  have hG63 : (grownCap w n 0 5 : Int) ≤ 9223372036854775807 := by unfold maxLen at hM; omega
  generalize grownCap w n 0 5 = G at *
  go_enter Tryd.func77, Tryd.ntmps77
  go_wp2_with (at_builtin; refine Lib.wpList_append_run _ rfl _ _ _ _ rfl _ _ rfl rfl _ _ (hrz _) ?_)
  go_ret
  exact ⟨_, rfl, HO.out, HB.out⟩
end
section
open Go.RowKit Go
/-- Rows of bytes in a block of slices. -/
structure Rws (w : World) (g : Nat) (vs : List Value) (xss : List (List Nat)) : Prop where
  n : vs.length = xss.length
  c : ∀ i, i < vs.length → w.cell? ⟨g, i, none⟩ = some (vs.getD i undef)
  b : ∀ i, i < vs.length → BSl w (vs.getD i undef) (xss.getD i [])
theorem Rws.below {w w' : World} {g : Nat} {vs : List Value} {xss : List (List Nat)} (h : Rws w g vs xss) (hb : Below w.heap.size w w') : Rws w' g vs xss :=
  ⟨h.n, fun i hi => keep_below hb _ _ (h.c i hi), fun i hi => (h.b i hi).move (keep_below hb)⟩
/-- How many bytes the first k rows have, and all bytes. -/
def fln (xss : List (List Nat)) (k : Nat) : Nat := (xss.take k).flatten.length
def fla (xss : List (List Nat)) (k : Nat) : List Nat := (xss.take k).flatten
theorem fla_len (xss : List (List Nat)) (k : Nat) : (fla xss k).length = fln xss k := rfl
theorem fla_succ (xss : List (List Nat)) (k : Nat) (hk : k < xss.length) : fla xss (k + 1) = fla xss k ++ xss.getD k [] := by
  unfold fla
  rw [List.take_succ_eq_append_getElem hk, List.flatten_append]
  simp [List.getD, hk]
theorem fln_succ (xss : List (List Nat)) (k : Nat) (hk : k < xss.length) : fln xss (k + 1) = fln xss k + (xss.getD k []).length := by
  rw [← fla_len, ← fla_len, fla_succ xss k hk, List.length_append]
theorem fln_le (xss : List (List Nat)) (k : Nat) : fln xss k ≤ fln xss xss.length := by
  unfold fln
  rw [List.take_length]
  conv => rhs; rw [← List.take_append_drop k xss, List.flatten_append, List.length_append]
  omega
theorem fla_all (xss : List (List Nat)) : fla xss xss.length = xss.flatten := by unfold fla; rw [List.take_length]
set_option maxRecDepth 1000000 in
set_option maxHeartbeats 1000000 in
/-- slices.Concat. -/
theorem concat_any (w : World) (g n : Nat) (vs : List Value) (xss : List (List Nat)) (hr : Rws w g vs xss) (hn : vs.length = n) (hn0 : n ≤ 100) (h0 : 0 < fln xss n) (hl : fln xss n ≤ 1000) :
    Calls Tryd.prog 52 #[.slice (some ⟨g, 0, none⟩) n n] w fun e w' => ∃ v, e = .returned v ∧ w'.ownsRow w.heap.size 5 1 v (fln xss n) (bv (fla xss n)) ∧ Below w.heap.size w w' := by
  have HR := hide hr
  have HN := hide hn
  have HL := hide hl
  have H0 := hide h0
  have HX : Hid (xss.length = n) := by have := hr.n; show _ = _; omega
  clear hr hn hl h0
  go_enter Tryd.func52, Tryd.ntmps52
  go_wp2_with fail
  go_loopw [3, 11] (fun ss ii wx => wx = w ∧ ∃ k : Nat, k ≤ n ∧ ii = .int .i64 (k : Nat) ∧ ss = .int .i64 (fln xss k : Nat)) (fun _ ii _ => n - (intOf ii).toNat)
  case atStart => exact ⟨rfl, 0, by omega, rfl, rfl⟩
  case round =>
    obtain ⟨rfl, k, hk, rfl, rfl⟩ := hrel
    by_cases hlt : k < n
    · have g1 : (k : Int) < (n : Int) := by omega
      have q1 := HR.out.c k (by have := HN.out; omega)
      have HB1 := hide (HR.out.b k (by have := HN.out; omega))
      have HF := hide (fln_succ xss k (by have := HX.out; omega))
      have HF2 := hide (fln_le xss (k + 1))
      obtain ⟨⟨a, cap, hv, _⟩, _, _⟩ := HB1.out
      rw [hv] at q1
      have g3 : fln xss k + (xss.getD k []).length ≤ 1000 := by have := HF2.out; rw [HF.out, HX.out] at this; have := HL.out; omega
      have HSU : Hid (fln xss k + (xss.getD k []).length = fln xss (k + 1)) := HF.out.symm
      clear hv HF HF2
      generalize fln xss k = s1 at *
      generalize (xss.getD k []).length = s3 at *
      have g2 : ¬ ((s1 : Int) + (s3 : Int) < 0) := by omega
      go_wp2_with fail
      go_roundw
      case rel => exact ⟨trivial, k + 1, by omega, by go_num, by have := HSU.out; congr 1; omega⟩
      case measure => simp [intOf]; omega
    · have hkn : k = n := by omega
      subst hkn
      have g1 : ¬ (k : Int) < (k : Int) := by omega
      generalize hS : fln xss k = S at *
      have HS := hide hS
      clear hS hlt
      have h1 := H0.out
      have h2 := HL.out
      go_wp2_with fail
      refine (grow_any wr S h1 h2).mono ?_
      rintro e w1 ⟨v1, rfl, ho1, hb1⟩
      have HO1 := hide ho1
      have HB1 := hide hb1
      clear ho1 hb1
      obtain ⟨a1, c1, hv1, _⟩ := own_form HO1.out
      subst hv1
      go_wp2_with fail
      go_loopw [6, 27] (fun vv ii wx => ∃ j : Nat, j ≤ k ∧ ii = .int .i64 (j : Nat) ∧ Hid (wx.ownsRow wr.heap.size 5 1 vv (fln xss j) (bv (fla xss j))) ∧ Hid (Below wr.heap.size wr wx)) (fun _ ii _ => k - (intOf ii).toNat)
      case atStart => exact ⟨0, by omega, rfl, HO1, HB1⟩
      case round => as_aux_lemma =>
        rename World => wz
        obtain ⟨j, hj, rfl, HO, HB⟩ := hrel
        clear HO1 HB1
        by_cases hjl : j < k
        · have g5 : (j : Int) < (k : Int) := by omega
          have HR2 := hide (HR.out.below HB.out)
          have q1 := HR2.out.c j (by have := HN.out; omega)
          have HBL := hide (HR2.out.b j (by have := HN.out; omega))
          have HF := hide (fln_succ xss j (by have := HX.out; omega))
          have HFA := hide (fla_succ xss j (by have := HX.out; omega))
          have HF2 : Hid (fln xss (j + 1) ≤ 1000) := by have := fln_le xss (j + 1); rw [HX.out, HS.out] at this; exact Nat.le_trans this HL.out
          obtain ⟨⟨a, cap, hv, _⟩, _, _⟩ := HBL.out
          rw [hv] at q1 HBL
          obtain ⟨a2, c2, hv2, _⟩ := own_form HO.out
          subst hv2
          have HZ : Hid (fln xss j + (xss.getD j []).length ≤ 140737488355328) := by have := HF2.out; rw [HF.out] at this; show _ ≤ _; omega
          clear hv HR2
          go_wp2_with (at_builtin; refine append_bsl rfl _ _ rfl wr.heap.size _ (fln xss j) (fla xss j) rfl HO.out _ (xss.getD j []) rfl HBL.out HZ.out HB.out.size ?_)
          intro v7 w7 ho7 hg7
          have HB7 : Hid (Below wr.heap.size wr w7) := HB.out.grown hg7 HB.out.size (fun g hg => (HO.out.lt g hg).1)
          have HO7 : Hid (w7.ownsRow wr.heap.size 5 1 v7 (fln xss (j + 1)) (bv (fla xss (j + 1)))) := by show World.ownsRow _ _ _ _ _ _ _; rw [HF.out, HFA.out]; exact ho7
          clear ho7 hg7 HO HB HBL HF HFA HF2 HZ
          go_wp2_with fail
          go_roundw
          case rel => exact ⟨j + 1, by omega, by go_num, HO7, HB7⟩
          case measure => simp [intOf]; omega
        · have hjk : j = k := by omega
          subst hjk
          have g5 : ¬ (j : Int) < (j : Int) := by omega
          have ho := HO.out
          rw [HS.out] at ho
          obtain ⟨a2, c2, hv2, _⟩ := own_form ho
          subst hv2
          have HO2 := hide ho
          clear ho HO
          go_wp2_with fail
          go_ret
          exact ⟨_, rfl, by rw [HS.out]; exact HO2.out, HB.out⟩
end
end Go.Proofs.YtidglddjinfncaaDoor
