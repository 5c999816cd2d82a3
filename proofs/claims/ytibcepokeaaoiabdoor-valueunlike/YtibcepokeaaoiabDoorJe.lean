import Derived.Test.YtibcepokeaaoiabDoorJd
import Derived.Deep.QuietTactic
import Derived.Laws.StructEq
import Derived.SliceStrings
import Derived.Lib.SmallJoins
import Derived.Laws.Externs
import Derived.Laws.Bits64
import Derived.Laws.ResultCell
import Derived.Lib.AppendZerosOnto
import Derived.Lib.SliceRun
import Derived.Lib.BytesEntry
namespace Go.Proofs.YtibcepokeaaoiabDoor
section
open Go.RowKit Go
/-- Which stands ahead, where they differ. -/
def blt : List Nat → List Nat → Bool
  | x :: r, y :: q => if x = y then blt r q else decide (x < y)
  | _, _ => false
theorem blt_drop {x y : List Nat} {i : Nat} (hx : i < x.length) (hy : i < y.length) : blt (x.drop i) (y.drop i) = if x.getD i 0 = y.getD i 0 then blt (x.drop (i + 1)) (y.drop (i + 1)) else decide (x.getD i 0 < y.getD i 0) := by
  rw [List.drop_eq_getElem_cons hx, List.drop_eq_getElem_cons hy]
  simp [blt, List.getD, hx, hy]
theorem blt_end {x y : List Nat} {i : Nat} (h : ¬ i < x.length ∨ ¬ i < y.length) : blt (x.drop i) (y.drop i) = false := by
  rcases h with h | h
  · rw [List.drop_of_length_le (by omega)]
    rfl
  · rw [List.drop_of_length_le (l := y) (by omega)]
    cases x.drop i <;> rfl
theorem bsl_cell {w : World} {a : Option Addr} {n cap : Nat} {xs : List Nat} (h : BSl w (.slice a n cap) xs) {i : Nat} (hi : i < xs.length) : ∃ b off, a = some ⟨b, off, none⟩ ∧ w.cell? ⟨b, off + i, none⟩ = some (.int .u8 ((xs.getD i 0 : Nat) : Int)) := by
  obtain ⟨⟨a', cap', e, _, hc⟩, _, _⟩ := h
  injection e with e1 e2 e3
  subst e1
  rcases hc with hc | ⟨b, off, ha, hc⟩
  · rw [hc] at hi
    simp at hi
  · exact ⟨b, off, ha, hc i hi⟩
/-- The bytes that Bytes tells. -/
def lb (v : Int) (c h : Nat) (s : ByteArray) : List Nat := if lok ⟨v, c, h, sl s⟩ then lbytes ⟨v, c, h, sl s⟩ else []
theorem lb_byte (v : Int) (c h : Nat) (s : ByteArray) : ∀ x ∈ lb v c h s, x < 256 := by
  unfold lb
  split
  · rename_i hl
    exact lbytes_byte hl (sl_byte s)
  · simp
theorem lb_len (v : Int) (c h : Nat) (s : ByteArray) : (lb v c h s).length ≤ 76 := by
  unfold lb
  split
  · rename_i hl
    exact lbytes_len hl
  · simp
end
section
open Go.RowKit Go
theorem sl_nstr {xs : List Nat} (h : ∀ x ∈ xs, x < 256) : sl (nstr xs) = xs := by
  have key : ∀ l : List Nat, (∀ x ∈ l, x < 256) → (nstr l).data.toList.map UInt8.toNat = l := by
    intro l hl
    simp only [nstr, strOfNums_data, List.map_map]
    conv => rhs; rw [← List.map_id l]
    apply List.map_congr_left
    intro x hx
    have := hl x hx
    simp; omega
  exact key xs h
/-- The link of a block (P4.2). -/
def lof (c : Nat) (b : List Nat) : Lk × Nat := if c < 9223372036854775808 then (⟨1, c, 18, sha b⟩, 0) else (Lk.none, 40)
end
section
open Go.RowKit Go
/-- The number that digits make, the first one the lowest. -/
def valL (b : Nat) : List Nat → Nat
  | [] => 0
  | d :: l => d + b * valL b l
theorem valL_rev (b : Nat) : ∀ l, valL b l = valB b l.reverse
  | [] => rfl
  | d :: l => by
    rw [valL, valL_rev b l, List.reverse_cons, valB_snoc, Nat.mul_comm]
    omega
theorem valL_app (b : Nat) : ∀ l m, valL b (l ++ m) = valL b l + b ^ l.length * valL b m
  | [], m => by simp [valL]
  | d :: l, m => by
    rw [List.cons_append, valL, valL_app b l m, valL, List.length_cons, Nat.pow_succ, Nat.mul_add, Nat.mul_comm (b ^ l.length) b, Nat.mul_assoc]
    omega
theorem valL_lt {b : Nat} (hb : 0 < b) {l : List Nat} (h : ∀ d ∈ l, d < b) : valL b l < b ^ l.length := by
  rw [valL_rev, ← List.length_reverse]
  exact valB_lt hb (fun d hd => h d (List.mem_reverse.1 hd))
theorem valL_digB {b : Nat} (hb : 2 ≤ b) {l : List Nat} (h : ∀ d ∈ l, d < b) (h0 : l = [] ∨ b ^ (l.length - 1) ≤ valL b l) : l.reverse = digB b (valL b l) := by
  rw [valL_rev]
  symm
  refine digB_valB hb _ _ rfl (fun d hd => h d (List.mem_reverse.1 hd)) ?_
  rcases h0 with rfl | h0
  · simp
  · intro e
    cases hl : l with
    | nil => rw [hl] at e; simp at e
    | cons x m =>
      obtain ⟨l0, d, hld⟩ : ∃ l0 d, l = l0 ++ [d] := ⟨l.dropLast, l.getLast (by rw [hl]; simp), (List.dropLast_concat_getLast (by rw [hl]; simp)).symm⟩
      rw [hld] at e h0 h
      rw [List.reverse_append] at e
      simp at e
      subst e
      rw [valL_app] at h0
      have := valL_lt (b := b) (by omega) (l := l0) (fun d hd => h d (by simp [hd]))
      simp [valL] at h0
      omega
theorem valB_zeros (b : Nat) (d : List Nat) : ∀ z, valB b (List.replicate z 0 ++ d) = valB b d
  | 0 => by simp
  | z + 1 => by rw [List.replicate_succ, List.cons_append, valB_cons, Nat.zero_mul, Nat.zero_add, valB_zeros b d z]
theorem conv_val (a b : Nat) (l : List Nat) : conv a b l = List.replicate (l.takeWhile (· == 0)).length 0 ++ digB b (valB a l) := by
  unfold conv
  congr 2
  have h := valB_zeros a (l.dropWhile (· == 0)) (l.takeWhile (· == 0)).length
  rw [← zeros_take, List.takeWhile_append_dropWhile] at h
  exact h.symm
theorem tw_snoc {b : Nat} (hb : 0 < b) (n : Nat) : ∀ p : List Nat, ((p ++ [n]).takeWhile (· == 0)).length = if valB b (p ++ [n]) = 0 then (p.takeWhile (· == 0)).length + 1 else (p.takeWhile (· == 0)).length
  | [] => by
    have e : valB b [n] = n := by rw [valB_cons]; simp [valB]
    rw [List.nil_append, e]
    by_cases h : n = 0
    · subst h
      simp
    · simp [h]
  | x :: p => by
    rw [List.cons_append, valB_cons]
    by_cases h : x = 0
    · subst h
      have ih := tw_snoc hb n p
      rw [Nat.zero_mul, Nat.zero_add]
      simp only [List.takeWhile_cons, beq_self_eq_true, if_true, List.length_cons, ih]
      split <;> rfl
    · have hp : 0 < x * b ^ (p ++ [n]).length := Nat.mul_pos (by omega) (Nat.pow_pos hb)
      rw [if_neg (by omega)]
      simp [h]

/-- What regroup has in hand: the digits told, the bits that wait. -/
structure Rg (tt : Nat) (B out R : List Nat) : Prop where
  e : B = out.flatMap (bitsW tt) ++ R
  o : ∀ x ∈ out, x < 2 ^ tt
  r : ∀ x ∈ R, x < 2
theorem Rg.start (tt : Nat) : Rg tt [] [] [] := ⟨rfl, by simp, by simp⟩
theorem Rg.more {tt f n : Nat} {B out R : List Nat} (h : Rg tt B out R) : Rg tt (B ++ bitsW f n) out (R ++ bitsW f n) :=
  ⟨by rw [h.e, List.append_assoc], h.o, fun x hx => by
    rcases List.mem_append.1 hx with hx | hx
    · exact h.r x hx
    · exact bitsW_lt f n x hx⟩
theorem Rg.take {tt : Nat} {B out R : List Nat} (h : Rg tt B out R) (hl : tt ≤ R.length) : Rg tt B (out ++ [valB 2 (R.take tt)]) (R.drop tt) := by
  have hl2 : (R.take tt).length = tt := by rw [List.length_take]; omega
  have hb : ∀ x ∈ R.take tt, x < 2 := fun x hx => h.r x (List.mem_of_mem_take hx)
  refine ⟨?_, ?_, fun x hx => h.r x (List.mem_of_mem_drop hx)⟩
  · have e := bitsW_valB (R.take tt) hb
    rw [hl2] at e
    rw [List.flatMap_append, List.flatMap_singleton, e, List.append_assoc, List.take_append_drop]
    exact h.e
  · intro x hx
    rcases List.mem_append.1 hx with hx | hx
    · exact h.o x hx
    · simp only [List.mem_singleton] at hx
      subst hx
      have := valB_lt (b := 2) (by decide) hb
      rwa [hl2] at this
theorem Rg.grp {tt : Nat} {B out R : List Nat} (h : Rg tt B out R) (hw : 0 < tt) (hl : R.length < tt) : out = grp tt B := by
  rw [h.e]
  exact (grp_bits hw hl h.o).symm
theorem rest_shift {R : List Nat} {tt : Nat} (h : ∀ x ∈ R, x < 2) : valB 2 R / 2 ^ (R.length - tt) = valB 2 (R.take tt) ∧ valB 2 R % 2 ^ (R.length - tt) = valB 2 (R.drop tt) := by
  have hd : (R.drop tt).length = R.length - tt := List.length_drop
  have hv := valB_lt (b := 2) (by decide) (l := R.drop tt) (fun x hx => h x (List.mem_of_mem_drop hx))
  have e := valB_app 2 (R.take tt) (R.drop tt)
  rw [List.take_append_drop] at e
  rw [hd] at hv e
  rw [e, Nat.mul_comm]
  exact ⟨by rw [Nat.mul_add_div (Nat.pow_pos (by decide)), Nat.div_eq_of_lt hv, Nat.add_zero], by rw [Nat.mul_add_mod, Nat.mod_eq_of_lt hv]⟩
theorem rest_more {R : List Nat} {f n : Nat} (hn : n < 2 ^ f) : valB 2 (R ++ bitsW f n) = valB 2 R * 2 ^ f + n := by
  rw [valB_app, bitsW_len, valB_bitsW, Nat.mod_eq_of_lt hn]
/-- The last digit, filled. -/
theorem encW_rg {w : Nat} (hw : 0 < w) {b out R : List Nat} (h : Rg w (b.flatMap (bitsW 8)) out R) (hl : R.length < w) : encW w b = out ++ (if R = [] then [] else [valB 2 R * 2 ^ (w - R.length)]) := by
  have hlen := congrArg List.length h.e
  rw [flat_len, List.length_append, flat_len] at hlen
  have hm : b.length * 8 % w = R.length := by rw [hlen, Nat.mul_comm, Nat.mul_add_mod, Nat.mod_eq_of_lt hl]
  have hfl : ∀ (o : List Nat) (z : List Nat), (∀ x ∈ o, x < 2 ^ w) → grp w (o.flatMap (bitsW w) ++ z) = o ++ grp w z := by
    intro o
    induction o with
    | nil => intro z _; rfl
    | cons x o ih => intro z ho; rw [List.flatMap_cons, List.append_assoc, grp_app hw (bitsW_len w x), valB_bitsW, Nat.mod_eq_of_lt (ho x (by simp)), ih z (fun y hy => ho y (List.mem_cons_of_mem _ hy)), List.cons_append]
  unfold encW
  rw [hm, h.e, List.append_assoc, hfl _ _ h.o]
  congr 1
  by_cases h0 : R = []
  · subst h0
    rw [if_pos rfl, List.length_nil, Nat.sub_zero, Nat.mod_self]
    exact grp_short (by simpa using hw)
  · have hp : 0 < R.length := List.length_pos_iff.2 h0
    rw [if_neg h0, Nat.mod_eq_of_lt (by omega)]
    have hr : (R ++ List.replicate (w - R.length) 0).length = w := by rw [List.length_append, List.length_replicate]; omega
    have e := grp_app hw hr []
    rw [List.append_nil] at e
    rw [e, grp_short (by simpa using hw), valB_app, List.length_replicate]
    congr 1
    have hz := valB_zeros 2 [] (w - R.length)
    rw [List.append_nil] at hz
    rw [hz]
    rfl
theorem valB2_zero : ∀ {R : List Nat}, (∀ x ∈ R, x < 2) → valB 2 R = 0 → R = List.replicate R.length 0
  | [], _, _ => rfl
  | x :: R, h, h0 => by
    rw [valB_cons] at h0
    have hx : x = 0 := by
      rcases Nat.eq_zero_or_pos x with e | e
      · exact e
      · have := Nat.mul_pos e (Nat.pow_pos (n := R.length) (show 0 < 2 by decide))
        omega
    subst hx
    rw [List.length_cons, List.replicate_succ, ← valB2_zero (fun y hy => h y (List.mem_cons_of_mem _ hy)) (by omega)]
/-- Digits are the digits of the bytes that they make just if no whole one is left and the bits that are left are 0. -/
theorem enc_dec {w : Nat} (hw : 0 < w) {l out R : List Nat} (hd : ∀ x ∈ l, x < 2 ^ w) (h : Rg 8 (l.flatMap (bitsW w)) out R) (hl : R.length < 8) : encW w out = l ↔ R.length < w ∧ valB 2 R = 0 := by
  have hlen := congrArg List.length h.e
  rw [flat_len, List.length_append, flat_len] at hlen
  have hp : (w - out.length * 8 % w) % w < w := Nat.mod_lt _ hw
  constructor
  · intro e
    have hd2 := congrArg (List.flatMap (bitsW w)) e
    unfold encW at hd2
    have hdiv : (out.length * 8 + (w - out.length * 8 % w) % w) % w = 0 := by
      have h1 := Nat.mod_lt (out.length * 8) hw
      by_cases h0 : out.length * 8 % w = 0
      · rw [h0, Nat.sub_zero, Nat.mod_self, Nat.add_zero]
        exact h0
      · rw [Nat.mod_eq_of_lt (a := w - out.length * 8 % w) (by omega)]
        have h2 := Nat.div_add_mod (out.length * 8) w
        have e : out.length * 8 + (w - out.length * 8 % w) = w * (out.length * 8 / w + 1) := by rw [Nat.mul_add, Nat.mul_one]; omega
        rw [e]
        exact Nat.mul_mod_right _ _
    obtain ⟨k, hk⟩ := Nat.dvd_of_mod_eq_zero hdiv
    rw [bits_grp hw k _ (by rw [List.length_append, flat_len, List.length_replicate, hk, Nat.mul_comm]) (fun d hd => by
      rcases List.mem_append.1 hd with h | h
      · exact flat_lt 8 out d h
      · have := List.eq_of_mem_replicate h
        omega), h.e] at hd2
    have hR := List.append_cancel_left hd2
    rw [← hR, List.length_replicate]
    have hz := valB_zeros 2 [] ((w - out.length * 8 % w) % w)
    rw [List.append_nil] at hz
    exact ⟨hp, hz⟩
  · rintro ⟨h1, h2⟩
    have hR := valB2_zero h.r h2
    have hpad : (w - out.length * 8 % w) % w = R.length := by
      have h3 := Nat.mod_lt (out.length * 8) hw
      have h4 := Nat.div_add_mod (out.length * 8) w
      have h5 : (out.length * 8 % w + R.length) % w = 0 := by
        have : (out.length * 8 + R.length) % w = 0 := by rw [← hlen]; exact Nat.mul_mod_left _ _
        rw [← h4, Nat.add_assoc, Nat.mul_add_mod] at this
        exact this
      generalize out.length * 8 % w = m at *
      rcases Nat.eq_zero_or_pos m with e | e
      · subst e
        rw [Nat.zero_add, Nat.mod_eq_of_lt h1] at h5
        rw [Nat.sub_zero, Nat.mod_self, h5]
      · have h6 : m + R.length < 2 * w := by omega
        have h7 : m + R.length = w := by
          rcases Nat.lt_or_ge (m + R.length) w with h | h
          · rw [Nat.mod_eq_of_lt h] at h5
            omega
          · rw [Nat.mod_eq_sub_mod h, Nat.mod_eq_of_lt (by omega)] at h5
            omega
        rw [Nat.mod_eq_of_lt (by omega)]
        omega
    unfold encW
    rw [hpad, ← hR, ← h.e]
    have := grp_bits hw (z := []) (by simpa using hw) hd
    rwa [List.append_nil] at this
end
section
open Go.RowKit Go
theorem nstr_sl (s : ByteArray) : nstr (sl s) = s := by
  obtain ⟨⟨l⟩⟩ := s
  have e : nstr (sl ⟨⟨l⟩⟩) = ⟨(nstr (sl ⟨⟨l⟩⟩)).data⟩ := rfl
  rw [e]
  congr 1
  apply Array.ext'
  simp only [nstr, sl, strOfNums_data, List.map_map]
  conv => rhs; rw [← List.map_id l]
  apply List.map_congr_left
  intro x _
  simp
theorem nstr_size {xs : List Nat} (h : ∀ x ∈ xs, x < 256) : (nstr xs).size = xs.length := by rw [← sl_len, sl_nstr h]
/-- A link's cells. -/
def lcs (l : Lk) : Array Value := #[.int .i64 l.v, .int .u64 (l.c : Nat), .int .u64 (l.h : Nat), .string (nstr l.d)]
theorem lkv_lcs (l : Lk) : lkv l = .agg (lcs l) := rfl
/-- A link that the program can hold. -/
structure Lkb (l : Lk) : Prop where
  c : l.c < 18446744073709551616
  h : l.h < 18446744073709551616
  d : ∀ x ∈ l.d, x < 256
  n : l.d.length ≤ 9223372036854775807
theorem Lkb.size {l : Lk} (h : Lkb l) : (nstr l.d).size = l.d.length := nstr_size h.d
theorem lk_ext {a b : Lk} : a = b ↔ a.v = b.v ∧ a.c = b.c ∧ a.h = b.h ∧ a.d = b.d := by
  constructor
  · rintro rfl
    exact ⟨rfl, rfl, rfl, rfl⟩
  · obtain ⟨_, _, _, _⟩ := a
    obtain ⟨_, _, _, _⟩ := b
    rintro ⟨h1, h2, h3, h4⟩
    simp only at h1 h2 h3 h4
    subst h1 h2 h3 h4
    rfl
instance : DecidableEq Lk := fun a b => decidable_of_iff _ (lk_ext (a := a) (b := b)).symm
theorem eqlk (w : World) {a b : Lk} (ha : ∀ x ∈ a.d, x < 256) (hb : ∀ x ∈ b.d, x < 256) : (Op.equalIn 10000 25 (.agg (lcs a)) (.agg (lcs b))).run Tryd.prog w = .ok (decide (a = b)) w := by
  have u3 := Tryd.underlying3
  have u9 := Tryd.underlying9
  have u33 := Tryd.underlying22
  have a3 := Tryd.isAgg3
  have a9 := Tryd.isAgg9
  have a33 := Tryd.isAgg22
  have z3 := Tryd.sizeOf3
  have z9 := Tryd.sizeOf9
  have z33 := Tryd.sizeOf22
  have hS : Tryd.prog.underlying 25 = some (.struct (Tryd.prog.fieldsOf 25)) := by kernel_rfl
  have hp : Tryd.prog.stoodInHeld 25 = false := by kernel_rfl
  have hs : ((nstr a.d).toList == (nstr b.d).toList) = decide (a.d = b.d) := by
    by_cases h : a.d = b.d
    · rw [h]; simp
    · rw [beq_eq_false_iff_ne.2 (fun e => h (nstr_inj ha hb e))]; simp [h]
  have hr : decide (a = b) = (decide (a.v = b.v) && (decide (a.c = b.c) && (decide (a.h = b.h) && decide (a.d = b.d)))) := by
    rw [Bool.eq_iff_iff]
    simp [lk_ext]
  rw [hr]
  unfold lcs
  rw [show (10000 : Nat) = 9999 + 1 from rfl, run_equalIn_agg w 9999 25 _ _ hS hp]
  simp only [Program.fieldsOf, Tryd.underlying25]
  go_simp
  by_cases h1 : a.v = b.v <;> by_cases h2 : a.c = b.c <;> by_cases h3 : a.h = b.h <;> by_cases h4 : a.d = b.d <;> first | (simp [h1, h2, h3, h4]; done) | (simp [h1, h2, h3, h4]; omega)

theorem eqg : Tryd.prog.eqGuardType Tryd.prog.depth 25 = false := by kernel_rfl
/-- A whole struct by value, as a step of a region that draws. -/
theorem qstep_link {C : World → Prop} {ops : Array Oper} {o : Oper} {a : Act} {K : Act → Prop} {p : Operand} (hgd : Region.wanted o (yielded ops a.tmps) = true) (ho : o.op = .load 25 p) (g : Nat) (cs : Array Value)
    (hp : a.eval p = .pointer (some ⟨g, 0, none⟩)) (hn : cs.size = 4) (hc : ∀ w, C w → w.heap[g]? = some (.cells cs 25 (0, 0)))
    (h : K (a.put o.dst (.agg cs))) : if Region.wanted o (yielded ops a.tmps) = true then o.quiet Tryd.prog a C K else K (a.put o.dst undef) := by
  rw [if_pos hgd]
  refine ⟨.agg cs, fun w hC => ?_, h⟩
  have hr : (Instr.loadAt 25 (.pointer (some ⟨g, 0, none⟩))).run Tryd.prog w = .ok (.agg cs) w := by
    simp only [Instr.loadAt, Instr.sureAddr, Sem.run_bind, Sem.run_pure, Result.andThen]
    exact run_loadVar_row (P := Tryd.prog) w g 25 25 cs (0, 0) _ (hc w hC) Tryd.underlying25 rfl (by rw [hn]; exact info61)
  unfold Oper.quietAt execOp
  simp only [ho, Sem.run_bind, hp, hr, Result.andThen_ok]
  exact ⟨rfl, rfl⟩

theorem wpList_wanted {P : Program} {ops : Array Oper} {Q : Exit → Act → World → Prop} {a : Act} {w : World} {rest : List Oper} {o : Oper} (hw : Region.wanted o (yielded ops a.tmps) = true)
    (h : ∀ K : Act → World → Prop, (∀ a w, wpList P ops Q rest a w → K a w) → o.wp P a w K Q) : wpList P ops Q (o :: rest) a w := wpList_step fun K hK => by rw [if_pos hw]; exact h K hK
/-- Two links held against each other. -/
theorem exec_eqlk {o : Oper} {a : Act} {x y : Operand} {T2 : TypeId} {A B : Array Value} {r : Bool} {w : World} (ho : o.op = .binOp .eql 25 x y T2) (hx : a.eval x = .agg A) (hy : a.eval y = .agg B) (he : (Op.equalIn 10000 25 (.agg A) (.agg B)).run Tryd.prog w = .ok r w) : (execOp a.eval o).run Tryd.prog w = .ok (.value (.bool r)) w := by
  unfold execOp
  simp only [ho, Sem.run_bind, hx, hy, run_eqGuard_agg w _ 25 x y A B eqg, run_eql_struct, he, Result.andThen_ok]
  rfl
theorem exec_nelk {o : Oper} {a : Act} {x y : Operand} {T2 : TypeId} {A B : Array Value} {r : Bool} {w : World} (ho : o.op = .binOp .neq 25 x y T2) (hx : a.eval x = .agg A) (hy : a.eval y = .agg B) (he : (Op.equalIn 10000 25 (.agg A) (.agg B)).run Tryd.prog w = .ok r w) : (execOp a.eval o).run Tryd.prog w = .ok (.value (.bool (!r))) w := by
  unfold execOp
  simp only [ho, Sem.run_bind, hx, hy, run_eqGuard_agg w _ 25 x y A B eqg, run_neq_struct, he, Result.andThen_ok]
  rfl
theorem qstep_eqlk {C : World → Prop} {ops : Array Oper} {o : Oper} {a : Act} {K : Act → Prop} {x y : Operand} {T2 : TypeId} (hgd : Region.wanted o (yielded ops a.tmps) = true) (ho : o.op = .binOp .eql 25 x y T2) (A B : Array Value) (r : Bool)
    (hx : a.eval x = .agg A) (hy : a.eval y = .agg B) (he : ∀ w, C w → (Op.equalIn 10000 25 (.agg A) (.agg B)).run Tryd.prog w = .ok r w)
    (h : K (a.put o.dst (.bool r))) : if Region.wanted o (yielded ops a.tmps) = true then o.quiet Tryd.prog a C K else K (a.put o.dst undef) := by
  rw [if_pos hgd]
  refine ⟨.bool r, fun w hC => ?_, h⟩
  unfold Oper.quietAt
  rw [exec_eqlk ho hx hy (he w hC)]
  exact ⟨rfl, rfl⟩
theorem wpList_eqlk {ops : Array Oper} {rest : List Oper} {o : Oper} {a : Act} {Q : Exit → Act → World → Prop} {w : World} {x y : Operand} {T2 : TypeId} (hgd : Region.wanted o (yielded ops a.tmps) = true) (ho : o.op = .binOp .eql 25 x y T2) (A B : Array Value) (r : Bool)
    (hx : a.eval x = .agg A) (hy : a.eval y = .agg B) (he : (Op.equalIn 10000 25 (.agg A) (.agg B)).run Tryd.prog w = .ok r w) (h : wpList Tryd.prog ops Q rest (a.put o.dst (.bool r)) w) : wpList Tryd.prog ops Q (o :: rest) a w := by
  refine wpList_wanted hgd fun K hK => ?_
  unfold Oper.wp
  rw [exec_eqlk ho hx hy he]
  exact hK _ _ h
theorem wpList_nelk {ops : Array Oper} {rest : List Oper} {o : Oper} {a : Act} {Q : Exit → Act → World → Prop} {w : World} {x y : Operand} {T2 : TypeId} (hgd : Region.wanted o (yielded ops a.tmps) = true) (ho : o.op = .binOp .neq 25 x y T2) (A B : Array Value) (r : Bool)
    (hx : a.eval x = .agg A) (hy : a.eval y = .agg B) (he : (Op.equalIn 10000 25 (.agg A) (.agg B)).run Tryd.prog w = .ok r w) (h : wpList Tryd.prog ops Q rest (a.put o.dst (.bool (!r))) w) : wpList Tryd.prog ops Q (o :: rest) a w := by
  refine wpList_wanted hgd fun K hK => ?_
  unfold Oper.wp
  rw [exec_nelk ho hx hy he]
  exact hK _ _ h
theorem wpList_loadLk {ops : Array Oper} {rest : List Oper} {o : Oper} {a : Act} {Q : Exit → Act → World → Prop} {w : World} {p : Operand} (hgd : Region.wanted o (yielded ops a.tmps) = true) (ho : o.op = .load 25 p) (g : Nat) (cs : Array Value)
    (hp : a.eval p = .pointer (some ⟨g, 0, none⟩)) (hn : cs.size = 4) (hg : w.heap[g]? = some (.cells cs 25 (0, 0))) (h : wpList Tryd.prog ops Q rest (a.put o.dst (.agg cs)) w) : wpList Tryd.prog ops Q (o :: rest) a w := by
  refine wpList_wanted hgd fun K hK => ?_
  unfold Oper.wp execOp
  have hr : (Instr.loadAt 25 (.pointer (some ⟨g, 0, none⟩))).run Tryd.prog w = .ok (.agg cs) w := by
    simp only [Instr.loadAt, Instr.sureAddr, Sem.run_bind, Sem.run_pure, Result.andThen]
    exact run_loadVar_row (P := Tryd.prog) w g 25 25 cs (0, 0) _ hg Tryd.underlying25 rfl (by rw [hn]; exact info61)
  simp only [ho, Sem.run_bind, hp, hr, Result.andThen_ok]
  exact hK _ _ h

set_option maxRecDepth 1000000 in
theorem old_any (w : World) (s : ByteArray) : Calls Tryd.prog 59 #[.string s] w fun e w' => e = .returned (.agg #[.int .i64 0, .int .u64 112, .int .u64 18, .string s]) ∧ Below w.heap.size w w' := by
  go_enter Tryd.func59, Tryd.ntmps59
  go_wp2_with fail
  exact bodyPost_ret (v := .agg #[.int .i64 0, .int .u64 112, .int .u64 18, .string s]) ((results_one (p := 2) (ty := 25) rfl _ _ _).trans (by go_simp; first | done | rfl)) rfl ⟨rfl, below_alloc4 w _⟩
set_option maxRecDepth 1000000 in
theorem fits4_any (w : World) (l : Lk) (hl : Lkb l) : Calls Tryd.prog 60 #[lkv l] w fun e w' => e = .returned (.bool (decide (okd l.h l.d))) ∧ Below w.heap.size w w' := by
  have hs := hl.size
  have hn := hl.n
  obtain ⟨v, c, h, d⟩ := l
  simp only at hs hn
  simp only [lkv]
  have HE : Hid (okd h d ↔ (h = 18 ∧ d.length = 32) ∨ (h = 0 ∧ d.length ≤ 64)) := Iff.rfl
  generalize hS : nstr d = S at *
  clear hS hl
  by_cases h1 : h = 18
  · subst h1
    have HR : Hid (decide (okd 18 d) = ((d.length : Int) == 32)) := by
      show _ = _
      rw [Bool.eq_iff_iff, decide_eq_true_iff, HE.out, beq_iff_eq]
      omega
    rw [HR.out]
    clear HE HR
    go_enter Tryd.func60, Tryd.ntmps60
    go_wp2_with fail
    go_ret
    exact ⟨rfl, below_alloc4 w _⟩
  · have g1 : ((h : Int) == 18) = false := beq_eq_false_iff_ne.2 (by omega)
    by_cases h2 : h = 0
    · subst h2
      have HR : Hid (decide (okd 0 d) = decide ((d.length : Int) ≤ 64)) := by
        show _ = _
        rw [Bool.eq_iff_iff, decide_eq_true_iff, HE.out, decide_eq_true_iff]
        omega
      rw [HR.out]
      clear HE HR
      go_enter Tryd.func60, Tryd.ntmps60
      go_wp2_with fail
      go_ret
      exact ⟨rfl, below_alloc4 w _⟩
    · have g2 : ((h : Int) == 0) = false := beq_eq_false_iff_ne.2 (by omega)
      have HR : Hid (decide (okd h d) = false) := by
        show _ = _
        rw [decide_eq_false_iff_not, HE.out]
        omega
      rw [HR.out]
      clear HE HR
      go_enter Tryd.func60, Tryd.ntmps60
      go_wp2_with fail
      go_ret
      exact ⟨rfl, below_alloc4 w _⟩
end
section
open Go.ChangeShapes Go.WideShapes Go.ChangeAt Go.RowKit Go.Deep Go.Joins Go
/-- A value, plainly: kind, flag, sign, number, a float's bits, text, bytes, link, keys, items. -/
inductive Tv where
  | mk (k : Int) (f g : Bool) (n b : Nat) (s : ByteArray) (y : List Nat) (l : Lk) (ks : List ByteArray) (is : List Tv)
def Tv.k : Tv → Int | .mk k _ _ _ _ _ _ _ _ _ => k
def Tv.f : Tv → Bool | .mk _ f _ _ _ _ _ _ _ _ => f
def Tv.g : Tv → Bool | .mk _ _ g _ _ _ _ _ _ _ => g
def Tv.n : Tv → Nat | .mk _ _ _ n _ _ _ _ _ _ => n
def Tv.b : Tv → Nat | .mk _ _ _ _ b _ _ _ _ _ => b
def Tv.s : Tv → ByteArray | .mk _ _ _ _ _ s _ _ _ _ => s
def Tv.y : Tv → List Nat | .mk _ _ _ _ _ _ y _ _ _ => y
def Tv.l : Tv → Lk | .mk _ _ _ _ _ _ _ l _ _ => l
def Tv.ks : Tv → List ByteArray | .mk _ _ _ _ _ _ _ _ ks _ => ks
def Tv.is : Tv → List Tv | .mk _ _ _ _ _ _ _ _ _ is => is
theorem Tv.is_lt {t u : Tv} (h : u ∈ t.is) : SizeOf.sizeOf u < SizeOf.sizeOf t := by
  obtain ⟨k, f, g, n, b, s, y, l, ks, is⟩ := t
  have h1 := List.sizeOf_lt_of_mem h
  simp only [Tv.is] at h1
  simp only [Tv.mk.sizeOf_spec]
  omega
/-- A value's cells. -/
def vcs (t : Tv) (vy vk vi : Value) : Array Value :=
  #[.int .i64 t.k, .bool t.f, .bool t.g, .int .u64 (t.n : Nat), .int .u64 (t.b : Nat), .string t.s, vy, .int .i64 t.l.v, .int .u64 (t.l.c : Nat), .int .u64 (t.l.h : Nat), .string (nstr t.l.d), vk, vi]
/-- A slice of strings, plainly. -/
structure SSl (w : World) (v : Value) (ks : List ByteArray) : Prop where
  form : ∃ a cap, v = .slice a ks.length cap ∧ (ks.length ≤ cap ∧ (a = none → cap = 0)) ∧ (ks = [] ∨ ∃ b off, a = some ⟨b, off, none⟩ ∧ ∀ j s, ks[j]? = some s → w.cell? ⟨b, off + j, none⟩ = some (.string s))
  max : ks.length ≤ 140737488351232
  size : ∀ s ∈ ks, s.size ≤ 140737488351232
theorem SSl.move {w w' : World} {v : Value} {ks : List ByteArray} (h : SSl w v ks) (hm : ∀ p u, w.cell? p = some u → w'.cell? p = some u) : SSl w' v ks := by
  obtain ⟨⟨a, c, hv, hn, hc⟩, h1, h2⟩ := h
  refine ⟨⟨a, c, hv, hn, ?_⟩, h1, h2⟩
  rcases hc with hc | ⟨b, off, ha, hc⟩
  · exact .inl hc
  · exact .inr ⟨b, off, ha, fun j s hj => hm _ _ (hc j s hj)⟩
/-- A value in memory: these cells read as this value. -/
inductive Tin (w : World) : Tv → Array Value → Prop
  | mk (t : Tv) (vy vk : Value) (a : Option Addr) (cap : Nat) (cs : Nat → Array Value) (hn : t.n < 18446744073709551616) (hb : t.b < 18446744073709551616) (hs : t.s.size ≤ 140737488351232) (hy : BSl w vy t.y) (hyl : t.y.length ≤ 140737488351232) (hl : Lkb t.l) (hld : t.l.d.length ≤ 140737488351232) (hk : SSl w vk t.ks)
      (hc : t.is.length ≤ cap ∧ (a = none → cap = 0)) (hm : t.is.length ≤ 140737488351232) (hi : ∀ i u, t.is[i]? = some u → Tin w u (cs i))
      (ha : t.is = [] ∨ ∃ b off, a = some ⟨b, off, none⟩ ∧ ∀ i, i < t.is.length → ∀ j u, (cs i)[j]? = some u → w.cell? ⟨b, off + i * 13 + j, none⟩ = some u) : Tin w t (vcs t vy vk (.slice a t.is.length cap))
theorem Tin.move {w w' : World} {t : Tv} {cs : Array Value} (h : Tin w t cs) (hm : ∀ p u, w.cell? p = some u → w'.cell? p = some u) : Tin w' t cs := by
  induction h with
  | mk t vy vk a cap cs hn hb hs hy hyl hl hld hk hc hmm hi ha ih =>
    refine Tin.mk t vy vk a cap cs hn hb hs (hy.move hm) hyl hl hld (hk.move hm) hc hmm ih ?_
    rcases ha with ha | ⟨b, off, e, ha⟩
    · exact .inl ha
    · exact .inr ⟨b, off, e, fun i hi j u hu => hm _ _ (ha i hi j u hu)⟩
/-- A slice of values. -/
structure VSl (w : World) (v : Value) (is : List Tv) : Prop where
  form : ∃ a cap, v = .slice a is.length cap ∧ (is.length ≤ cap ∧ (a = none → cap = 0)) ∧ (is = [] ∨ ∃ b off, a = some ⟨b, off, none⟩ ∧ ∀ i t, is[i]? = some t → ∃ cs, Tin w t cs ∧ ∀ j u, cs[j]? = some u → w.cell? ⟨b, off + i * 13 + j, none⟩ = some u)
  max : is.length ≤ 140737488351232
theorem VSl.move {w w' : World} {v : Value} {is : List Tv} (h : VSl w v is) (hm : ∀ p u, w.cell? p = some u → w'.cell? p = some u) : VSl w' v is := by
  obtain ⟨⟨a, c, hv, hn, hc⟩, h1⟩ := h
  refine ⟨⟨a, c, hv, hn, ?_⟩, h1⟩
  rcases hc with hc | ⟨b, off, ha, hc⟩
  · exact .inl hc
  · exact .inr ⟨b, off, ha, fun i t hi => by
      obtain ⟨cs, h1, h2⟩ := hc i t hi
      exact ⟨cs, h1.move hm, fun j u hu => hm _ _ (h2 j u hu)⟩⟩
/-- The bounds of a value's own fields. -/
structure Tbd (t : Tv) : Prop where
  n : t.n < 18446744073709551616
  b : t.b < 18446744073709551616
  s : t.s.size ≤ 140737488351232
  y : t.y.length ≤ 140737488351232
  l : Lkb t.l
  d : t.l.d.length ≤ 140737488351232
/-- A value's parts. -/
theorem Tin.parts {w : World} {t : Tv} {c : Array Value} (h : Tin w t c) : ∃ vy vk vi, c = vcs t vy vk vi ∧ BSl w vy t.y ∧ SSl w vk t.ks ∧ VSl w vi t.is ∧ Tbd t := by
  cases h with
  | mk _ vy vk a cap cs hn hb hs hy hyl hl hld hk hc hm hi ha =>
    refine ⟨vy, vk, _, rfl, hy, hk, ⟨⟨a, cap, rfl, hc, ?_⟩, hm⟩, ⟨hn, hb, hs, hyl, hl, hld⟩⟩
    rcases ha with ha | ⟨b, off, e, ha⟩
    · exact .inl ha
    · refine .inr ⟨b, off, e, fun i t' hi' => ⟨cs i, hi i t' hi', fun j u hu => ha i ?_ j u hu⟩⟩
      exact (List.getElem?_eq_some_iff.1 hi').1
theorem Tin.of {w : World} {t : Tv} {vy vk vi : Value} (hy : BSl w vy t.y) (hk : SSl w vk t.ks) (hv : VSl w vi t.is) (h : Tbd t) : Tin w t (vcs t vy vk vi) := by
  obtain ⟨hn, hb, hs, hyl, hl, hld⟩ := h
  obtain ⟨⟨a, cap, rfl, hc, ha⟩, hm⟩ := hv
  rcases ha with ha | ⟨b, off, e, ha⟩
  · exact Tin.mk t vy vk a cap (fun _ => #[]) hn hb hs hy hyl hl hld hk hc hm (fun i u hu => by rw [ha] at hu; simp at hu) (.inl ha)
  · have hx : ∀ i, ∃ cs : Array Value, ∀ t', t.is[i]? = some t' → Tin w t' cs ∧ ∀ j u, cs[j]? = some u → w.cell? ⟨b, off + i * 13 + j, none⟩ = some u := fun i => by
      cases hi : t.is[i]? with
      | none => exact ⟨#[], fun t' h => by cases h⟩
      | some t' =>
        obtain ⟨cs, h1, h2⟩ := ha i t' hi
        exact ⟨cs, fun t'' h => by injection h with h; subst h; exact ⟨h1, h2⟩⟩
    refine Tin.mk t vy vk a cap (fun i => Classical.choose (hx i)) hn hb hs hy hyl hl hld hk hc hm (fun i u hu => (Classical.choose_spec (hx i) u hu).1) (.inr ⟨b, off, e, fun i hi j u hu => ?_⟩)
    exact (Classical.choose_spec (hx i) t.is[i] (List.getElem?_eq_getElem hi)).2 j u hu
end
section
open Go.RowKit Go
mutual
/-- How many parts a value has. -/
def tmuch : Tv → Nat
  | .mk _ _ _ _ _ s y l ks is => 1 + ks.length + y.length / 64 + s.size / 64 + l.d.length / 64 + (ks.map fun k => k.size / 64).sum + tmuchL is
def tmuchL : List Tv → Nat
  | [] => 0
  | t :: r => tmuch t + tmuchL r
end
mutual
/-- A value's depth. -/
def tdepth : Tv → Nat
  | .mk k _ _ _ _ _ _ _ _ is => if k = 8 ∨ k = 9 then tdepthL is + 1 else 0
def tdepthL : List Tv → Nat
  | [] => 0
  | t :: r => max (tdepth t) (tdepthL r)
end
theorem tmuchL_app : ∀ (a b : List Tv), tmuchL (a ++ b) = tmuchL a + tmuchL b
  | [], b => by simp [tmuchL]
  | t :: a, b => by rw [List.cons_append, tmuchL, tmuchL, tmuchL_app a b]; omega
theorem tdepthL_app : ∀ (a b : List Tv), tdepthL (a ++ b) = max (tdepthL a) (tdepthL b)
  | [], b => by simp [tdepthL]
  | t :: a, b => by rw [List.cons_append, tdepthL, tdepthL, tdepthL_app a b]; omega
theorem tdepthL_mem : ∀ {l : List Tv} {t : Tv}, t ∈ l → tdepth t ≤ tdepthL l
  | [], _, h => by cases h
  | u :: r, t, h => by
    rw [tdepthL]
    rcases List.mem_cons.1 h with h | h
    · subst h
      omega
    · have := tdepthL_mem h
      omega
theorem tdepth_eq (t : Tv) : tdepth t = if t.k = 8 ∨ t.k = 9 then tdepthL t.is + 1 else 0 := by
  obtain ⟨k, f, g, n, b, s, y, l, ks, is⟩ := t
  rw [tdepth]
  rfl
theorem tmuch_eq (t : Tv) : tmuch t = 1 + t.ks.length + t.y.length / 64 + t.s.size / 64 + t.l.d.length / 64 + (t.ks.map fun k => k.size / 64).sum + tmuchL t.is := by
  obtain ⟨k, f, g, n, b, s, y, l, ks, is⟩ := t
  rw [tmuch]
  rfl
theorem takeT (l : List Tv) (k : Nat) (t : Tv) (h : l[k]? = some t) : l.take (k + 1) = l.take k ++ [t] := by
  have hk := (List.getElem?_eq_some_iff.1 h).1
  rw [List.take_succ_eq_append_getElem hk]
  rw [List.getElem?_eq_getElem hk] at h
  injection h with h
  rw [h]
theorem infoV : (Tryd.prog.info? 29).map (·.size) = some 13 := by kernel_rfl
theorem vcs_size (t : Tv) (vy vk vi : Value) : (vcs t vy vk vi).size = 13 := rfl
/-- A value somewhere in a block. -/
theorem load_val {w : World} (g o : Nat) (cs : Array Value) (hn : cs.size = 13) (hc : ∀ j u, cs[j]? = some u → w.cell? ⟨g, o + j, none⟩ = some u) : (Instr.loadAt 29 (.pointer (some ⟨g, o, none⟩))).run Tryd.prog w = .ok (.agg cs) w := by
  have hl := run_loadCells_list (P := Tryd.prog) (w := w) ⟨g, o, none⟩ cs.toList (fun j v hv => by rw [addr_add]; exact hc j v (by simpa using hv))
  have hi := infoV
  simp only [Instr.loadAt, Instr.sureAddr, Sem.run_bind, Sem.run_pure, Result.andThen]
  cases hq : Tryd.prog.info? 29 with
  | none => simp [hq] at hi
  | some i =>
    have hs : i.size = 13 := by simpa [hq] using hi
    have hn2 : cs.toList.length = 13 := by simpa using hn
    rw [hn2] at hl
    have ha : (isAgg 29).run Tryd.prog w = .ok true w := by
      unfold isAgg
      rw [Sem.run_bind, run_underlying Tryd.underlying29 w]
      simp
    simp [loadVar, ha, sizeOf, typeInfo, hq, hs, hl]
theorem wpList_valAt {ops : Array Oper} {rest : List Oper} {o : Oper} {a : Act} {Q : Exit → Act → World → Prop} {w : World} {p : Operand} (hgd : Region.wanted o (yielded ops a.tmps) = true) (ho : o.op = .load 29 p) (g off : Nat) (cs : Array Value)
    (hp : a.eval p = .pointer (some ⟨g, off, none⟩)) (hn : cs.size = 13) (hc : ∀ j u, cs[j]? = some u → w.cell? ⟨g, off + j, none⟩ = some u)
    (h : wpList Tryd.prog ops Q rest (a.put o.dst (.agg cs)) w) : wpList Tryd.prog ops Q (o :: rest) a w := by
  refine wpList_wanted hgd fun K hK => ?_
  unfold Oper.wp execOp
  simp only [ho, Sem.run_bind, hp, load_val g off cs hn hc, Result.andThen_ok]
  exact hK _ _ h
end
section
open Go.RowKit Go
/-- Finite, by its bits. -/
def finb (b : Nat) : Bool := decide (b % 9223372036854775808 < 9218868437227405312)
theorem read_def (b : Nat) : Ieee.double.read b = (if b % 9223372036854775808 < 4503599627370496 then .number (b / 9223372036854775808 % 2 == 1) (b % 9223372036854775808) (-1074) else if b % 9223372036854775808 < 9218868437227405312 then .number (b / 9223372036854775808 % 2 == 1) (4503599627370496 + b % 9223372036854775808 % 4503599627370496) (-1074 + ((b % 9223372036854775808 / 4503599627370496 - 1 : Nat) : Int)) else if b % 9223372036854775808 = 9218868437227405312 then .infinity (b / 9223372036854775808 % 2 == 1) else .nan (b / 9223372036854775808 % 2 == 1) (b % 9223372036854775808 - 9218868437227405312)) := rfl
/-- A finite float's magnitude. -/
theorem read_fin {b : Nat} (h : b % 9223372036854775808 < 9218868437227405312) : ∃ m p, Ieee.double.read b = .number (b / 9223372036854775808 % 2 == 1) m p ∧ m ≤ 9007199254740991 ∧ p ≤ 971 := by
  rw [read_def]
  by_cases h1 : b % 9223372036854775808 < 4503599627370496
  · rw [if_pos h1]
    exact ⟨_, _, rfl, by omega, by omega⟩
  · rw [if_neg h1, if_pos h]
    exact ⟨_, _, rfl, by omega, by omega⟩
theorem ord_self (b : Nat) : (Ieee.double.order b b != some .eq) = decide (9218868437227405312 < b % 9223372036854775808) := by
  unfold Ieee.Format.order
  by_cases h : b % 9223372036854775808 < 9218868437227405312
  · obtain ⟨m, p, e, _, _⟩ := read_fin h
    rw [e, decide_eq_false (by omega)]
    simp [Ieee.Datum.order]
  · rw [read_def, if_neg (by omega), if_neg h]
    by_cases h2 : b % 9223372036854775808 = 9218868437227405312
    · rw [if_pos h2, decide_eq_false (by omega)]
      simp [Ieee.Datum.order]
    · rw [if_neg h2, decide_eq_true (by omega)]
      simp [Ieee.Datum.order]
theorem ord_max {b : Nat} (hb : b ≤ 9218868437227405312) : (Ieee.double.order b 9218868437227405311 == some .gt) = decide (b = 9218868437227405312) := by
  have hm : b % 9223372036854775808 = b := Nat.mod_eq_of_lt (by omega)
  have hd : b / 9223372036854775808 % 2 = 0 := by omega
  have e2 : Ieee.double.read 9218868437227405311 = .number false 9007199254740991 971 := by rfl
  unfold Ieee.Format.order
  rw [e2]
  by_cases h : b < 9218868437227405312
  · obtain ⟨m, p, e, hmm, hp⟩ := read_fin (b := b) (by omega)
    rw [e, decide_eq_false (by omega), hd]
    have hmin : min p (971 : Int) = p := by omega
    have hsh : m ≤ 9007199254740991 <<< (971 - p).toNat := by
      rw [Nat.shiftLeft_eq]
      exact Nat.le_trans hmm (Nat.le_mul_of_pos_right _ (Nat.two_pow_pos _))
    simp only [Ieee.Datum.order, hmin, Int.sub_self, Ieee.signed]
    generalize 9007199254740991 <<< (971 - p).toNat = K at *
    have h3 : compare ((m <<< (0 : Int).toNat : Nat) : Int) ((K : Nat) : Int) ≠ .gt := by
      intro hc
      have := Int.compare_eq_gt.1 hc
      simp at this
      omega
    simp at h3 ⊢
    exact h3
  · have e : b = 9218868437227405312 := by omega
    subst e
    rfl
set_option maxRecDepth 1000000 in
theorem frombits_any (b : Nat) (w : World) : (callFunc 46 #[.int .u64 (b : Nat)]).run Tryd.prog w = .ok (.value (.float .f64 b)) w := by
  rw [run_callFunc_extern Tryd.func46 (by kernel_rfl) (by kernel_rfl) (by kernel_rfl) (e := Extern.MathFloatBits.float64frombits) (by kernel_rfl)]
  rfl
set_option maxRecDepth 1000000 in
theorem tobits_any (b : Nat) (w : World) : (callFunc 81 #[.float .f64 b]).run Tryd.prog w = .ok (.value (.int .u64 (b : Nat))) w := by
  rw [run_callFunc_extern Tryd.func81 (by kernel_rfl) (by kernel_rfl) (by kernel_rfl) (e := Extern.MathFloatBits.float64bits) (by kernel_rfl)]
  rfl
set_option maxRecDepth 1000000 in
theorem isnan_any (b : Nat) (w : World) : Calls Tryd.prog 55 #[.float .f64 b] w fun e w' => e = .returned (.bool (decide (9218868437227405312 < b % 9223372036854775808))) ∧ w' = w := by
  have HE : Hid ((FloatKind.f64.format.order b b != some .eq) = decide (9218868437227405312 < b % 9223372036854775808)) := ord_self b
  go_enter Tryd.func55, Tryd.ntmps55
  go_wp2_with fail
  go_ret
  exact ⟨by rw [← HE.out]; rfl, rfl⟩
theorem andnot_top (b : Nat) (hb : b < 18446744073709551616) : bits .andNot .u64 (b : Int) 9223372036854775808 = ((b % 9223372036854775808 : Nat) : Int) := by
  have e1 : (BitVec.ofInt 64 (b : Int)).toNat = b := by
    simp
    omega
  have e2 : (~~~ (BitVec.ofInt 64 9223372036854775808)).toNat = 9223372036854775807 := by decide
  show IntKind.u64.wrap ((BitVec.ofInt 64 (b : Int) &&& ~~~ (BitVec.ofInt 64 9223372036854775808)).toNat : Nat) = _
  rw [BitVec.toNat_and, e1, e2, IntKind.wrap_u64]
  have e3 := Nat.and_two_pow_sub_one_eq_mod b 63
  rw [show (2 ^ 63 - 1 : Nat) = 9223372036854775807 from rfl, show (2 ^ 63 : Nat) = 9223372036854775808 from rfl] at e3
  rw [e3]
  omega
set_option maxRecDepth 1000000 in
theorem abs_any (b : Nat) (hb : b < 18446744073709551616) (w : World) : Calls Tryd.prog 73 #[.float .f64 b] w fun e w' => e = .returned (.float .f64 (b % 9223372036854775808)) ∧ w' = w := by
  have h1 := tobits_any b
  have h2 := frombits_any (b % 9223372036854775808)
  rw [← andnot_top b hb] at h2
  clear hb
  generalize b % 9223372036854775808 = m at *
  go_enter Tryd.func73, Tryd.ntmps73
  go_wp2_with fail
  go_ret
  exact ⟨rfl, rfl⟩
set_option maxRecDepth 1000000 in
theorem isinf_any (b : Nat) (hb : b < 18446744073709551616) (hn : b % 9223372036854775808 ≤ 9218868437227405312) (w : World) : Calls Tryd.prog 56 #[.float .f64 b, .int .i64 0] w fun e w' => e = .returned (.bool (decide (b % 9223372036854775808 = 9218868437227405312))) ∧ w' = w := by
  have HE : Hid ((FloatKind.f64.format.order (b % 9223372036854775808) 9218868437227405311 == some .gt) = decide (b % 9223372036854775808 = 9218868437227405312)) := ord_max hn
  have HA := hide (fun W => abs_any b hb W)
  clear hb hn
  generalize b % 9223372036854775808 = m at *
  go_enter Tryd.func56, Tryd.ntmps56
  go_wp2_with (go_at_call 73; refine (Hid.out HA _).mono ?_; rintro e w' ⟨rfl, rfl⟩)
  go_ret
  exact ⟨by rw [← HE.out]; rfl, rfl⟩
set_option maxRecDepth 1000000 in
theorem finite_any (b : Nat) (hb : b < 18446744073709551616) (w : World) : Calls Tryd.prog 45 #[.float .f64 b] w fun e w' => e = .returned (.bool (finb b)) ∧ w' = w := by
  have HN := hide (fun W => isnan_any b W)
  unfold finb
  by_cases h : 9218868437227405312 < b % 9223372036854775808
  · rw [decide_eq_false (by omega)]
    rw [decide_eq_true h] at HN
    clear h
    go_enter Tryd.func45, Tryd.ntmps45
    go_wp2_with (go_at_call 55; refine (Hid.out HN _).mono ?_; rintro e w' ⟨rfl, rfl⟩)
    go_ret
    exact ⟨rfl, rfl⟩
  · have HI := hide (fun W => isinf_any b hb (by omega) W)
    have HD : Hid (decide (b % 9223372036854775808 < 9218868437227405312) = !decide (b % 9223372036854775808 = 9218868437227405312)) := by
      show _ = _
      rw [Bool.eq_iff_iff]
      simp
      omega
    rw [decide_eq_false h] at HN
    rw [HD.out]
    clear h HD
    generalize decide (b % 9223372036854775808 = 9218868437227405312) = R at *
    go_enter Tryd.func45, Tryd.ntmps45
    go_wp2_with (first
      | (go_at_call 55; refine (Hid.out HN _).mono ?_; rintro e w' ⟨rfl, rfl⟩)
      | (go_at_call 56; refine (Hid.out HI _).mono ?_; rintro e w' ⟨rfl, rfl⟩))
    go_ret
    exact ⟨rfl, rfl⟩
end
section
open Go.RowKit Go
/-- Which digit each byte is, counted from 1, by the first k digits. -/
def plt (t : List Nat) : Nat → List Nat
  | 0 => List.replicate 256 0
  | k + 1 => (plt t k).set (t.getD k 0) (k + 1)
theorem plt_len (t : List Nat) : ∀ k, (plt t k).length = 256
  | 0 => List.length_replicate
  | k + 1 => by rw [plt, List.length_set, plt_len t k]
theorem bv_set (l : List Nat) (i x : Nat) : (bv l).toArray.setIfInBounds i (.int .u8 ((x : Nat) : Int)) = (bv (l.set i x)).toArray := by
  simp [bv, List.map_set]
theorem zero256 : Tryd.zeroCells98 = (bv (List.replicate 256 0)).toArray := by kernel_rfl
theorem info256 : (Tryd.prog.info? 98).map (·.size) = some 256 := by kernel_rfl
/-- How a function ends whose result is an array. -/
theorem end_a1 {fn : Func} {p : Tmp} {T e : TypeId} {m n : Nat} {wx : World} {R : Nat} {cs : Array Value} {tmps : Array Value} (hf : fn.results = #[.cell p T]) (hu : Tryd.prog.underlying T = some (.array m e)) (hi : (Tryd.prog.info? T).map (·.size) = some n) (hn : cs.size = n)
    (hr : wx.heap[R]? = some (.cells cs T (0, 0))) (hp : tmps.getD p undef = .pointer (some ⟨R, 0, none⟩)) : (results fn tmps).run Tryd.prog wx = .ok (.agg cs) wx := by
  refine (results_one hf _ _ _).trans ?_
  rw [hp]
  have h1 := run_loadVar_row (P := Tryd.prog) wx R T T cs (0, 0) _ hr hu rfl (by rw [hn]; exact hi)
  simp [asAddr, h1, Result.andThen]
theorem sl_at (D : ByteArray) (k : Nat) (h : k < D.size) : (sl D).getD k 0 = D[k].toNat := by
  rw [sl_get]
  congr 1
  have h2 : k < D.data.toList.length := by rw [Array.length_toList]; exact h
  rw [List.getD_eq_getElem?_getD, List.getElem?_eq_getElem h2]
  rfl
end
section
open Go.RowKit Go
/-- Keys' order. -/
def bfr (a b : List Nat) : Bool := if a.length = b.length then blt a b else decide (a.length < b.length)
theorem nat_ne {a b : Nat} : ((a : Int) != (b : Int)) = decide (a ≠ b) := by
  rw [Bool.eq_iff_iff]
  simp
  omega
end
section
open Go.RowKit Go
set_option maxRecDepth 1000000 in
set_option maxHeartbeats 1000000 in
theorem check_any (w : World) (l : Lk) (hl : Lkb l) : Calls Tryd.prog 49 #[lkv l] w fun e w' => e = .returned (.int .i64 (if lok l then 0 else 40)) ∧ Below w.heap.size w w' := by
  generalize hR : (if lok l then (0 : Int) else 40) = R
  have HR := hide hR
  clear hR
  have HL := hide hl
  have HLO : Hid (∀ x ∈ (⟨0, 112, 18, l.d⟩ : Lk).d, x < 256) := hl.d
  have HOL : Hid (lcs ⟨0, 112, 18, l.d⟩ = #[.int .i64 0, .int .u64 112, .int .u64 18, .string (nstr l.d)]) := rfl
  have HT : Hid ((w.alloc (.cells #[.int .i64 l.v, .int .u64 (l.c : Nat), .int .u64 (l.h : Nat), .string (nstr l.d)] 25)).heap[w.heap.size]? = some (.cells (lcs l) 25 (0, 0))) := heap_alloc_new w _
  have HBQ := hide (below_alloc4 w (.cells #[.int .i64 l.v, .int .u64 (l.c : Nat), .int .u64 (l.h : Nat), .string (nstr l.d)] 25))
  simp only [lkv]
  go_enter Tryd.func49, Tryd.ntmps49
  go_wp2_with fail
  generalize w.alloc (.cells #[.int .i64 l.v, .int .u64 (l.c : Nat), .int .u64 (l.h : Nat), .string (nstr l.d)] 25) = w0 at *
  go_cut [3] (fun c wx => c = .bool (decide (l = ⟨0, 112, 18, l.d⟩) && decide (okd l.h l.d)) ∧ Hid (Below w0.heap.size w0 wx))
  case first => as_aux_lemma =>
    have q3 : ∀ t : Ext w0, t.w'.cell? ⟨w.heap.size, 3, none⟩ = some (.string (nstr l.d)) := fun t => Ext.cell (blk_cell HT.out rfl) t
    have HQ : Hid (∀ wx, (∃ t : Ext w0, wx = t.w') → wx.heap[w.heap.size]? = some (.cells (lcs l) 25 (0, 0))) := by
      rintro _ ⟨t, rfl⟩
      exact (t.h.block _ (blk_lt HT.out)).trans HT.out
    have HCO : Hid (∀ t : Ext w0, Calls Tryd.prog 59 #[.string (nstr l.d)] t.w' fun e w'' => e = .returned (.agg (lcs ⟨0, 112, 18, l.d⟩)) ∧ ∃ t' : Ext w0, w'' = t'.w') := fun t => Calls.ext_below (old_any t.w' (nstr l.d))
    have HCF : Hid (∀ t : Ext w0, Calls Tryd.prog 60 #[.agg (lcs l)] t.w' fun e w'' => e = .returned (.bool (decide (okd l.h l.d))) ∧ ∃ t' : Ext w0, w'' = t'.w') := fun t => Calls.ext_below (fits4_any t.w' l HL.out)
    have HEQ : Hid (∀ wx, (∃ t : Ext w0, wx = t.w') → (Op.equalIn 10000 25 (.agg (lcs l)) (.agg (lcs ⟨0, 112, 18, l.d⟩))).run Tryd.prog wx = .ok (decide (l = ⟨0, 112, 18, l.d⟩)) wx) := fun wx _ => eqlk wx HL.out.d HLO.out
    generalize hbb : decide (l = ⟨0, 112, 18, l.d⟩) = bb at *
    generalize lcs ⟨0, 112, 18, l.d⟩ = ol at *
    have HCN : Hid ((lcs l).size = 4) := rfl
    generalize lcs l = cl at *
    clear hbb
    cases bb
    · refine region_ext (by kernel_rfl) (by kernel_rfl) ?_
      repeat (
        refine wpQuiet_step (fun K hK => ?_)
        first
          | (refine qstep_link rfl rfl w.heap.size cl rfl HCN.out HQ.out (hK _ ?_); clear hK K)
          | (refine qstep_eqlk rfl rfl cl ol false rfl rfl HEQ.out (hK _ ?_); clear hK K)
          | (go_simp
             first
               | (refine hK _ ?_; clear hK K)
               | (apply Exists.intro
                  refine ⟨fun _ => ?_, hK _ ?_⟩
                  (first
                    | (go_at_call 59; exact HCO.out _)
                    | (go_at_call 60; exact HCF.out _))
                  clear hK K)))
      refine wpQuiet_nil ?_
      rintro _ ⟨tq, rfl⟩
      go_wp2_with fail
      go_meet
      case rel => exact ⟨rfl, tq.h⟩
    · refine region_ext (by kernel_rfl) (by kernel_rfl) ?_
      repeat (
        refine wpQuiet_step (fun K hK => ?_)
        first
          | (refine qstep_link rfl rfl w.heap.size cl rfl HCN.out HQ.out (hK _ ?_); clear hK K)
          | (refine qstep_eqlk rfl rfl cl ol true rfl rfl HEQ.out (hK _ ?_); clear hK K)
          | (go_simp
             first
               | (refine hK _ ?_; clear hK K)
               | (apply Exists.intro
                  refine ⟨fun _ => ?_, hK _ ?_⟩
                  (first
                    | (go_at_call 59; exact HCO.out _)
                    | (go_at_call 60; exact HCF.out _))
                  clear hK K)))
      refine wpQuiet_nil ?_
      rintro _ ⟨tq, rfl⟩
      go_wp2_with fail
      go_meet
      case rel => exact ⟨rfl, tq.h⟩
  case rest => as_aux_lemma =>
    obtain ⟨rfl, hb1⟩ := hcut
    have HT1 : Hid (wc.heap[w.heap.size]? = some (.cells (lcs l) 25 (0, 0))) := (hb1.out.block _ (blk_lt HT.out)).trans HT.out
    have HB1 : Hid (Below w.heap.size w wc) := HBQ.out.trans (hb1.out.mono HBQ.out.size)
    have HK : Hid (lok l ↔ (l = ⟨0, 112, 18, l.d⟩ ∧ okd l.h l.d) ∨ (l.v = 1 ∧ l.c < 9223372036854775808 ∧ okd l.h l.d)) := by
      show _ ↔ _
      unfold lok
      rw [lk_ext]
      constructor
      · rintro (⟨h1, h2, h3, h4⟩ | h)
        · exact .inl ⟨⟨h1, h2, h3, rfl⟩, .inl ⟨h3, h4⟩⟩
        · exact .inr h
      · rintro (⟨⟨h1, h2, h3, _⟩, h | h⟩ | h)
        · exact .inl ⟨h1, h2, h3, h.2⟩
        · simp only at h1 h2 h3
          omega
        · exact .inr h
    clear hb1 HT HBQ HOL HLO
    by_cases hc1 : l = ⟨0, 112, 18, l.d⟩ ∧ okd l.h l.d
    · as_aux_lemma =>
      have e1 : (decide (l = ⟨0, 112, 18, l.d⟩) && decide (okd l.h l.d)) = true := by rw [decide_eq_true hc1.1, decide_eq_true hc1.2]; rfl
      have HZ : Hid (R = 0) := by show _ = _; rw [← HR.out, if_pos (HK.out.2 (.inl hc1))]
      rw [e1]
      clear e1 hc1 HR HK
      go_wp2_with fail
      go_ret
      exact ⟨by rw [HZ.out]; rfl, HB1.out⟩
    · have e1 : (decide (l = ⟨0, 112, 18, l.d⟩) && decide (okd l.h l.d)) = false := by
        rw [Bool.and_eq_false_iff, decide_eq_false_iff_not, decide_eq_false_iff_not]
        exact Decidable.not_and_iff_or_not.1 hc1
      rw [e1]
      have HE : Hid (lok l ↔ (l.v = 1 ∧ l.c < 9223372036854775808 ∧ okd l.h l.d)) := HK.out.trans ⟨fun h => h.resolve_left hc1, .inr⟩
      have q0 : wc.cell? ⟨w.heap.size, 0, none⟩ = some (.int .i64 l.v) := blk_cell HT1.out rfl
      have q1 : wc.cell? ⟨w.heap.size, 1, none⟩ = some (.int .u64 (l.c : Nat)) := blk_cell HT1.out rfl
      have q2 : wc.cell? ⟨w.heap.size, 2, none⟩ = some (.int .u64 (l.h : Nat)) := blk_cell HT1.out rfl
      have q3 : wc.cell? ⟨w.heap.size, 3, none⟩ = some (.string (nstr l.d)) := blk_cell HT1.out rfl
      have HF := hide (fits4_any wc l HL.out)
      simp only [lkv] at HF
      have HCL := hide HL.out.c
      clear e1 hc1 HK HL hl HT1
      generalize nstr l.d = S at *
      obtain ⟨v, c, h, d⟩ := l
      simp only at *
      by_cases hv : v = 1
      · subst hv
        generalize hn : (c : Int) = n at *
        have HN := hide hn
        clear hn
        by_cases hc63 : n < 9223372036854775808
        · as_aux_lemma =>
          have HZ : Hid (R = if okd h d then 0 else 40) := by
            show _ = _
            rw [← HR.out]
            have := HN.out
            by_cases hk : okd h d
            · rw [if_pos hk, if_pos (HE.out.2 ⟨rfl, by omega, hk⟩)]
            · rw [if_neg hk, if_neg (fun e => hk (HE.out.1 e).2.2)]
          clear HE HR HN
          go_wp2_with fail
          refine HF.out.mono ?_
          rintro e w2 ⟨rfl, hb2⟩
          have HB2 : Hid (Below w.heap.size w w2) := HB1.out.trans (hb2.mono HB1.out.size)
          clear hb2 HF
          by_cases hk : okd h d
          · rw [decide_eq_true hk]
            rw [if_pos hk] at HZ
            go_wp2_with fail
            go_ret
            exact ⟨by rw [HZ.out]; rfl, HB2.out⟩
          · rw [decide_eq_false hk]
            rw [if_neg hk] at HZ
            go_wp2_with fail
            go_ret
            exact ⟨by rw [HZ.out]; rfl, HB2.out⟩
        · as_aux_lemma =>
          have g2' : (9223372036854775808 : Int) ≤ n := by omega
          have HZ : Hid (R = 40) := by show _ = _; rw [← HR.out, if_neg (fun e => hc63 (by have := (HE.out.1 e).2.1; have := HN.out; omega))]
          clear HE HR HN hc63
          go_wp2_with fail
          go_ret
          exact ⟨by rw [HZ.out]; rfl, HB1.out⟩
      · as_aux_lemma =>
        have g1 : (v == 1) = false := beq_eq_false_iff_ne.2 hv
        have HZ : Hid (R = 40) := by show _ = _; rw [← HR.out, if_neg (fun e => hv (HE.out.1 e).1)]
        clear HE HR hv
        go_wp2_with fail
        go_ret
        exact ⟨by rw [HZ.out]; rfl, HB1.out⟩
end
section
open Go.RowKit Go
/-- How a function ends whose first result is a struct. -/
theorem end_c2 {fn : Func} {p q : Tmp} {T : TypeId} {fs : Array Field} {wx : World} {R : Nat} {cs : Array Value} {x : Value} {tmps : Array Value} (hf : fn.results = #[.cell p T, .tmp q]) (hu : Tryd.prog.underlying T = some (.struct fs)) {n : Nat} (hi : (Tryd.prog.info? T).map (·.size) = some n) (hn : cs.size = n)
    (hr : wx.heap[R]? = some (.cells cs T (0, 0))) (hp : tmps.getD p undef = .pointer (some ⟨R, 0, none⟩)) (hx : tmps.getD q undef = x) : (results fn tmps).run Tryd.prog wx = .ok (.tuple #[.agg cs, x]) wx := by
  refine (results_cell_tmp hf _ _ _).trans ?_
  rw [hp, hx]
  have h1 := run_loadVar_row (P := Tryd.prog) wx R T T cs (0, 0) _ hr hu rfl (by rw [hn]; exact hi)
  simp [asAddr, h1, Result.andThen]
theorem end_c3 {fn : Func} {p q s : Tmp} {T : TypeId} {fs : Array Field} {wx : World} {R : Nat} {cs : Array Value} {x y : Value} {tmps : Array Value} (hf : fn.results = #[.cell p T, .tmp q, .tmp s]) (hu : Tryd.prog.underlying T = some (.struct fs)) {n : Nat} (hi : (Tryd.prog.info? T).map (·.size) = some n) (hn : cs.size = n)
    (hr : wx.heap[R]? = some (.cells cs T (0, 0))) (hp : tmps.getD p undef = .pointer (some ⟨R, 0, none⟩)) (hx : tmps.getD q undef = x) (hy : tmps.getD s undef = y) : (results fn tmps).run Tryd.prog wx = .ok (.tuple #[.agg cs, x, y]) wx := by
  refine (results_c3 hf _ _ _).trans ?_
  rw [hp, hx, hy]
  have h1 := run_loadVar_row (P := Tryd.prog) wx R T T cs (0, 0) _ hr hu rfl (by rw [hn]; exact hi)
  simp [asAddr, h1, Result.andThen]
/-- A whole link is laid. -/
theorem wpList_storeLk {ops : Array Oper} {rest : List Oper} {o : Oper} {a : Act} {Q : Exit → Act → World → Prop} {w : World} {p x : Operand} (hgd : o.guard = none) (ho : o.op = .store 25 p x) (g : Nat) (old : Array Value) (l : Lk)
    (hp : a.eval p = .pointer (some ⟨g, 0, none⟩)) (hx : a.eval x = .agg (lcs l)) (hn : old.size = 4) (hg : w.heap[g]? = some (.cells old 25 (0, 0))) (h : wpList Tryd.prog ops Q rest (a.put o.dst undef) (w.setRow g (lcs l))) : wpList Tryd.prog ops Q (o :: rest) a w :=
  wpList_storeRow hgd ho g old (lcs l) 25 hp hx hg info61 (by rw [hn]; rfl) (by kernel_rfl) h
end
section
open Go.RowKit Go

end
section
open Go.RowKit Go
/-- Rows of bytes in a block of slices. -/
structure Rws (w : World) (g : Nat) (vs : List Value) (xss : List (List Nat)) : Prop where
  n : vs.length = xss.length
  c : ∀ i, i < vs.length → w.cell? ⟨g, i, none⟩ = some (vs.getD i undef)
  b : ∀ i, i < vs.length → BSl w (vs.getD i undef) (xss.getD i [])
theorem Rws.below {w w' : World} {g : Nat} {vs : List Value} {xss : List (List Nat)} (h : Rws w g vs xss) (hb : Below w.heap.size w w') : Rws w' g vs xss :=
  ⟨h.n, fun i hi => keep_below hb _ _ (h.c i hi), fun i hi => (h.b i hi).move (keep_below hb)⟩
/-- How many bytes the first k rows have, and all bytes. -/
def fln (xss : List (List Nat)) (k : Nat) : Nat := (xss.take k).flatten.length
def fla (xss : List (List Nat)) (k : Nat) : List Nat := (xss.take k).flatten
theorem fla_len (xss : List (List Nat)) (k : Nat) : (fla xss k).length = fln xss k := rfl
theorem fla_succ (xss : List (List Nat)) (k : Nat) (hk : k < xss.length) : fla xss (k + 1) = fla xss k ++ xss.getD k [] := by
  unfold fla
  rw [List.take_succ_eq_append_getElem hk, List.flatten_append]
  simp [List.getD, hk]
theorem fln_succ (xss : List (List Nat)) (k : Nat) (hk : k < xss.length) : fln xss (k + 1) = fln xss k + (xss.getD k []).length := by
  rw [← fla_len, ← fla_len, fla_succ xss k hk, List.length_append]
theorem fln_le (xss : List (List Nat)) (k : Nat) : fln xss k ≤ fln xss xss.length := by
  unfold fln
  rw [List.take_length]
  conv => rhs; rw [← List.take_append_drop k xss, List.flatten_append, List.length_append]
  omega
theorem fla_all (xss : List (List Nat)) : fla xss xss.length = xss.flatten := by unfold fla; rw [List.take_length]
end
section
open Go.RowKit Go
/-- What Bytes lays. -/
def lrow (l : Lk) : List Nat := if lok l then lbytes l else []
theorem lrow_byte {l : Lk} (h : ∀ x ∈ l.d, x < 256) : ∀ x ∈ lrow l, x < 256 := by
  unfold lrow
  split
  · exact lbytes_byte (by assumption) h
  · simp
theorem lrow_len (l : Lk) : (lrow l).length ≤ 76 := by
  unfold lrow
  split
  · exact lbytes_len (by assumption)
  · simp
end
section
open Go.RowKit Go
theorem BSl.entry {w : World} {v : Value} {xs : List Nat} (h : BSl w v xs) : (Extern.Bytes.bytesOf v).run Tryd.prog w = .ok (nstr xs) w := by
  obtain ⟨⟨a, cap, rfl, _, hc⟩, _, _⟩ := h
  rcases hc with rfl | ⟨b, off, rfl, hc⟩
  · cases a with
    | none => rfl
    | some a => rfl
  · have hl := Lib.run_loadBytesX (P := Tryd.prog) w (xs.map fun x => ((x : Nat) : Int)) ⟨b, off, none⟩ .empty (fun j x hj => by
      have hjl : j < xs.length := by
        have := (List.getElem?_eq_some_iff.1 hj).1
        simpa using this
      have e : (⟨b, off, none⟩ : Addr).add j = ⟨b, off + j, none⟩ := by unfold Addr.add; split <;> simp_all
      rw [e, hc j hjl]
      simp [hjl] at hj
      simp [List.getD, hjl, hj])
    rw [List.length_map] at hl
    show (Extern.Bytes.loadBytes _ _ _).run Tryd.prog w = _
    rw [hl]
    congr 1
    apply ByteArray.ext
    show (#[] : Array UInt8) ++ _ = _
    simp [nstr, Lib.bytesOf]
    apply Array.ext'
    rw [strOfNums_data]
    simp
theorem cmp_blt : ∀ (la lb : List UInt8), (∀ r, la ++ r = lb → r = []) → decide (Lib.compareBytes la lb < 0) = blt (la.map UInt8.toNat) (lb.map UInt8.toNat)
  | [], [], _ => rfl
  | [], y :: lb, h => by
    have := h (y :: lb) rfl
    cases this
  | _ :: _, [], _ => rfl
  | x :: la, y :: lb, h => by
    have ih := cmp_blt la lb
    unfold Lib.compareBytes
    simp only [List.map_cons, blt]
    by_cases hxy : x = y
    · subst hxy
      have hlt : ¬ x < x := UInt8.lt_irrefl x
      rw [if_neg hlt, if_neg hlt, if_pos rfl]
      exact ih (fun r hr => h r (by rw [List.cons_append, hr]))
    · have hne : x.toNat ≠ y.toNat := fun e => hxy (UInt8.toNat_inj.1 e)
      rw [if_neg hne]
      by_cases hl : x < y
      · rw [if_pos hl]
        have : x.toNat < y.toNat := UInt8.lt_iff_toNat_lt.1 hl
        simp [this]
      · rw [if_neg hl]
        have h2 : ¬ x.toNat < y.toNat := fun e => hl (UInt8.lt_iff_toNat_lt.2 e)
        have h3 : y < x := UInt8.lt_iff_toNat_lt.2 (by omega)
        rw [if_pos h3]
        simp [h2]
theorem nstr_list {xs : List Nat} (h : ∀ x ∈ xs, x < 256) : (nstr xs).data.toList.map UInt8.toNat = xs := sl_nstr h
theorem cmp_lbytes {a b : Lk} (ha : lok a) (hb : lok b) (had : ∀ x ∈ a.d, x < 256) (hbd : ∀ x ∈ b.d, x < 256) : decide (Lib.compareBytes (nstr (lbytes a)).data.toList (nstr (lbytes b)).data.toList < 0) = blt (lbytes a) (lbytes b) := by
  have h1 := nstr_list (lbytes_byte ha had)
  have h2 := nstr_list (lbytes_byte hb hbd)
  rw [cmp_blt, h1, h2]
  intro r hr
  have h3 := congrArg (List.map UInt8.toNat) hr
  rw [List.map_append, h1, h2] at h3
  have := (lbytes_free ha hb h3).2
  simpa using this
/-- Which of two links stands ahead. -/
def llt (a b : Lk) : Bool := decide (lok a) && decide (lok b) && blt (lrow a) (lrow b)
theorem blt_self : ∀ x, blt x x = false
  | [] => rfl
  | x :: r => by rw [blt, if_pos rfl, blt_self r]
end
end Go.Proofs.YtibcepokeaaoiabDoor
