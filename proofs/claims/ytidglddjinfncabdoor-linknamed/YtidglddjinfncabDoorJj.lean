import Derived.Test.YtidglddjinfncabDoorJi
import Derived.Deep.QuietTactic
import Derived.Laws.StructEq
import Derived.SliceStrings
import Derived.Laws.ResultCell
namespace Go.Proofs.YtidglddjinfncabDoor
section
open Go.RowKit Go
/-- Which stands ahead, where they differ. -/
def blt : List Nat → List Nat → Bool
  | x :: r, y :: q => if x = y then blt r q else decide (x < y)
  | _, _ => false
theorem blt_drop {x y : List Nat} {i : Nat} (hx : i < x.length) (hy : i < y.length) : blt (x.drop i) (y.drop i) = if x.getD i 0 = y.getD i 0 then blt (x.drop (i + 1)) (y.drop (i + 1)) else decide (x.getD i 0 < y.getD i 0) := by
  rw [List.drop_eq_getElem_cons hx, List.drop_eq_getElem_cons hy]
  simp [blt, List.getD, hx, hy]
theorem blt_end {x y : List Nat} {i : Nat} (h : ¬ i < x.length ∨ ¬ i < y.length) : blt (x.drop i) (y.drop i) = false := by
  rcases h with h | h
  · rw [List.drop_of_length_le (by omega)]
    rfl
  · rw [List.drop_of_length_le (l := y) (by omega)]
    cases x.drop i <;> rfl
theorem bsl_cell {w : World} {a : Option Addr} {n cap : Nat} {xs : List Nat} (h : BSl w (.slice a n cap) xs) {i : Nat} (hi : i < xs.length) : ∃ b off, a = some ⟨b, off, none⟩ ∧ w.cell? ⟨b, off + i, none⟩ = some (.int .u8 ((xs.getD i 0 : Nat) : Int)) := by
  obtain ⟨⟨a', cap', e, _, hc⟩, _, _⟩ := h
  injection e with e1 e2 e3
  subst e1
  rcases hc with hc | ⟨b, off, ha, hc⟩
  · rw [hc] at hi
    simp at hi
  · exact ⟨b, off, ha, hc i hi⟩
/-- The bytes that Bytes tells. -/
def lb (v : Int) (c h : Nat) (s : ByteArray) : List Nat := if lok ⟨v, c, h, sl s⟩ then lbytes ⟨v, c, h, sl s⟩ else []
theorem lb_byte (v : Int) (c h : Nat) (s : ByteArray) : ∀ x ∈ lb v c h s, x < 256 := by
  unfold lb
  split
  · rename_i hl
    exact lbytes_byte hl (sl_byte s)
  · simp
theorem lb_len (v : Int) (c h : Nat) (s : ByteArray) : (lb v c h s).length ≤ 76 := by
  unfold lb
  split
  · rename_i hl
    exact lbytes_len hl
  · simp
end
section
open Go.RowKit Go
theorem sl_nstr {xs : List Nat} (h : ∀ x ∈ xs, x < 256) : sl (nstr xs) = xs := by
  have key : ∀ l : List Nat, (∀ x ∈ l, x < 256) → (nstr l).data.toList.map UInt8.toNat = l := by
    intro l hl
    simp only [nstr, strOfNums_data, List.map_map]
    conv => rhs; rw [← List.map_id l]
    apply List.map_congr_left
    intro x hx
    have := hl x hx
    simp; omega
  exact key xs h
/-- The link of a block (P4.2). -/
def lof (c : Nat) (b : List Nat) : Lk × Nat := if c < 9223372036854775808 then (⟨1, c, 18, sha b⟩, 0) else (Lk.none, 40)
end
section
open Go.RowKit Go
/-- The number that digits make, the first one the lowest. -/
def valL (b : Nat) : List Nat → Nat
  | [] => 0
  | d :: l => d + b * valL b l
theorem valL_rev (b : Nat) : ∀ l, valL b l = valB b l.reverse
  | [] => rfl
  | d :: l => by
    rw [valL, valL_rev b l, List.reverse_cons, valB_snoc, Nat.mul_comm]
    omega
theorem valL_app (b : Nat) : ∀ l m, valL b (l ++ m) = valL b l + b ^ l.length * valL b m
  | [], m => by simp [valL]
  | d :: l, m => by
    rw [List.cons_append, valL, valL_app b l m, valL, List.length_cons, Nat.pow_succ, Nat.mul_add, Nat.mul_comm (b ^ l.length) b, Nat.mul_assoc]
    omega
theorem valL_lt {b : Nat} (hb : 0 < b) {l : List Nat} (h : ∀ d ∈ l, d < b) : valL b l < b ^ l.length := by
  rw [valL_rev, ← List.length_reverse]
  exact valB_lt hb (fun d hd => h d (List.mem_reverse.1 hd))
theorem valL_digB {b : Nat} (hb : 2 ≤ b) {l : List Nat} (h : ∀ d ∈ l, d < b) (h0 : l = [] ∨ b ^ (l.length - 1) ≤ valL b l) : l.reverse = digB b (valL b l) := by
  rw [valL_rev]
  symm
  refine digB_valB hb _ _ rfl (fun d hd => h d (List.mem_reverse.1 hd)) ?_
  rcases h0 with rfl | h0
  · simp
  · intro e
    cases hl : l with
    | nil => rw [hl] at e; simp at e
    | cons x m =>
      obtain ⟨l0, d, hld⟩ : ∃ l0 d, l = l0 ++ [d] := ⟨l.dropLast, l.getLast (by rw [hl]; simp), (List.dropLast_concat_getLast (by rw [hl]; simp)).symm⟩
      rw [hld] at e h0 h
      rw [List.reverse_append] at e
      simp at e
      subst e
      rw [valL_app] at h0
      have := valL_lt (b := b) (by omega) (l := l0) (fun d hd => h d (by simp [hd]))
      simp [valL] at h0
      omega
theorem valB_zeros (b : Nat) (d : List Nat) : ∀ z, valB b (List.replicate z 0 ++ d) = valB b d
  | 0 => by simp
  | z + 1 => by rw [List.replicate_succ, List.cons_append, valB_cons, Nat.zero_mul, Nat.zero_add, valB_zeros b d z]
theorem conv_val (a b : Nat) (l : List Nat) : conv a b l = List.replicate (l.takeWhile (· == 0)).length 0 ++ digB b (valB a l) := by
  unfold conv
  congr 2
  have h := valB_zeros a (l.dropWhile (· == 0)) (l.takeWhile (· == 0)).length
  rw [← zeros_take, List.takeWhile_append_dropWhile] at h
  exact h.symm
theorem tw_snoc {b : Nat} (hb : 0 < b) (n : Nat) : ∀ p : List Nat, ((p ++ [n]).takeWhile (· == 0)).length = if valB b (p ++ [n]) = 0 then (p.takeWhile (· == 0)).length + 1 else (p.takeWhile (· == 0)).length
  | [] => by
    have e : valB b [n] = n := by rw [valB_cons]; simp [valB]
    rw [List.nil_append, e]
    by_cases h : n = 0
    · subst h
      simp
    · simp [h]
  | x :: p => by
    rw [List.cons_append, valB_cons]
    by_cases h : x = 0
    · subst h
      have ih := tw_snoc hb n p
      rw [Nat.zero_mul, Nat.zero_add]
      simp only [List.takeWhile_cons, beq_self_eq_true, if_true, List.length_cons, ih]
      split <;> rfl
    · have hp : 0 < x * b ^ (p ++ [n]).length := Nat.mul_pos (by omega) (Nat.pow_pos hb)
      rw [if_neg (by omega)]
      simp [h]

/-- What regroup has in hand: the digits told, the bits that wait. -/
structure Rg (tt : Nat) (B out R : List Nat) : Prop where
  e : B = out.flatMap (bitsW tt) ++ R
  o : ∀ x ∈ out, x < 2 ^ tt
  r : ∀ x ∈ R, x < 2
theorem Rg.start (tt : Nat) : Rg tt [] [] [] := ⟨rfl, by simp, by simp⟩
theorem Rg.more {tt f n : Nat} {B out R : List Nat} (h : Rg tt B out R) : Rg tt (B ++ bitsW f n) out (R ++ bitsW f n) :=
  ⟨by rw [h.e, List.append_assoc], h.o, fun x hx => by
    rcases List.mem_append.1 hx with hx | hx
    · exact h.r x hx
    · exact bitsW_lt f n x hx⟩
theorem Rg.take {tt : Nat} {B out R : List Nat} (h : Rg tt B out R) (hl : tt ≤ R.length) : Rg tt B (out ++ [valB 2 (R.take tt)]) (R.drop tt) := by
  have hl2 : (R.take tt).length = tt := by rw [List.length_take]; omega
  have hb : ∀ x ∈ R.take tt, x < 2 := fun x hx => h.r x (List.mem_of_mem_take hx)
  refine ⟨?_, ?_, fun x hx => h.r x (List.mem_of_mem_drop hx)⟩
  · have e := bitsW_valB (R.take tt) hb
    rw [hl2] at e
    rw [List.flatMap_append, List.flatMap_singleton, e, List.append_assoc, List.take_append_drop]
    exact h.e
  · intro x hx
    rcases List.mem_append.1 hx with hx | hx
    · exact h.o x hx
    · simp only [List.mem_singleton] at hx
      subst hx
      have := valB_lt (b := 2) (by decide) hb
      rwa [hl2] at this
theorem Rg.grp {tt : Nat} {B out R : List Nat} (h : Rg tt B out R) (hw : 0 < tt) (hl : R.length < tt) : out = grp tt B := by
  rw [h.e]
  exact (grp_bits hw hl h.o).symm
theorem rest_shift {R : List Nat} {tt : Nat} (h : ∀ x ∈ R, x < 2) : valB 2 R / 2 ^ (R.length - tt) = valB 2 (R.take tt) ∧ valB 2 R % 2 ^ (R.length - tt) = valB 2 (R.drop tt) := by
  have hd : (R.drop tt).length = R.length - tt := List.length_drop
  have hv := valB_lt (b := 2) (by decide) (l := R.drop tt) (fun x hx => h x (List.mem_of_mem_drop hx))
  have e := valB_app 2 (R.take tt) (R.drop tt)
  rw [List.take_append_drop] at e
  rw [hd] at hv e
  rw [e, Nat.mul_comm]
  exact ⟨by rw [Nat.mul_add_div (Nat.pow_pos (by decide)), Nat.div_eq_of_lt hv, Nat.add_zero], by rw [Nat.mul_add_mod, Nat.mod_eq_of_lt hv]⟩
theorem rest_more {R : List Nat} {f n : Nat} (hn : n < 2 ^ f) : valB 2 (R ++ bitsW f n) = valB 2 R * 2 ^ f + n := by
  rw [valB_app, bitsW_len, valB_bitsW, Nat.mod_eq_of_lt hn]
/-- The last digit, filled. -/
theorem encW_rg {w : Nat} (hw : 0 < w) {b out R : List Nat} (h : Rg w (b.flatMap (bitsW 8)) out R) (hl : R.length < w) : encW w b = out ++ (if R = [] then [] else [valB 2 R * 2 ^ (w - R.length)]) := by
  have hlen := congrArg List.length h.e
  rw [flat_len, List.length_append, flat_len] at hlen
  have hm : b.length * 8 % w = R.length := by rw [hlen, Nat.mul_comm, Nat.mul_add_mod, Nat.mod_eq_of_lt hl]
  have hfl : ∀ (o : List Nat) (z : List Nat), (∀ x ∈ o, x < 2 ^ w) → grp w (o.flatMap (bitsW w) ++ z) = o ++ grp w z := by
    intro o
    induction o with
    | nil => intro z _; rfl
    | cons x o ih => intro z ho; rw [List.flatMap_cons, List.append_assoc, grp_app hw (bitsW_len w x), valB_bitsW, Nat.mod_eq_of_lt (ho x (by simp)), ih z (fun y hy => ho y (List.mem_cons_of_mem _ hy)), List.cons_append]
  unfold encW
  rw [hm, h.e, List.append_assoc, hfl _ _ h.o]
  congr 1
  by_cases h0 : R = []
  · subst h0
    rw [if_pos rfl, List.length_nil, Nat.sub_zero, Nat.mod_self]
    exact grp_short (by simpa using hw)
  · have hp : 0 < R.length := List.length_pos_iff.2 h0
    rw [if_neg h0, Nat.mod_eq_of_lt (by omega)]
    have hr : (R ++ List.replicate (w - R.length) 0).length = w := by rw [List.length_append, List.length_replicate]; omega
    have e := grp_app hw hr []
    rw [List.append_nil] at e
    rw [e, grp_short (by simpa using hw), valB_app, List.length_replicate]
    congr 1
    have hz := valB_zeros 2 [] (w - R.length)
    rw [List.append_nil] at hz
    rw [hz]
    rfl
theorem valB2_zero : ∀ {R : List Nat}, (∀ x ∈ R, x < 2) → valB 2 R = 0 → R = List.replicate R.length 0
  | [], _, _ => rfl
  | x :: R, h, h0 => by
    rw [valB_cons] at h0
    have hx : x = 0 := by
      rcases Nat.eq_zero_or_pos x with e | e
      · exact e
      · have := Nat.mul_pos e (Nat.pow_pos (n := R.length) (show 0 < 2 by decide))
        omega
    subst hx
    rw [List.length_cons, List.replicate_succ, ← valB2_zero (fun y hy => h y (List.mem_cons_of_mem _ hy)) (by omega)]
/-- Digits are the digits of the bytes that they make just if no whole one is left and the bits that are left are 0. -/
theorem enc_dec {w : Nat} (hw : 0 < w) {l out R : List Nat} (hd : ∀ x ∈ l, x < 2 ^ w) (h : Rg 8 (l.flatMap (bitsW w)) out R) (hl : R.length < 8) : encW w out = l ↔ R.length < w ∧ valB 2 R = 0 := by
  have hlen := congrArg List.length h.e
  rw [flat_len, List.length_append, flat_len] at hlen
  have hp : (w - out.length * 8 % w) % w < w := Nat.mod_lt _ hw
  constructor
  · intro e
    have hd2 := congrArg (List.flatMap (bitsW w)) e
    unfold encW at hd2
    have hdiv : (out.length * 8 + (w - out.length * 8 % w) % w) % w = 0 := by
      have h1 := Nat.mod_lt (out.length * 8) hw
      by_cases h0 : out.length * 8 % w = 0
      · rw [h0, Nat.sub_zero, Nat.mod_self, Nat.add_zero]
        exact h0
      · rw [Nat.mod_eq_of_lt (a := w - out.length * 8 % w) (by omega)]
        have h2 := Nat.div_add_mod (out.length * 8) w
        have e : out.length * 8 + (w - out.length * 8 % w) = w * (out.length * 8 / w + 1) := by rw [Nat.mul_add, Nat.mul_one]; omega
        rw [e]
        exact Nat.mul_mod_right _ _
    obtain ⟨k, hk⟩ := Nat.dvd_of_mod_eq_zero hdiv
    rw [bits_grp hw k _ (by rw [List.length_append, flat_len, List.length_replicate, hk, Nat.mul_comm]) (fun d hd => by
      rcases List.mem_append.1 hd with h | h
      · exact flat_lt 8 out d h
      · have := List.eq_of_mem_replicate h
        omega), h.e] at hd2
    have hR := List.append_cancel_left hd2
    rw [← hR, List.length_replicate]
    have hz := valB_zeros 2 [] ((w - out.length * 8 % w) % w)
    rw [List.append_nil] at hz
    exact ⟨hp, hz⟩
  · rintro ⟨h1, h2⟩
    have hR := valB2_zero h.r h2
    have hpad : (w - out.length * 8 % w) % w = R.length := by
      have h3 := Nat.mod_lt (out.length * 8) hw
      have h4 := Nat.div_add_mod (out.length * 8) w
      have h5 : (out.length * 8 % w + R.length) % w = 0 := by
        have : (out.length * 8 + R.length) % w = 0 := by rw [← hlen]; exact Nat.mul_mod_left _ _
        rw [← h4, Nat.add_assoc, Nat.mul_add_mod] at this
        exact this
      generalize out.length * 8 % w = m at *
      rcases Nat.eq_zero_or_pos m with e | e
      · subst e
        rw [Nat.zero_add, Nat.mod_eq_of_lt h1] at h5
        rw [Nat.sub_zero, Nat.mod_self, h5]
      · have h6 : m + R.length < 2 * w := by omega
        have h7 : m + R.length = w := by
          rcases Nat.lt_or_ge (m + R.length) w with h | h
          · rw [Nat.mod_eq_of_lt h] at h5
            omega
          · rw [Nat.mod_eq_sub_mod h, Nat.mod_eq_of_lt (by omega)] at h5
            omega
        rw [Nat.mod_eq_of_lt (by omega)]
        omega
    unfold encW
    rw [hpad, ← hR, ← h.e]
    have := grp_bits hw (z := []) (by simpa using hw) hd
    rwa [List.append_nil] at this
end
section
open Go.RowKit Go
theorem nstr_sl (s : ByteArray) : nstr (sl s) = s := by
  obtain ⟨⟨l⟩⟩ := s
  have e : nstr (sl ⟨⟨l⟩⟩) = ⟨(nstr (sl ⟨⟨l⟩⟩)).data⟩ := rfl
  rw [e]
  congr 1
  apply Array.ext'
  simp only [nstr, sl, strOfNums_data, List.map_map]
  conv => rhs; rw [← List.map_id l]
  apply List.map_congr_left
  intro x _
  simp
theorem nstr_size {xs : List Nat} (h : ∀ x ∈ xs, x < 256) : (nstr xs).size = xs.length := by rw [← sl_len, sl_nstr h]
/-- A link's cells. -/
def lcs (l : Lk) : Array Value := #[.int .i64 l.v, .int .u64 (l.c : Nat), .int .u64 (l.h : Nat), .string (nstr l.d)]
theorem lkv_lcs (l : Lk) : lkv l = .agg (lcs l) := rfl
/-- A link that the program can hold. -/
structure Lkb (l : Lk) : Prop where
  c : l.c < 18446744073709551616
  h : l.h < 18446744073709551616
  d : ∀ x ∈ l.d, x < 256
  n : l.d.length ≤ 9223372036854775807
theorem Lkb.size {l : Lk} (h : Lkb l) : (nstr l.d).size = l.d.length := nstr_size h.d
theorem lk_ext {a b : Lk} : a = b ↔ a.v = b.v ∧ a.c = b.c ∧ a.h = b.h ∧ a.d = b.d := by
  constructor
  · rintro rfl
    exact ⟨rfl, rfl, rfl, rfl⟩
  · obtain ⟨_, _, _, _⟩ := a
    obtain ⟨_, _, _, _⟩ := b
    rintro ⟨h1, h2, h3, h4⟩
    simp only at h1 h2 h3 h4
    subst h1 h2 h3 h4
    rfl
instance : DecidableEq Lk := fun a b => decidable_of_iff _ (lk_ext (a := a) (b := b)).symm
theorem eqlk (w : World) {a b : Lk} (ha : ∀ x ∈ a.d, x < 256) (hb : ∀ x ∈ b.d, x < 256) : (Op.equalIn 10000 33 (.agg (lcs a)) (.agg (lcs b))).run Tryd.prog w = .ok (decide (a = b)) w := by
  have u3 := Tryd.underlying3
  have u9 := Tryd.underlying9
  have u33 := Tryd.underlying31
  have a3 := Tryd.isAgg3
  have a9 := Tryd.isAgg9
  have a33 := Tryd.isAgg31
  have z3 := Tryd.sizeOf3
  have z9 := Tryd.sizeOf9
  have z33 := Tryd.sizeOf31
  have hS : Tryd.prog.underlying 33 = some (.struct (Tryd.prog.fieldsOf 33)) := by kernel_rfl
  have hp : Tryd.prog.stoodInHeld 33 = false := by kernel_rfl
  have hs : ((nstr a.d).toList == (nstr b.d).toList) = decide (a.d = b.d) := by
    by_cases h : a.d = b.d
    · rw [h]; simp
    · rw [beq_eq_false_iff_ne.2 (fun e => h (nstr_inj ha hb e))]; simp [h]
  have hr : decide (a = b) = (decide (a.v = b.v) && (decide (a.c = b.c) && (decide (a.h = b.h) && decide (a.d = b.d)))) := by
    rw [Bool.eq_iff_iff]
    simp [lk_ext]
  rw [hr]
  unfold lcs
  rw [show (10000 : Nat) = 9999 + 1 from rfl, run_equalIn_agg w 9999 33 _ _ hS hp]
  simp only [Program.fieldsOf, Tryd.underlying33]
  go_simp
  by_cases h1 : a.v = b.v <;> by_cases h2 : a.c = b.c <;> by_cases h3 : a.h = b.h <;> by_cases h4 : a.d = b.d <;> first | (simp [h1, h2, h3, h4]; done) | (simp [h1, h2, h3, h4]; omega)

theorem eqg : Tryd.prog.eqGuardType Tryd.prog.depth 33 = false := by kernel_rfl
/-- A whole struct by value, as a step of a region that draws. -/
theorem qstep_link {C : World → Prop} {ops : Array Oper} {o : Oper} {a : Act} {K : Act → Prop} {p : Operand} (hgd : Region.wanted o (yielded ops a.tmps) = true) (ho : o.op = .load 33 p) (g : Nat) (cs : Array Value)
    (hp : a.eval p = .pointer (some ⟨g, 0, none⟩)) (hn : cs.size = 4) (hc : ∀ w, C w → w.heap[g]? = some (.cells cs 33 (0, 0)))
    (h : K (a.put o.dst (.agg cs))) : if Region.wanted o (yielded ops a.tmps) = true then o.quiet Tryd.prog a C K else K (a.put o.dst undef) := by
  rw [if_pos hgd]
  refine ⟨.agg cs, fun w hC => ?_, h⟩
  have hr : (Instr.loadAt 33 (.pointer (some ⟨g, 0, none⟩))).run Tryd.prog w = .ok (.agg cs) w := by
    simp only [Instr.loadAt, Instr.sureAddr, Sem.run_bind, Sem.run_pure, Result.andThen]
    exact run_loadVar_row (P := Tryd.prog) w g 33 33 cs (0, 0) _ (hc w hC) Tryd.underlying33 rfl (by rw [hn]; exact info61)
  unfold Oper.quietAt execOp
  simp only [ho, Sem.run_bind, hp, hr, Result.andThen_ok]
  exact ⟨rfl, rfl⟩

theorem wpList_wanted {P : Program} {ops : Array Oper} {Q : Exit → Act → World → Prop} {a : Act} {w : World} {rest : List Oper} {o : Oper} (hw : Region.wanted o (yielded ops a.tmps) = true)
    (h : ∀ K : Act → World → Prop, (∀ a w, wpList P ops Q rest a w → K a w) → o.wp P a w K Q) : wpList P ops Q (o :: rest) a w := wpList_step fun K hK => by rw [if_pos hw]; exact h K hK
/-- Two links held against each other. -/
theorem exec_eqlk {o : Oper} {a : Act} {x y : Operand} {T2 : TypeId} {A B : Array Value} {r : Bool} {w : World} (ho : o.op = .binOp .eql 33 x y T2) (hx : a.eval x = .agg A) (hy : a.eval y = .agg B) (he : (Op.equalIn 10000 33 (.agg A) (.agg B)).run Tryd.prog w = .ok r w) : (execOp a.eval o).run Tryd.prog w = .ok (.value (.bool r)) w := by
  unfold execOp
  simp only [ho, Sem.run_bind, hx, hy, run_eqGuard_agg w _ 33 x y A B eqg, run_eql_struct, he, Result.andThen_ok]
  rfl
theorem exec_nelk {o : Oper} {a : Act} {x y : Operand} {T2 : TypeId} {A B : Array Value} {r : Bool} {w : World} (ho : o.op = .binOp .neq 33 x y T2) (hx : a.eval x = .agg A) (hy : a.eval y = .agg B) (he : (Op.equalIn 10000 33 (.agg A) (.agg B)).run Tryd.prog w = .ok r w) : (execOp a.eval o).run Tryd.prog w = .ok (.value (.bool (!r))) w := by
  unfold execOp
  simp only [ho, Sem.run_bind, hx, hy, run_eqGuard_agg w _ 33 x y A B eqg, run_neq_struct, he, Result.andThen_ok]
  rfl
theorem qstep_eqlk {C : World → Prop} {ops : Array Oper} {o : Oper} {a : Act} {K : Act → Prop} {x y : Operand} {T2 : TypeId} (hgd : Region.wanted o (yielded ops a.tmps) = true) (ho : o.op = .binOp .eql 33 x y T2) (A B : Array Value) (r : Bool)
    (hx : a.eval x = .agg A) (hy : a.eval y = .agg B) (he : ∀ w, C w → (Op.equalIn 10000 33 (.agg A) (.agg B)).run Tryd.prog w = .ok r w)
    (h : K (a.put o.dst (.bool r))) : if Region.wanted o (yielded ops a.tmps) = true then o.quiet Tryd.prog a C K else K (a.put o.dst undef) := by
  rw [if_pos hgd]
  refine ⟨.bool r, fun w hC => ?_, h⟩
  unfold Oper.quietAt
  rw [exec_eqlk ho hx hy (he w hC)]
  exact ⟨rfl, rfl⟩
theorem wpList_eqlk {ops : Array Oper} {rest : List Oper} {o : Oper} {a : Act} {Q : Exit → Act → World → Prop} {w : World} {x y : Operand} {T2 : TypeId} (hgd : Region.wanted o (yielded ops a.tmps) = true) (ho : o.op = .binOp .eql 33 x y T2) (A B : Array Value) (r : Bool)
    (hx : a.eval x = .agg A) (hy : a.eval y = .agg B) (he : (Op.equalIn 10000 33 (.agg A) (.agg B)).run Tryd.prog w = .ok r w) (h : wpList Tryd.prog ops Q rest (a.put o.dst (.bool r)) w) : wpList Tryd.prog ops Q (o :: rest) a w := by
  refine wpList_wanted hgd fun K hK => ?_
  unfold Oper.wp
  rw [exec_eqlk ho hx hy he]
  exact hK _ _ h
theorem wpList_nelk {ops : Array Oper} {rest : List Oper} {o : Oper} {a : Act} {Q : Exit → Act → World → Prop} {w : World} {x y : Operand} {T2 : TypeId} (hgd : Region.wanted o (yielded ops a.tmps) = true) (ho : o.op = .binOp .neq 33 x y T2) (A B : Array Value) (r : Bool)
    (hx : a.eval x = .agg A) (hy : a.eval y = .agg B) (he : (Op.equalIn 10000 33 (.agg A) (.agg B)).run Tryd.prog w = .ok r w) (h : wpList Tryd.prog ops Q rest (a.put o.dst (.bool (!r))) w) : wpList Tryd.prog ops Q (o :: rest) a w := by
  refine wpList_wanted hgd fun K hK => ?_
  unfold Oper.wp
  rw [exec_nelk ho hx hy he]
  exact hK _ _ h
theorem wpList_loadLk {ops : Array Oper} {rest : List Oper} {o : Oper} {a : Act} {Q : Exit → Act → World → Prop} {w : World} {p : Operand} (hgd : Region.wanted o (yielded ops a.tmps) = true) (ho : o.op = .load 33 p) (g : Nat) (cs : Array Value)
    (hp : a.eval p = .pointer (some ⟨g, 0, none⟩)) (hn : cs.size = 4) (hg : w.heap[g]? = some (.cells cs 33 (0, 0))) (h : wpList Tryd.prog ops Q rest (a.put o.dst (.agg cs)) w) : wpList Tryd.prog ops Q (o :: rest) a w := by
  refine wpList_wanted hgd fun K hK => ?_
  unfold Oper.wp execOp
  have hr : (Instr.loadAt 33 (.pointer (some ⟨g, 0, none⟩))).run Tryd.prog w = .ok (.agg cs) w := by
    simp only [Instr.loadAt, Instr.sureAddr, Sem.run_bind, Sem.run_pure, Result.andThen]
    exact run_loadVar_row (P := Tryd.prog) w g 33 33 cs (0, 0) _ hg Tryd.underlying33 rfl (by rw [hn]; exact info61)
  simp only [ho, Sem.run_bind, hp, hr, Result.andThen_ok]
  exact hK _ _ h

set_option maxRecDepth 1000000 in
theorem old_any (w : World) (s : ByteArray) : Calls Tryd.prog 28 #[.string s] w fun e w' => e = .returned (.agg #[.int .i64 0, .int .u64 112, .int .u64 18, .string s]) ∧ Below w.heap.size w w' := by
  go_enter Tryd.func28, Tryd.ntmps28
  go_wp2_with fail
  exact bodyPost_ret (v := .agg #[.int .i64 0, .int .u64 112, .int .u64 18, .string s]) ((results_one (p := 2) (ty := 33) rfl _ _ _).trans (by go_simp; first | done | rfl)) rfl ⟨rfl, below_alloc4 w _⟩
set_option maxRecDepth 1000000 in
theorem fits4_any (w : World) (l : Lk) (hl : Lkb l) : Calls Tryd.prog 29 #[lkv l] w fun e w' => e = .returned (.bool (decide (okd l.h l.d))) ∧ Below w.heap.size w w' := by
  have hs := hl.size
  have hn := hl.n
  obtain ⟨v, c, h, d⟩ := l
  simp only at hs hn
  simp only [lkv]
  have HE : Hid (okd h d ↔ (h = 18 ∧ d.length = 32) ∨ (h = 0 ∧ d.length ≤ 64)) := Iff.rfl
  generalize hS : nstr d = S at *
  clear hS hl
  by_cases h1 : h = 18
  · subst h1
    have HR : Hid (decide (okd 18 d) = ((d.length : Int) == 32)) := by
      show _ = _
      rw [Bool.eq_iff_iff, decide_eq_true_iff, HE.out, beq_iff_eq]
      omega
    rw [HR.out]
    clear HE HR
    go_enter Tryd.func29, Tryd.ntmps29
    go_wp2_with fail
    go_ret
    exact ⟨rfl, below_alloc4 w _⟩
  · have g1 : ((h : Int) == 18) = false := beq_eq_false_iff_ne.2 (by omega)
    by_cases h2 : h = 0
    · subst h2
      have HR : Hid (decide (okd 0 d) = decide ((d.length : Int) ≤ 64)) := by
        show _ = _
        rw [Bool.eq_iff_iff, decide_eq_true_iff, HE.out, decide_eq_true_iff]
        omega
      rw [HR.out]
      clear HE HR
      go_enter Tryd.func29, Tryd.ntmps29
      go_wp2_with fail
      go_ret
      exact ⟨rfl, below_alloc4 w _⟩
    · have g2 : ((h : Int) == 0) = false := beq_eq_false_iff_ne.2 (by omega)
      have HR : Hid (decide (okd h d) = false) := by
        show _ = _
        rw [decide_eq_false_iff_not, HE.out]
        omega
      rw [HR.out]
      clear HE HR
      go_enter Tryd.func29, Tryd.ntmps29
      go_wp2_with fail
      go_ret
      exact ⟨rfl, below_alloc4 w _⟩
end
section
open Go.ChangeShapes Go.WideShapes Go.ChangeAt Go.RowKit Go.Deep Go.Joins Go
/-- A slice of links. -/
structure LinksIn (w : World) (v : Value) (len : Nat) : Prop where
  form : ∃ a cap, v = .slice a len cap ∧ (len = 0 ∨ ∃ b off, a = some ⟨b, off, none⟩ ∧ ∀ i, i < len → ∃ l : Lk, Lkb l ∧ ∀ j u, (lcs l)[j]? = some u → w.cell? ⟨b, off + i * 4 + j, none⟩ = some u)
  max : len ≤ 9223372036854775807
/-- A slice of strings. -/
structure StrsIn (w : World) (v : Value) (len : Nat) : Prop where
  form : ∃ a cap, v = .slice a len cap ∧ (len = 0 ∨ ∃ b off, a = some ⟨b, off, none⟩ ∧ ∀ i, i < len → ∃ s : ByteArray, s.size ≤ 9223372036854775807 ∧ w.cell? ⟨b, off + i, none⟩ = some (.string s))
  max : len ≤ 9223372036854775807
theorem Tryd.cellsLink : Tryd.prog.cellsOf 33 = 4 := by kernel_rfl
theorem Tryd.cells_int : Tryd.prog.cellsOf 3 = 1 := by kernel_rfl
theorem Tryd.cells_u64 : Tryd.prog.cellsOf 31 = 1 := by kernel_rfl
theorem Tryd.cells_str : Tryd.prog.cellsOf 9 = 1 := by kernel_rfl
set_option maxRecDepth 100000 in
theorem links_open {H : Type} {enc : TypeId × Value → H} {w : World} {base fuel : Nat} {held : Bool} {v : Value} {x : DataW H × List MemPlace} (h : DataW.trod enc Tryd.prog w base (fun _ => true) held fuel 22 [v] = some x) : ∃ len, LinksIn w v len := by
  rcases open_slice Tryd.underlying22 h with ⟨hcs, _⟩ | ⟨a, len, cap, m, n, D, Pl, hcs, _, hl, hm, hmm, hx, hel⟩
  · injection hcs with hcs _
    subst hcs
    exact ⟨0, ⟨none, 0, rfl, .inl rfl⟩, by omega⟩
  · injection hcs with hcs _
    subst hcs
    simp only [if_true] at hmm
    refine ⟨len, ⟨some a, cap, rfl, ?_⟩, by unfold maxLen at hm; omega⟩
    have each : ∀ i, i < len → ∃ l : Lk, Lkb l ∧ ∀ j u, (lcs l)[j]? = some u → w.cell? ((a.add (i * 4)).add j) = some u := by
      intro i hi
      obtain ⟨cs', h1, h2⟩ := hel i (by omega)
      rw [Tryd.cellsLink] at h1
      obtain ⟨_, hlen, hcell⟩ := World.cells?_some h1
      obtain ⟨y0, y1, y2, y3, k, hxy, _, g0, g1, g2, g3⟩ := trod_struct4 Tryd.underlying33 h2
      match cs', hlen with
      | [v0, v1, v2, v3], _ =>
        have e0 := hcell 0 (by omega)
        have e1 := hcell 1 (by omega)
        have e2 := hcell 2 (by omega)
        have e3 := hcell 3 (by omega)
        obtain ⟨n0, f0, _, w0⟩ := DataW.trod_int (fuel := k) (cs := [v0]) Tryd.underlying3 (by simpa [Tryd.cells_int] using g0)
        obtain ⟨n1, f1, _, w1⟩ := DataW.trod_int (fuel := k) (cs := [v1]) Tryd.underlying31 (by simpa [Tryd.cells_u64] using g1)
        obtain ⟨n2, f2, _, w2⟩ := DataW.trod_int (fuel := k) (cs := [v2]) Tryd.underlying31 (by simpa [Tryd.cells_u64] using g2)
        obtain ⟨s, f3, _, hs⟩ := DataW.trod_string (fuel := k) (cs := [v3]) Tryd.underlying9 (by simpa [Tryd.cells_str] using g3)
        injection f0 with f0 _
        injection f1 with f1 _
        injection f2 with f2 _
        injection f3 with f3 _
        subst f0 f1 f2 f3
        have b1 := bounds_u64 w1
        have b2 := bounds_u64 w2
        refine ⟨⟨n0, n1.toNat, n2.toNat, sl s⟩, ⟨by simp only; omega, by simp only; omega, sl_byte s, by simp only [sl_len]; unfold maxLen at hs; omega⟩, fun j u hu => ?_⟩
        have q1 : ((n1.toNat : Nat) : Int) = n1 := by omega
        have q2 : ((n2.toNat : Nat) : Int) = n2 := by omega
        simp only [lcs, nstr_sl, q1, q2] at hu
        match j, hu with
        | 0, hu => simp at hu; subst hu; simpa using e0
        | 1, hu => simp at hu; subst hu; simpa using e1
        | 2, hu => simp at hu; subst hu; simpa using e2
        | 3, hu => simp at hu; subst hu; simpa using e3
        | j + 4, hu => simp at hu
    by_cases hz : len = 0
    · exact .inl hz
    · obtain ⟨b, off, spot⟩ := a
      obtain ⟨l0, _, h1⟩ := each 0 (by omega)
      have hspot : spot = none := by
        have := h1 0 (.int .i64 l0.v) rfl
        simpa [Addr.add] using World.cell?_spot this
      subst hspot
      refine .inr ⟨b, off, rfl, fun i hi => ?_⟩
      obtain ⟨l, hl, hc⟩ := each i hi
      refine ⟨l, hl, fun j u hu => ?_⟩
      have := hc j u hu
      rw [addr_add, addr_add] at this
      exact this
theorem strs_open {H : Type} {enc : TypeId × Value → H} {w : World} {base fuel : Nat} {held : Bool} {v : Value} {x : DataW H × List MemPlace} (h : DataW.trod enc Tryd.prog w base (fun _ => true) held fuel 25 [v] = some x) : ∃ len, StrsIn w v len := by
  rcases open_strings Tryd.underlying25 Tryd.underlying9 Tryd.cells_str h with ⟨hcs, _⟩ | ⟨a, len, cap, ss, hcs, _, hl, hm, hmm, hx, hel, hsz⟩
  · injection hcs with hcs _
    subst hcs
    exact ⟨0, ⟨none, 0, rfl, .inl rfl⟩, by omega⟩
  · injection hcs with hcs _
    subst hcs
    simp only [if_true] at hmm
    refine ⟨len, ⟨some a, cap, rfl, ?_⟩, by unfold maxLen at hm; omega⟩
    by_cases hz : len = 0
    · exact .inl hz
    · obtain ⟨b, off, spot⟩ := a
      have hspot : spot = none := by
        have := hel 0 (by omega)
        simpa [Addr.add] using World.cell?_spot this
      subst hspot
      refine .inr ⟨b, off, rfl, fun i hi => ?_⟩
      have h1 := hel i (by omega)
      rw [addr_add] at h1
      refine ⟨_, ?_, h1⟩
      have hi2 : i < ss.length := by omega
      rw [List.getD_eq_getElem?_getD, List.getElem?_eq_getElem hi2]
      have := hsz _ (List.getElem_mem hi2)
      unfold maxLen at this
      exact this
section
variable {H : Type} {enc : TypeId × Value → H} {P : Program} {w : World} {base : Nat} {spare : Nat → Bool} {held : Bool}
/-- A struct of five fields of one cell. -/
theorem open_agg5 {r : Reach} {b0 : Nat} {t : TypeId} {f0 f1 f2 f3 f4 : Field} {v : Value} {d : DataW H} {p : List MemPlace} (hs : P.underlying t = some (.struct #[f0, f1, f2, f3, f4])) (hone : oneCellFields P #[f0, f1, f2, f3, f4] = true) (hC : P.cellsOf t = 5)
    (hv : Value.okWide P w r b0 t v) (h : DataW.Trod enc P w base spare held t v d p) :
    ∃ (v0 v1 v2 v3 v4 : Value) (y0 y1 y2 y3 y4 : DataW H × List MemPlace) (n : Nat), v = .agg #[v0, v1, v2, v3, v4] ∧ d = .agg [y0.1, y1.1, y2.1, y3.1, y4.1] ∧
      DataW.trod enc P w base spare held n f0.type [v0] = some y0 ∧ DataW.trod enc P w base spare held n f1.type [v1] = some y1 ∧ DataW.trod enc P w base spare held n f2.type [v2] = some y2 ∧ DataW.trod enc P w base spare held n f3.type [v3] = some y3 ∧ DataW.trod enc P w base spare held n f4.type [v4] = some y4 := by
  obtain ⟨cs, rfl, hsz⟩ := okWide_struct hs hv
  obtain ⟨l⟩ := cs
  match l, hsz.trans hC with
  | [c0, c1, c2, c3, c4], _ =>
    obtain ⟨fuel, hf⟩ := h
    obtain ⟨xs, n, _, hx, hl, hlen, hff⟩ := DataW.trod_struct hs hf
    match xs, hlen with
    | [y0, y1, y2, y3, y4], _ =>
      obtain ⟨o0, k0⟩ := hone_of hone 0 f0 rfl
      obtain ⟨o1, k1⟩ := hone_of hone 1 f1 rfl
      obtain ⟨o2, k2⟩ := hone_of hone 2 f2 rfl
      obtain ⟨o3, k3⟩ := hone_of hone 3 f3 rfl
      obtain ⟨o4, k4⟩ := hone_of hone 4 f4 rfl
      have h0 := hff 0 f0 rfl
      have h1 := hff 1 f1 rfl
      have h2 := hff 2 f2 rfl
      have h3 := hff 3 f3 rfl
      have h4 := hff 4 f4 rfl
      simp only [Prod.mk.injEq] at hx
      exact ⟨c0, c1, c2, c3, c4, y0, y1, y2, y3, y4, n, rfl, by simpa using hx.1, by simpa [Value.cells, o0, k0] using h0, by simpa [Value.cells, o1, k1] using h1, by simpa [Value.cells, o2, k2] using h2, by simpa [Value.cells, o3, k3] using h3, by simpa [Value.cells, o4, k4] using h4⟩
end
end
section
open Go.RowKit Go
set_option maxRecDepth 1000000 in
set_option maxHeartbeats 1000000 in
theorem check_any (w : World) (l : Lk) (hl : Lkb l) : Calls Tryd.prog 14 #[lkv l] w fun e w' => e = .returned (.int .i64 (if lok l then 0 else 40)) ∧ Below w.heap.size w w' := by
  generalize hR : (if lok l then (0 : Int) else 40) = R
  have HR := hide hR
  clear hR
  have HL := hide hl
  have HLO : Hid (∀ x ∈ (⟨0, 112, 18, l.d⟩ : Lk).d, x < 256) := hl.d
  have HOL : Hid (lcs ⟨0, 112, 18, l.d⟩ = #[.int .i64 0, .int .u64 112, .int .u64 18, .string (nstr l.d)]) := rfl
  have HT : Hid ((w.alloc (.cells #[.int .i64 l.v, .int .u64 (l.c : Nat), .int .u64 (l.h : Nat), .string (nstr l.d)] 33)).heap[w.heap.size]? = some (.cells (lcs l) 33 (0, 0))) := heap_alloc_new w _
  have HB := hide (below_alloc4 w (.cells #[.int .i64 l.v, .int .u64 (l.c : Nat), .int .u64 (l.h : Nat), .string (nstr l.d)] 33))
  simp only [lkv]
  go_enter Tryd.func14, Tryd.ntmps14
  go_wp2_with fail
  generalize w.alloc (.cells #[.int .i64 l.v, .int .u64 (l.c : Nat), .int .u64 (l.h : Nat), .string (nstr l.d)] 33) = w0 at *
  go_cut [3] (fun c wx => c = .bool (decide (l = ⟨0, 112, 18, l.d⟩) && decide (okd l.h l.d)) ∧ Hid (Below w0.heap.size w0 wx))
  case first => as_aux_lemma =>
    have q3 : ∀ t : Ext w0, t.w'.cell? ⟨w.heap.size, 3, none⟩ = some (.string (nstr l.d)) := fun t => Ext.cell (blk_cell HT.out rfl) t
    have HQ : Hid (∀ wx, (∃ t : Ext w0, wx = t.w') → wx.heap[w.heap.size]? = some (.cells (lcs l) 33 (0, 0))) := by
      rintro _ ⟨t, rfl⟩
      exact (t.h.block _ (blk_lt HT.out)).trans HT.out
    have HCO : Hid (∀ t : Ext w0, Calls Tryd.prog 28 #[.string (nstr l.d)] t.w' fun e w'' => e = .returned (.agg (lcs ⟨0, 112, 18, l.d⟩)) ∧ ∃ t' : Ext w0, w'' = t'.w') := fun t => Calls.ext_below (old_any t.w' (nstr l.d))
    have HCF : Hid (∀ t : Ext w0, Calls Tryd.prog 29 #[.agg (lcs l)] t.w' fun e w'' => e = .returned (.bool (decide (okd l.h l.d))) ∧ ∃ t' : Ext w0, w'' = t'.w') := fun t => Calls.ext_below (fits4_any t.w' l HL.out)
    have HEQ : Hid (∀ wx, (∃ t : Ext w0, wx = t.w') → (Op.equalIn 10000 33 (.agg (lcs l)) (.agg (lcs ⟨0, 112, 18, l.d⟩))).run Tryd.prog wx = .ok (decide (l = ⟨0, 112, 18, l.d⟩)) wx) := fun wx _ => eqlk wx HL.out.d HLO.out
    generalize hbb : decide (l = ⟨0, 112, 18, l.d⟩) = bb at *
    generalize lcs ⟨0, 112, 18, l.d⟩ = ol at *
    have HCN : Hid ((lcs l).size = 4) := rfl
    generalize lcs l = cl at *
    clear hbb
    cases bb
    · refine region_ext (by kernel_rfl) (by kernel_rfl) ?_
      repeat (
        refine wpQuiet_step (fun K hK => ?_)
        first
          | (refine qstep_link rfl rfl w.heap.size cl rfl HCN.out HQ.out (hK _ ?_); clear hK K)
          | (refine qstep_eqlk rfl rfl cl ol false rfl rfl HEQ.out (hK _ ?_); clear hK K)
          | (go_simp
             first
               | (refine hK _ ?_; clear hK K)
               | (apply Exists.intro
                  refine ⟨fun _ => ?_, hK _ ?_⟩
                  (first
                    | (go_at_call 28; exact HCO.out _)
                    | (go_at_call 29; exact HCF.out _))
                  clear hK K)))
      refine wpQuiet_nil ?_
      rintro _ ⟨tq, rfl⟩
      go_wp2_with fail
      go_meet
      case rel => exact ⟨rfl, tq.h⟩
    · refine region_ext (by kernel_rfl) (by kernel_rfl) ?_
      repeat (
        refine wpQuiet_step (fun K hK => ?_)
        first
          | (refine qstep_link rfl rfl w.heap.size cl rfl HCN.out HQ.out (hK _ ?_); clear hK K)
          | (refine qstep_eqlk rfl rfl cl ol true rfl rfl HEQ.out (hK _ ?_); clear hK K)
          | (go_simp
             first
               | (refine hK _ ?_; clear hK K)
               | (apply Exists.intro
                  refine ⟨fun _ => ?_, hK _ ?_⟩
                  (first
                    | (go_at_call 28; exact HCO.out _)
                    | (go_at_call 29; exact HCF.out _))
                  clear hK K)))
      refine wpQuiet_nil ?_
      rintro _ ⟨tq, rfl⟩
      go_wp2_with fail
      go_meet
      case rel => exact ⟨rfl, tq.h⟩
  case rest => as_aux_lemma =>
    obtain ⟨rfl, hb1⟩ := hcut
    have HT1 : Hid (wc.heap[w.heap.size]? = some (.cells (lcs l) 33 (0, 0))) := (hb1.out.block _ (blk_lt HT.out)).trans HT.out
    have HB1 : Hid (Below w.heap.size w wc) := HB.out.trans (hb1.out.mono HB.out.size)
    have HK : Hid (lok l ↔ (l = ⟨0, 112, 18, l.d⟩ ∧ okd l.h l.d) ∨ (l.v = 1 ∧ l.c < 9223372036854775808 ∧ okd l.h l.d)) := by
      show _ ↔ _
      unfold lok
      rw [lk_ext]
      constructor
      · rintro (⟨h1, h2, h3, h4⟩ | h)
        · exact .inl ⟨⟨h1, h2, h3, rfl⟩, .inl ⟨h3, h4⟩⟩
        · exact .inr h
      · rintro (⟨⟨h1, h2, h3, _⟩, h | h⟩ | h)
        · exact .inl ⟨h1, h2, h3, h.2⟩
        · simp only at h1 h2 h3
          omega
        · exact .inr h
    clear hb1 HT HB HOL HLO
    by_cases hc1 : l = ⟨0, 112, 18, l.d⟩ ∧ okd l.h l.d
    · as_aux_lemma =>
      have e1 : (decide (l = ⟨0, 112, 18, l.d⟩) && decide (okd l.h l.d)) = true := by rw [decide_eq_true hc1.1, decide_eq_true hc1.2]; rfl
      have HZ : Hid (R = 0) := by show _ = _; rw [← HR.out, if_pos (HK.out.2 (.inl hc1))]
      rw [e1]
      clear e1 hc1 HR HK
      go_wp2_with fail
      go_ret
      exact ⟨by rw [HZ.out]; rfl, HB1.out⟩
    · have e1 : (decide (l = ⟨0, 112, 18, l.d⟩) && decide (okd l.h l.d)) = false := by
        rw [Bool.and_eq_false_iff, decide_eq_false_iff_not, decide_eq_false_iff_not]
        exact Decidable.not_and_iff_or_not.1 hc1
      rw [e1]
      have HE : Hid (lok l ↔ (l.v = 1 ∧ l.c < 9223372036854775808 ∧ okd l.h l.d)) := HK.out.trans ⟨fun h => h.resolve_left hc1, .inr⟩
      have q0 : wc.cell? ⟨w.heap.size, 0, none⟩ = some (.int .i64 l.v) := blk_cell HT1.out rfl
      have q1 : wc.cell? ⟨w.heap.size, 1, none⟩ = some (.int .u64 (l.c : Nat)) := blk_cell HT1.out rfl
      have q2 : wc.cell? ⟨w.heap.size, 2, none⟩ = some (.int .u64 (l.h : Nat)) := blk_cell HT1.out rfl
      have q3 : wc.cell? ⟨w.heap.size, 3, none⟩ = some (.string (nstr l.d)) := blk_cell HT1.out rfl
      have HF := hide (fits4_any wc l HL.out)
      simp only [lkv] at HF
      have HCL := hide HL.out.c
      clear e1 hc1 HK HL hl HT1
      generalize nstr l.d = S at *
      obtain ⟨v, c, h, d⟩ := l
      simp only at *
      by_cases hv : v = 1
      · subst hv
        generalize hn : (c : Int) = n at *
        have HN := hide hn
        clear hn
        by_cases hc63 : n < 9223372036854775808
        · as_aux_lemma =>
          have HZ : Hid (R = if okd h d then 0 else 40) := by
            show _ = _
            rw [← HR.out]
            have := HN.out
            by_cases hk : okd h d
            · rw [if_pos hk, if_pos (HE.out.2 ⟨rfl, by omega, hk⟩)]
            · rw [if_neg hk, if_neg (fun e => hk (HE.out.1 e).2.2)]
          clear HE HR HN
          go_wp2_with fail
          refine HF.out.mono ?_
          rintro e w2 ⟨rfl, hb2⟩
          have HB2 : Hid (Below w.heap.size w w2) := HB1.out.trans (hb2.mono HB1.out.size)
          clear hb2 HF
          by_cases hk : okd h d
          · rw [decide_eq_true hk]
            rw [if_pos hk] at HZ
            go_wp2_with fail
            go_ret
            exact ⟨by rw [HZ.out]; rfl, HB2.out⟩
          · rw [decide_eq_false hk]
            rw [if_neg hk] at HZ
            go_wp2_with fail
            go_ret
            exact ⟨by rw [HZ.out]; rfl, HB2.out⟩
        · as_aux_lemma =>
          have g2' : (9223372036854775808 : Int) ≤ n := by omega
          have HZ : Hid (R = 40) := by show _ = _; rw [← HR.out, if_neg (fun e => hc63 (by have := (HE.out.1 e).2.1; have := HN.out; omega))]
          clear HE HR HN hc63
          go_wp2_with fail
          go_ret
          exact ⟨by rw [HZ.out]; rfl, HB1.out⟩
      · as_aux_lemma =>
        have g1 : (v == 1) = false := beq_eq_false_iff_ne.2 hv
        have HZ : Hid (R = 40) := by show _ = _; rw [← HR.out, if_neg (fun e => hv (HE.out.1 e).1)]
        clear HE HR hv
        go_wp2_with fail
        go_ret
        exact ⟨by rw [HZ.out]; rfl, HB1.out⟩
end
section
open Go.RowKit Go
/-- How a function ends whose first result is a struct. -/
theorem end_c2 {fn : Func} {p q : Tmp} {T : TypeId} {fs : Array Field} {wx : World} {R : Nat} {cs : Array Value} {x : Value} {tmps : Array Value} (hf : fn.results = #[.cell p T, .tmp q]) (hu : Tryd.prog.underlying T = some (.struct fs)) {n : Nat} (hi : (Tryd.prog.info? T).map (·.size) = some n) (hn : cs.size = n)
    (hr : wx.heap[R]? = some (.cells cs T (0, 0))) (hp : tmps.getD p undef = .pointer (some ⟨R, 0, none⟩)) (hx : tmps.getD q undef = x) : (results fn tmps).run Tryd.prog wx = .ok (.tuple #[.agg cs, x]) wx := by
  refine (results_cell_tmp hf _ _ _).trans ?_
  rw [hp, hx]
  have h1 := run_loadVar_row (P := Tryd.prog) wx R T T cs (0, 0) _ hr hu rfl (by rw [hn]; exact hi)
  simp [asAddr, h1, Result.andThen]
theorem end_c3 {fn : Func} {p q s : Tmp} {T : TypeId} {fs : Array Field} {wx : World} {R : Nat} {cs : Array Value} {x y : Value} {tmps : Array Value} (hf : fn.results = #[.cell p T, .tmp q, .tmp s]) (hu : Tryd.prog.underlying T = some (.struct fs)) {n : Nat} (hi : (Tryd.prog.info? T).map (·.size) = some n) (hn : cs.size = n)
    (hr : wx.heap[R]? = some (.cells cs T (0, 0))) (hp : tmps.getD p undef = .pointer (some ⟨R, 0, none⟩)) (hx : tmps.getD q undef = x) (hy : tmps.getD s undef = y) : (results fn tmps).run Tryd.prog wx = .ok (.tuple #[.agg cs, x, y]) wx := by
  refine (results_c3 hf _ _ _).trans ?_
  rw [hp, hx, hy]
  have h1 := run_loadVar_row (P := Tryd.prog) wx R T T cs (0, 0) _ hr hu rfl (by rw [hn]; exact hi)
  simp [asAddr, h1, Result.andThen]
/-- A whole link is laid. -/
theorem wpList_storeLk {ops : Array Oper} {rest : List Oper} {o : Oper} {a : Act} {Q : Exit → Act → World → Prop} {w : World} {p x : Operand} (hgd : o.guard = none) (ho : o.op = .store 33 p x) (g : Nat) (old : Array Value) (l : Lk)
    (hp : a.eval p = .pointer (some ⟨g, 0, none⟩)) (hx : a.eval x = .agg (lcs l)) (hn : old.size = 4) (hg : w.heap[g]? = some (.cells old 33 (0, 0))) (h : wpList Tryd.prog ops Q rest (a.put o.dst undef) (w.setRow g (lcs l))) : wpList Tryd.prog ops Q (o :: rest) a w :=
  wpList_storeRow hgd ho g old (lcs l) 33 hp hx hg info61 (by rw [hn]; rfl) (by kernel_rfl) h
end
section
open Go.RowKit Go
/-- The digits as a string. -/
def s16 : ByteArray := ⟨#[48, 49, 50, 51, 52, 53, 54, 55, 56, 57, 97, 98, 99, 100, 101, 102]⟩
def s32 : ByteArray := ⟨#[97, 98, 99, 100, 101, 102, 103, 104, 105, 106, 107, 108, 109, 110, 111, 112, 113, 114, 115, 116, 117, 118, 119, 120, 121, 122, 50, 51, 52, 53, 54, 55]⟩
def s58 : ByteArray := ⟨#[49, 50, 51, 52, 53, 54, 55, 56, 57, 65, 66, 67, 68, 69, 70, 71, 72, 74, 75, 76, 77, 78, 80, 81, 82, 83, 84, 85, 86, 87, 88, 89, 90, 97, 98, 99, 100, 101, 102, 103, 104, 105, 106, 107, 109, 110, 111, 112, 113, 114, 115, 116, 117, 118, 119, 120, 121, 122]⟩
theorem sl16 : sl s16 = d16 := by decide
theorem sl32 : sl s32 = d32 := by decide
theorem sl58 : sl s58 = d58 := by decide
/-- A base of the landed code. -/
structure Bs where
  l : ByteArray
  t : ByteArray
  n : Nat
def Bs.cs (b : Bs) : Array Value := #[.string b.l, .string b.t, .int .i64 (b.n : Nat)]
def b16 : Bs := ⟨⟨#[102]⟩, s16, 4⟩
def b32 : Bs := ⟨⟨#[98]⟩, s32, 5⟩
def b58 : Bs := ⟨⟨#[122]⟩, s58, 0⟩
def b0 : Bs := ⟨⟨#[]⟩, ⟨#[]⟩, 0⟩
def bof (n : Int) : Bs := if n = 1 then b16 else if n = 2 then b32 else if n = 3 then b58 else b0
theorem infoB : (Tryd.prog.info? 63).map (·.size) = some 3 := by kernel_rfl
theorem wpList_storeB {ops : Array Oper} {rest : List Oper} {o : Oper} {a : Act} {Q : Exit → Act → World → Prop} {w : World} {p x : Operand} (hgd : o.guard = none) (ho : o.op = .store 63 p x) (g : Nat) (old : Array Value) (b : Bs)
    (hp : a.eval p = .pointer (some ⟨g, 0, none⟩)) (hx : a.eval x = .agg b.cs) (hn : old.size = 3) (hg : w.heap[g]? = some (.cells old 63 (0, 0))) (h : wpList Tryd.prog ops Q rest (a.put o.dst undef) (w.setRow g b.cs)) : wpList Tryd.prog ops Q (o :: rest) a w :=
  wpList_storeRow hgd ho g old b.cs 63 hp hx hg infoB (by rw [hn]; rfl) (by kernel_rfl) h
theorem wpList_loadB {ops : Array Oper} {rest : List Oper} {o : Oper} {a : Act} {Q : Exit → Act → World → Prop} {w : World} {p : Operand} (hgd : Region.wanted o (yielded ops a.tmps) = true) (ho : o.op = .load 63 p) (g : Nat) (cs : Array Value)
    (hp : a.eval p = .pointer (some ⟨g, 0, none⟩)) (hn : cs.size = 3) (hg : w.heap[g]? = some (.cells cs 63 (0, 0))) (h : wpList Tryd.prog ops Q rest (a.put o.dst (.agg cs)) w) : wpList Tryd.prog ops Q (o :: rest) a w := by
  refine wpList_wanted hgd fun K hK => ?_
  unfold Oper.wp execOp
  have hr : (Instr.loadAt 63 (.pointer (some ⟨g, 0, none⟩))).run Tryd.prog w = .ok (.agg cs) w := by
    simp only [Instr.loadAt, Instr.sureAddr, Sem.run_bind, Sem.run_pure, Result.andThen]
    exact run_loadVar_row (P := Tryd.prog) w g 63 63 cs (0, 0) _ hg Tryd.underlying63 rfl (by rw [hn]; exact infoB)
  simp only [ho, Sem.run_bind, hp, hr, Result.andThen_ok]
  exact hK _ _ h
set_option maxRecDepth 1000000 in
set_option maxHeartbeats 1000000 in
theorem baseOf_any (w : World) (n : Int) : Calls Tryd.prog 24 #[.int .i64 n] w fun e w' => e = .returned (.tuple #[.agg (bof n).cs, .bool (decide (n = 1 ∨ n = 2 ∨ n = 3))]) ∧ Below w.heap.size w w' := by
  have HR0 : Hid ((w.alloc (.cells #[.string ⟨#[]⟩, .string ⟨#[]⟩, .int .i64 0] 63)).heap[w.heap.size]? = some (.cells b0.cs 63 (0, 0))) := heap_alloc_new w _
  have HB0 := hide (below_alloc4 w (.cells #[.string ⟨#[]⟩, .string ⟨#[]⟩, .int .i64 0] 63))
  have HBW : Hid (∀ cs, Below w.heap.size w ((w.alloc (.cells #[.string ⟨#[]⟩, .string ⟨#[]⟩, .int .i64 0] 63)).setRow w.heap.size cs)) := fun cs => HB0.out.trans ((row_kp _ _ _).below HB0.out.size (fun q e => by omega))
  by_cases h1 : n = 1
  · subst h1
    go_enter Tryd.func24, Tryd.ntmps24
    go_wp2_with (refine wpList_storeB rfl rfl w.heap.size b0.cs b16 rfl rfl rfl HR0.out ?_)
    exact bodyPost_ret (end_c2 rfl Tryd.underlying63 infoB rfl (row_same HR0.out) rfl rfl) rfl ⟨rfl, HBW.out _⟩
  · have g1 : (n == 1) = false := beq_eq_false_iff_ne.2 h1
    by_cases h2 : n = 2
    · subst h2
      go_enter Tryd.func24, Tryd.ntmps24
      go_wp2_with (refine wpList_storeB rfl rfl w.heap.size b0.cs b32 rfl rfl rfl HR0.out ?_)
      exact bodyPost_ret (end_c2 rfl Tryd.underlying63 infoB rfl (row_same HR0.out) rfl rfl) rfl ⟨rfl, HBW.out _⟩
    · have g2 : (n == 2) = false := beq_eq_false_iff_ne.2 h2
      by_cases h3 : n = 3
      · subst h3
        go_enter Tryd.func24, Tryd.ntmps24
        go_wp2_with (refine wpList_storeB rfl rfl w.heap.size b0.cs b58 rfl rfl rfl HR0.out ?_)
        exact bodyPost_ret (end_c2 rfl Tryd.underlying63 infoB rfl (row_same HR0.out) rfl rfl) rfl ⟨rfl, HBW.out _⟩
      · have g3 : (n == 3) = false := beq_eq_false_iff_ne.2 h3
        have HE : Hid (bof n = b0 ∧ decide (n = 1 ∨ n = 2 ∨ n = 3) = false) := by
          refine ⟨?_, decide_eq_false (by omega)⟩
          unfold bof
          rw [if_neg h1, if_neg h2, if_neg h3]
        rw [HE.out.1, HE.out.2]
        clear h1 h2 h3
        go_enter Tryd.func24, Tryd.ntmps24
        go_wp2_with (refine wpList_storeB rfl rfl w.heap.size b0.cs b0 rfl rfl rfl HR0.out ?_)
        exact bodyPost_ret (end_c2 rfl Tryd.underlying63 infoB rfl (row_same HR0.out) rfl rfl) rfl ⟨rfl, HBW.out _⟩
end
end Go.Proofs.YtidglddjinfncabDoor
