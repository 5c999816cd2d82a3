import Derived.Test.YtadilnmkjcmnnaaDoorJe
import Derived.Laws.Bits64
import Derived.Great.BuildSlice
import Derived.Great.FillDense
import Derived.Maps.AppendAt
namespace Go.Proofs.YtadilnmkjcmnnaaDoor
section
open Go.RowKit Go
/-! ### An item that is looked at, in memory -/
def ics (h : HR) (vb : Value) (s : ByteArray) (l : Lk) : Array Value := #[.int .i64 (h.m : Nat), .int .i64 (h.i : Nat), .int .u64 (h.n : Nat), .int .i64 (h.u : Nat), .bool h.s, vb, .string s, .int .i64 l.v, .int .u64 (l.c : Nat), .int .u64 (l.h : Nat), .string (nstr l.d)]
theorem exp_and (n : Nat) (hn : n < 18446744073709551616) : (IntKind.u64.wrap ((BitVec.ofInt 64 (n : Int) &&& BitVec.ofInt 64 9218868437227405312).toNat : Nat) != 9218868437227405312) = finb n := by
  have e : (BitVec.ofInt 64 (n : Int) &&& BitVec.ofInt 64 9218868437227405312).toNat = n / 4503599627370496 % 2048 * 4503599627370496 := by
    have h1 : (BitVec.ofInt 64 (n : Int)).toNat = n := by
      rw [BitVec.toNat_ofInt]
      omega
    have h2 : (BitVec.ofInt 64 9218868437227405312).toNat = 9218868437227405312 := by decide
    rw [BitVec.toNat_and, h1, h2]
    have h3 : (9218868437227405312 : Nat) = 2047 * 2 ^ 52 := by decide
    have h4 : n &&& (2047 * 2 ^ 52) = ((n >>> 52) &&& 2047) <<< 52 := by
      apply Nat.eq_of_testBit_eq
      intro i
      rw [Nat.testBit_and, Nat.testBit_shiftLeft, Nat.testBit_and, Nat.testBit_shiftRight, ← Nat.shiftLeft_eq, Nat.testBit_shiftLeft]
      by_cases hi : 52 ≤ i
      · simp [hi, Nat.add_sub_cancel' hi]
      · simp [hi]
    rw [h3, h4, Nat.shiftLeft_eq, Nat.shiftRight_eq_div_pow, show (2047 : Nat) = 2 ^ 11 - 1 by decide, Nat.and_two_pow_sub_one_eq_mod]
  rw [e]
  unfold finb
  rw [Bool.eq_iff_iff]
  have hw : IntKind.u64.wrap (((n / 4503599627370496 % 2048 * 4503599627370496 : Nat) : Int)) = ((n / 4503599627370496 % 2048 * 4503599627370496 : Nat) : Int) := by
    rw [IntKind.wrap_u64]; omega
  rw [hw]
  simp only [bne_iff_ne, ne_eq, decide_eq_true_eq]
  omega
set_option maxRecDepth 1000000 in
theorem known_any (w : World) (g : Nat) (h : HR) (vb : Value) (s : ByteArray) (l : Lk) (hg : w.heap[g]? = some (.cells (ics h vb s l) 54 (0, 0))) (hn : h.n < 18446744073709551616) :
    Calls Tryd.prog 33 #[.pointer (some ⟨g, 0, none⟩)] w fun e w' => e = .returned (.bool (rknown h)) ∧ w' = w := by
  have c1 : w.cell? ⟨g, 1, none⟩ = some (.int .i64 (h.i : Nat)) := blk_cell (j := 1) hg rfl
  have c2 : w.cell? ⟨g, 2, none⟩ = some (.int .u64 (h.n : Nat)) := blk_cell (j := 2) hg rfl
  have HE := hide (exp_and h.n hn)
  by_cases h20 : h.i = 20
  · have g1 : ((h.i : Int) == 20) = true := beq_iff_eq.2 (by omega)
    have e : rknown h = true := by unfold rknown; simp [h20]
    rw [e]
    go_enter Tryd.func33, Tryd.ntmps33
    go_wp2
    go_ret
    exact ⟨rfl, rfl⟩
  have g1 : ((h.i : Int) == 20) = false := beq_eq_false_iff_ne.2 (by omega)
  by_cases h21 : h.i = 21
  · have g2 : ((h.i : Int) == 21) = true := beq_iff_eq.2 (by omega)
    have e : rknown h = true := by unfold rknown; simp [h21]
    rw [e]
    go_enter Tryd.func33, Tryd.ntmps33
    go_wp2
    go_ret
    exact ⟨rfl, rfl⟩
  have g2 : ((h.i : Int) == 21) = false := beq_eq_false_iff_ne.2 (by omega)
  by_cases h22 : h.i = 22
  · have g3 : ((h.i : Int) == 22) = true := beq_iff_eq.2 (by omega)
    have e : rknown h = true := by unfold rknown; simp [h22]
    rw [e]
    go_enter Tryd.func33, Tryd.ntmps33
    go_wp2
    go_ret
    exact ⟨rfl, rfl⟩
  have g3 : ((h.i : Int) == 22) = false := beq_eq_false_iff_ne.2 (by omega)
  by_cases h27 : h.i = 27
  · have g4 : ((h.i : Int) == 27) = true := beq_iff_eq.2 (by omega)
    have e : rknown h = finb h.n := by unfold rknown; simp [h27]
    rw [e]
    clear h27 h20 h21 h22 e
    go_enter Tryd.func33, Tryd.ntmps33
    go_wp2
    go_ret
    refine ⟨?_, rfl⟩
    rw [← HE.out]
    rfl
  · have g4 : ((h.i : Int) == 27) = false := beq_eq_false_iff_ne.2 (by omega)
    have e : rknown h = false := by unfold rknown; simp [h20, h21, h22, h27]
    rw [e]
    go_enter Tryd.func33, Tryd.ntmps33
    go_wp2
    go_ret
    exact ⟨rfl, rfl⟩
end
section
open Go.RowKit Go
theorem wpList_exec {ops : Array Oper} {rest : List Oper} {o : Oper} {a : Act} {Q : Exit → Act → World → Prop} {w : World} {v : Value} (hgd : o.guard = none) (hr : (execOp a.eval o).run Tryd.prog w = .ok (.value v) w) (h : wpList Tryd.prog ops Q rest (a.put o.dst v) w) : wpList Tryd.prog ops Q (o :: rest) a w := by
  refine wpList_plain hgd fun K hK => ?_
  unfold Oper.wp
  rw [hr]
  exact hK _ _ h
/-- b[k:]. -/
def dropS (ad : Option Addr) (n cap k : Nat) : Value := match ad with
  | none => .slice none 0 0
  | some p => if cap = k then .slice (some p) 0 0 else .slice (some (p.add k)) (n - k) (cap - k)
theorem bsl_drop8 {w : World} {ad : Option Addr} {n cap k : Nat} {xs : List Nat} (h : BSl w (.slice ad n cap) xs) (hk : k ≤ xs.length) : BSl w (dropS ad n cap k) (xs.drop k) := by
  obtain ⟨⟨ad', cap', hv, hn, hc⟩, hmax, hby⟩ := h
  injection hv with e1 e2 e3
  subst e1 e2 e3
  have hlen : (xs.drop k).length = xs.length - k := List.length_drop
  cases ad with
  | none =>
    have hc0 := hn.2 rfl
    have e : xs.drop k = [] := List.drop_of_length_le (by omega)
    rw [e]
    exact ⟨⟨none, 0, rfl, ⟨Nat.le_refl _, fun _ => rfl⟩, .inl rfl⟩, by simp, by simp⟩
  | some p =>
    unfold dropS
    simp only
    by_cases hkk : cap = k
    · rw [if_pos hkk]
      have e : xs.drop k = [] := List.drop_of_length_le (by omega)
      rw [e]
      exact ⟨⟨some p, 0, rfl, ⟨Nat.le_refl _, fun e => by cases e⟩, .inl rfl⟩, by simp, by simp⟩
    · rw [if_neg hkk]
      refine ⟨⟨some (p.add k), cap - k, by rw [hlen], ⟨by rw [hlen]; omega, fun e => by cases e⟩, ?_⟩, by rw [hlen]; omega, fun z hz => hby z (List.mem_of_mem_drop hz)⟩
      rcases hc with hx0 | ⟨b, off, e, hcell⟩
      · left
        rw [hx0]
        simp
      · right
        injection e with e
        subst e
        have hadd : (⟨b, off, none⟩ : Addr).add k = ⟨b, off + k, none⟩ := by unfold Addr.add; split <;> simp_all
        rw [hadd]
        refine ⟨b, off + k, rfl, fun j hj => ?_⟩
        rw [hlen] at hj
        have h2 := hcell (k + j) (by omega)
        rw [← Nat.add_assoc] at h2
        rw [h2]
        simp [List.getD, List.getElem?_drop]
set_option maxRecDepth 1000000 in
theorem exec_drop {o : Oper} {a : Act} {x y : Operand} {w : World} {ad : Option Addr} {n cap k : Nat} (ho : o.op = .slice 22 x (some y) none none) (hx : a.eval x = .slice ad n cap) (hy : a.eval y = .int .i64 (k : Nat)) (hk : k ≤ n) (hn : n ≤ cap) (hz : ad = none → cap = 0) : (execOp a.eval o).run Tryd.prog w = .ok (.value (dropS ad n cap k)) w := by
  unfold execOp
  simp only [ho, Option.map_some, Option.map_none, hx, hy]
  clear ho
  have hki : (k : Int) ≤ (n : Int) := by omega
  have hkc : (k : Int) ≤ (cap : Int) := by omega
  cases ad with
  | none =>
    have hc0 := hz rfl
    have hn0 : n = 0 := by omega
    have hk0 : k = 0 := by omega
    subst hk0 hn0 hc0
    unfold dropS
    go_simp
  | some p =>
    unfold dropS
    by_cases hkk : cap = k
    · have hnk : n = k := by omega
      subst hkk hnk
      simp only [if_true]
      go_simp
    · have hkl : (k : Int) < (cap : Int) := by omega
      simp only [if_neg hkk]
      go_simp
set_option maxRecDepth 1000000 in
theorem exec_take {o : Oper} {a : Act} {x y : Operand} {w : World} {ad : Option Addr} {n cap k : Nat} (ho : o.op = .slice 22 x none (some y) none) (hx : a.eval x = .slice ad n cap) (hy : a.eval y = .int .u64 (k : Nat)) (hk : k ≤ n) (hn : n ≤ cap) : (execOp a.eval o).run Tryd.prog w = .ok (.value (.slice ad k cap)) w := by
  unfold execOp
  simp only [ho, Option.map_some, Option.map_none, hx, hy]
  clear ho
  have hki : (k : Int) ≤ (n : Int) := by omega
  have hkc : (k : Int) ≤ (cap : Int) := by omega
  go_simp
theorem bsl_take8 {w : World} {ad : Option Addr} {n cap k : Nat} {xs : List Nat} (h : BSl w (.slice ad n cap) xs) (hk : k ≤ xs.length) : BSl w (.slice ad k cap) (xs.take k) := by
  obtain ⟨⟨ad', cap', hv, hn, hc⟩, hmax, hby⟩ := h
  injection hv with e1 e2 e3
  subst e1 e2 e3
  have hlen : (xs.take k).length = k := by rw [List.length_take]; omega
  refine ⟨⟨ad, cap, by rw [hlen], ⟨by rw [hlen]; omega, hn.2⟩, ?_⟩, by rw [hlen]; omega, fun z hz => hby z (List.mem_of_mem_take hz)⟩
  rcases hc with hx0 | ⟨b, off, e, hcell⟩
  · left
    rw [hx0]
    simp
  · right
    refine ⟨b, off, e, fun j hj => ?_⟩
    rw [hlen] at hj
    rw [hcell j (by omega)]
    simp [List.getD, hj]
end
section
open Go.RowKit Go
/-- What Much tells. -/
structure Muc (is : List Tv) (most r : Nat) : Prop where
  le : r ≤ most + 1125899906842624
  eq : r ≤ most → r = tmuchL is
  gt : most < r → most < tmuchL is
theorem sum_take_le : ∀ (l : List Nat) (k : Nat), (l.take k).sum ≤ l.sum
  | [], k => by simp
  | x :: l, 0 => by simp
  | x :: l, k + 1 => by
    have := sum_take_le l k
    simp only [List.take_succ_cons, List.sum_cons]
    omega
theorem sum_take_succ (l : List Nat) (k : Nat) (h : k < l.length) : (l.take (k + 1)).sum = (l.take k).sum + l.getD k 0 := by
  rw [List.take_succ_eq_append_getElem h, List.sum_append, List.getD_eq_getElem?_getD, List.getElem?_eq_getElem h]
  simp
theorem tmuchL_take_le (l : List Tv) (i : Nat) : tmuchL (l.take i) ≤ tmuchL l := by
  have h := tmuchL_app (l.take i) (l.drop i)
  rw [List.take_append_drop] at h
  omega
end
section
open Go.RowKit Go
/-- Texts as cells. -/
def sv (ks : List ByteArray) : List Value := ks.map fun s => .string s
theorem sv_len (ks : List ByteArray) : (sv ks).length = ks.length := by simp [sv]
theorem sv_app (a b : List ByteArray) : sv (a ++ b) = sv a ++ sv b := by simp [sv]
theorem sv_get {ks : List ByteArray} {j : Nat} {s : ByteArray} (h : ks[j]? = some s) : (sv ks)[j]? = some (.string s) := by simp [sv, h]
theorem sv_one (ks : List ByteArray) : ∀ u ∈ sv ks, u.oneCell' = true := by
  intro u hu
  simp only [sv, List.mem_map] at hu
  obtain ⟨_, _, rfl⟩ := hu
  rfl
theorem info9_ex : ∃ i, Tryd.prog.info? 9 = some i ∧ i.zero = some (.string ⟨#[]⟩) ∧ i.size = 1 ∧ i.bytes = 16 := by
  have h : (Tryd.prog.info? 9).map (fun i => (i.zero, i.size, i.bytes)) = some (some (.string ⟨#[]⟩), 1, 16) := by kernel_rfl
  cases hi : Tryd.prog.info? 9 with
  | none => rw [hi] at h; cases h
  | some i =>
    rw [hi] at h
    injection h with h
    injection h with h1 h2
    injection h2 with h2 h3
    exact ⟨i, rfl, h1, h2, h3⟩
set_option maxRecDepth 1000000 in
/-- 'append(l, x...)' of texts. -/
theorem append_ssl {ops : Array Oper} {rest : List Oper} {o : Oper} {a : Act} {Q : Exit → Act → World → Prop} {w : World} (hgd : o.guard = none) (s x : Operand)
    (ho : o.op = .call { callee := .builtin .append, args := #[s, x], argTypes := #[37, 37] }) (B : Nat) (v : Value) (n : Nat) (ds : List ByteArray) (hs : a.eval s = v) (hown : w.ownsRow B 9 1 v n (sv ds))
    (u : Value) (es : List ByteArray) (hx : a.eval x = u) (hu : SSl w u es) (hlen : n + es.length < 1099511627776) (hbase : B ≤ w.heap.size)
    (h : ∀ v' w', w'.ownsRow B 9 1 v' (n + es.length) (sv (ds ++ es)) → w.grownBy w' v.ownBlock → wpList Tryd.prog ops Q rest (a.put o.dst v') w') : wpList Tryd.prog ops Q (o :: rest) a w := by
  obtain ⟨i, hi, hz0, hz1, hz2⟩ := info9_ex
  obtain ⟨⟨ad, cap, rfl, hn, hc⟩, hmax, _⟩ := hu
  cases ad with
  | none =>
    have hc0 := hn.2 rfl
    have he : es = [] := List.length_eq_zero_iff.1 (by omega)
    subst hc0
    subst he
    refine wpList_append_own_none hgd s x 37 ho B 9 i 1 Tryd.underlying37 hi v n (sv ds) hs hown hx (h v w ?_ ⟨rfl, rfl, rfl, Nat.le_refl _, fun _ _ _ => rfl⟩)
    simpa using hown
  | some ad =>
    refine wpList_append_own_at w hgd s x 37 ho B 9 i (.string ⟨#[]⟩) 1 16 Tryd.underlying37 hi hz0 hz1 hz2 rfl (by decide) v n (sv ds) hs hown ad es.length cap (sv es) hx (by rw [sv_len, Nat.mul_one]) (fun j u hu => ?_) (sv_one es) (by unfold maxLen; omega) (by omega) hbase fun v' w' h1 h2 _ _ => h v' w' (by rw [sv_app]; exact h1) h2
    have hjl : j < es.length := by
      rcases Nat.lt_or_ge j es.length with h | h
      · exact h
      · rw [List.getElem?_eq_none (by rw [sv_len]; exact h)] at hu
        cases hu
    rcases hc with hc | ⟨b, off, e, hc⟩
    · rw [hc] at hjl
      simp at hjl
    · injection e with e
      subst e
      rw [sv_get (List.getElem?_eq_getElem hjl)] at hu
      injection hu with hu
      rw [addr_add, hc j _ (List.getElem?_eq_getElem hjl), hu]
/-- One text, fresh. -/
theorem one_ssl (w : World) (s : ByteArray) (hs : s.size ≤ 140737488351232) : SSl (w.alloc (.cells #[.string s] 9)) (.slice (some ⟨w.heap.size, 0, none⟩) 1 1) [s] := by
  refine ⟨⟨_, 1, rfl, ⟨by simp, fun h => by cases h⟩, .inr ⟨w.heap.size, 0, rfl, fun j t hj => ?_⟩⟩, by simp, by simpa using hs⟩
  match j, hj with
  | 0, hj =>
    simp at hj
    subst hj
    exact blk_cell (heap_alloc_new w _) rfl
  | j + 1, hj => simp at hj
def mk9 : ByteArray := ⟨#[109, 97, 114, 107]⟩
/-- Texts lent. -/
structure Lts (w : World) (base : Nat) (v : Value) (ks : List ByteArray) : Prop where
  own : ∃ g cap, v = .slice (some ⟨g, 0, none⟩) ks.length cap ∧ w.ownsRow base 9 1 (.slice (some ⟨g, 0, none⟩) (ks.length + 9) cap) (ks.length + 9) (sv (ks ++ List.replicate 9 mk9))
  len : ks.length ≤ 100000
  size : ∀ s ∈ ks, s.size ≤ 140737488351232
theorem Lts.below {w w' : World} {base : Nat} {v : Value} {ks : List ByteArray} (h : Lts w base v ks) (hb : Below w.heap.size w w') : Lts w' base v ks := by
  obtain ⟨⟨g, cap, hv, ho⟩, h1, h2⟩ := h
  exact ⟨⟨g, cap, hv, (Kp.of_below (S := fun _ => False) hb).owns ho (fun _ _ hf => hf)⟩, h1, h2⟩
end
section
open Go.RowKit Go
theorem Lts.cell {w : World} {base g cap : Nat} {ks : List ByteArray} (h : w.ownsRow base 9 1 (.slice (some ⟨g, 0, none⟩) (ks.length + 9) cap) (ks.length + 9) (sv (ks ++ List.replicate 9 mk9))) : (∀ j s, ks[j]? = some s → w.cell? ⟨g, j, none⟩ = some (.string s)) ∧ (∀ j, j < 9 → w.cell? ⟨g, ks.length + j, none⟩ = some (.string mk9)) ∧ ks.length + 9 ≤ cap := by
  refine ⟨fun j s hj => ?_, fun j hj => ?_, ?_⟩
  · refine (own_cell h (sv_get ?_)).1
    rw [List.getElem?_append_left (List.getElem?_eq_some_iff.1 hj).1]
    exact hj
  · refine (own_cell h (sv_get ?_)).1
    rw [List.getElem?_append_right (by omega), Nat.add_sub_cancel_left, List.getElem?_replicate_of_lt hj]
  · rcases h.2 with ⟨hv, _⟩ | ⟨g', cap', cur, hv, _, _, h1, _⟩
    · cases hv
    · injection hv with _ _ e
      subst e
      exact h1
theorem str_ne (s : ByteArray) : (s.toList != s.toList) = false := by simp
end
section
open Go.RowKit Go
/-- The cells of values in a row. -/
def vfl (l : List (Array Value)) : List Value := l.flatMap (·.toList)
theorem vfl_app (a b : List (Array Value)) : vfl (a ++ b) = vfl a ++ vfl b := by simp [vfl]
theorem vfl_len : ∀ {l : List (Array Value)}, (∀ c ∈ l, c.size = 13) → (vfl l).length = l.length * 13
  | [], _ => rfl
  | c :: l, h => by
    have h1 := vfl_len (l := l) (fun d hd => h d (List.mem_cons_of_mem _ hd))
    have h2 := h c (List.mem_cons_self ..)
    have e : vfl (c :: l) = c.toList ++ vfl l := by simp [vfl]
    rw [e, List.length_append, h1, List.length_cons, Array.length_toList, h2]
    omega
theorem vfl_get : ∀ {l : List (Array Value)}, (∀ c ∈ l, c.size = 13) → ∀ (k : Nat) (c : Array Value) (j : Nat) (u : Value), l[k]? = some c → c[j]? = some u → (vfl l)[k * 13 + j]? = some u
  | [], _, k, c, j, u, h, _ => by simp at h
  | d :: l, hs, 0, c, j, u, h, hu => by
    simp at h
    subst h
    have e : vfl (d :: l) = d.toList ++ vfl l := by simp [vfl]
    have hj : j < d.size := (Array.getElem?_eq_some_iff.1 hu).1
    rw [e, List.getElem?_append_left (by simpa using hj)]
    simpa using hu
  | d :: l, hs, k + 1, c, j, u, h, hu => by
    simp at h
    have e : vfl (d :: l) = d.toList ++ vfl l := by simp [vfl]
    have h13 : d.toList.length = 13 := by rw [Array.length_toList]; exact hs d (List.mem_cons_self ..)
    rw [e, List.getElem?_append_right (by omega)]
    have e2 : (k + 1) * 13 + j - d.toList.length = k * 13 + j := by omega
    rw [e2]
    exact vfl_get (fun d hd => hs d (List.mem_cons_of_mem _ hd)) k c j u h hu
/-- The zero value's cells, and those of a mark. -/
def zv : Array Value := #[.int .i64 0, .bool false, .bool false, .int .u64 0, .int .u64 0, .string ⟨#[]⟩, .slice none 0 0, .int .i64 0, .int .u64 0, .int .u64 0, .string ⟨#[]⟩, .slice none 0 0, .slice none 0 0]
def mv : Array Value := #[.int .i64 777, .bool false, .bool false, .int .u64 0, .int .u64 0, .string ⟨#[]⟩, .slice none 0 0, .int .i64 0, .int .u64 0, .int .u64 0, .string ⟨#[]⟩, .slice none 0 0, .slice none 0 0]
theorem infoV_ex : ∃ i, Tryd.prog.info? 40 = some i ∧ i.zero = some (.agg zv) ∧ i.size = 13 ∧ i.bytes = 160 := by
  have h : (Tryd.prog.info? 40).map (fun i => (i.zero, i.size, i.bytes)) = some (some (.agg zv), 13, 160) := by kernel_rfl
  cases hi : Tryd.prog.info? 40 with
  | none => rw [hi] at h; cases h
  | some i =>
    rw [hi] at h
    injection h with h
    injection h with h1 h2
    injection h2 with h2 h3
    exact ⟨i, rfl, h1, h2, h3⟩
/-- Cells that lie in a row of values: each one cell. -/
def one13 (c : Array Value) : Prop := c.size = 13 ∧ ∀ u ∈ c.toList, u.oneCell' = true
theorem fill_one (c cells : Array Value) (h : c.size = 13) (hc : cells.size = 13) : Instr.fill (fun i => some (i * 13, 13)) cells [(0, .agg c)] = some c := by
  obtain ⟨r, hr, hsz, hk⟩ := Great.fill_dense (s := 13) (by decide) [.agg c] 0 cells (by
    intro v hv
    simp only [List.mem_singleton] at hv
    subst hv
    simpa [Value.cells] using h) (by simp; omega)
  have e : r = c := by
    apply Array.ext_getElem?
    intro k
    rw [hk k]
    by_cases h1 : k < 13
    · rw [if_pos ⟨by omega, by simp; omega⟩]
      simp [Value.cells, Nat.div_eq_of_lt h1, Nat.mod_eq_of_lt h1]
    · rw [if_neg (by simp; omega), Array.getElem?_eq_none (by omega), Array.getElem?_eq_none (by omega)]
  rw [e] at hr
  exact hr
theorem wpList_val1 {ops : Array Oper} {rest : List Oper} {o : Oper} {a : Act} {w : World} {Q : Exit → Act → World → Prop} {x0 : Operand} (hg : o.guard = none) (ho : o.op = .buildSlice 38 1 #[(0, x0)]) (c : Array Value) (hc : c.size = 13)
    (h0 : a.eval x0 = .agg c)
    (h : wpList Tryd.prog ops Q rest (a.put o.dst (.slice (some ⟨w.heap.size, 0, none⟩) 1 1)) (w.alloc (.cells c 40))) : wpList Tryd.prog ops Q (o :: rest) a w := by
  obtain ⟨i, hi, hz, hs, _⟩ := infoV_ex
  refine wpList_buildSlice hg 38 40 1 _ ho c i _ Tryd.underlying38 hi hz (by rw [hs]; decide) (by rw [hs]; decide) ?_ h
  rw [hs]
  have e : ((#[(0, x0)] : Array (Nat × Operand)).map fun (i, x) => (i, a.eval x)).toList = [(0, .agg c)] := by simp [h0]
  rw [e]
  exact fill_one c _ hc (by simp)
/-- append of one value. -/
theorem append_val {ops : Array Oper} {rest : List Oper} {o : Oper} {a : Act} {Q : Exit → Act → World → Prop} {w : World} (hgd : o.guard = none) (s x : Operand)
    (ho : o.op = .call { callee := .builtin .append, args := #[s, x], argTypes := #[38, 38] }) (B : Nat) (v : Value) (n : Nat) (ds : List Value) (hs : a.eval s = v) (hown : w.ownsRow B 40 13 v n ds)
    (g : Nat) (c : Array Value) (h13 : one13 c) (hx : a.eval x = .slice (some ⟨g, 0, none⟩) 1 1) (hg : w.heap[g]? = some (.cells c 40 (0, 0))) (hlen : n < 1099511627) (hbase : B ≤ w.heap.size)
    (h : ∀ v' w', w'.ownsRow B 40 13 v' (n + 1) (ds ++ c.toList) → w.grownBy w' v.ownBlock → (v'.ownBlock = v.ownBlock ∨ v'.ownBlock = some w.heap.size) → wpList Tryd.prog ops Q rest (a.put o.dst v') w') : wpList Tryd.prog ops Q (o :: rest) a w := by
  obtain ⟨i, hi, hz0, hz1, hz2⟩ := infoV_ex
  refine wpList_append_own_at w hgd s x 38 ho B 40 i _ 13 160 Tryd.underlying38 hi hz0 hz1 hz2 rfl (by decide) v n ds hs hown ⟨g, 0, none⟩ 1 1 c.toList hx (by rw [Array.length_toList, h13.1]) (fun j u hu => ?_) h13.2 (by unfold maxLen; omega) (by omega) hbase fun v' w' h1 h2 _ h4 => h v' w' h1 h2 ?_
  · have hadd : (⟨g, 0, none⟩ : Addr).add j = ⟨g, j, none⟩ := by unfold Addr.add; split <;> simp_all
    rw [hadd]
    exact blk_cell hg (by simpa using hu)
  · exact h4
/-- A value lent: each of its rows lies in blocks of its own from lo on and below hi, with marks behind it. -/
inductive Ltv (w : World) (lo hi : Nat) : Tv → Array Value → Prop
  | mk (t : Tv) (gy cy gk ck gi ci : Nat) (L : List (Array Value)) (hbd : Tbd t) (hy : Lnt w lo gy cy t.y) (hgy : gy < hi) (hk : w.ownsRow lo 9 1 (.slice (some ⟨gk, 0, none⟩) (t.ks.length + 9) ck) (t.ks.length + 9) (sv (t.ks ++ List.replicate 9 mk9))) (hgk : gk < hi) (hkl : t.ks.length ≤ 100000) (hks : ∀ s ∈ t.ks, s.size ≤ 140737488351232)
      (hv : w.ownsRow lo 40 13 (.slice (some ⟨gi, 0, none⟩) (t.is.length + 9) ci) (t.is.length + 9) (vfl (L ++ List.replicate 9 mv))) (hgi : gi < hi) (hil : t.is.length ≤ 100000) (hL : L.length = t.is.length) (h13 : ∀ c ∈ L, c.size = 13) (hcs : ∀ (i : Nat) (u : Tv) (c : Array Value), t.is[i]? = some u → L[i]? = some c → Ltv w lo hi u c) :
      Ltv w lo hi t (vcs t (.slice (some ⟨gy, 0, none⟩) t.y.length cy) (.slice (some ⟨gk, 0, none⟩) t.ks.length ck) (.slice (some ⟨gi, 0, none⟩) t.is.length ci))
theorem Ltv.size {w : World} {lo hi : Nat} {t : Tv} {c : Array Value} (h : Ltv w lo hi t c) : c.size = 13 := by
  cases h
  rfl
theorem Ltv.one {w : World} {lo hi : Nat} {t : Tv} {c : Array Value} (h : Ltv w lo hi t c) : one13 c := by
  cases h
  refine ⟨rfl, fun u hu => ?_⟩
  simp only [vcs, List.mem_cons, List.not_mem_nil, or_false] at hu
  rcases hu with rfl | rfl | rfl | rfl | rfl | rfl | rfl | rfl | rfl | rfl | rfl | rfl | rfl <;> rfl
theorem Lnt.mono {w : World} {b b' g cap : Nat} {xs : List Nat} (h : Lnt w b g cap xs) (hb : b' ≤ b) : Lnt w b' g cap xs := ⟨own_mono h.own hb, h.byte, h.len⟩
theorem Ltv.kp {w w' : World} {lo hi : Nat} {t : Tv} {c : Array Value} {S : Nat → Prop} (h : Ltv w lo hi t c) (hk : Kp S w w') (hs : ∀ q, lo ≤ q → q < hi → ¬ S q) : Ltv w' lo hi t c := by
  induction h with
  | mk t gy cy gk ck gi ci L hbd hy hgy hkk hgk hkl hks hv hgi hil hL h13 _ ih =>
    have e1 := (hy.own.lt gy rfl).1
    have e2 := (hkk.lt gk rfl).1
    have e3 := (hv.lt gi rfl).1
    exact Ltv.mk t gy cy gk ck gi ci L hbd (hy.kp hk (hs gy e1 hgy)) hgy (hk.owns hkk (fun q hq => by injection hq with hq; subst hq; exact hs _ e2 hgk)) hgk hkl hks (hk.owns hv (fun q hq => by injection hq with hq; subst hq; exact hs _ e3 hgi)) hgi hil hL h13 ih
theorem Ltv.kept {w w' : World} {lo hi : Nat} {t : Tv} {c : Array Value} (h : Ltv w lo hi t c) (hb : Below w.heap.size w w') : Ltv w' lo hi t c := h.kp (Kp.of_below (S := fun _ => False) hb) (fun _ _ _ h => h)
theorem Ltv.mono {w : World} {lo hi lo' hi' : Nat} {t : Tv} {c : Array Value} (h : Ltv w lo hi t c) (h1 : lo' ≤ lo) (h2 : hi ≤ hi') : Ltv w lo' hi' t c := by
  induction h with
  | mk t gy cy gk ck gi ci L hbd hy hgy hkk hgk hkl hks hv hgi hil hL h13 _ ih =>
    exact Ltv.mk t gy cy gk ck gi ci L hbd (hy.mono h1) (by omega) (own_mono hkk h1) (by omega) hkl hks (own_mono hv h1) (by omega) hil hL h13 ih
theorem ssl_lent {w : World} {lo g cap : Nat} {ks : List ByteArray} (h : w.ownsRow lo 9 1 (.slice (some ⟨g, 0, none⟩) (ks.length + 9) cap) (ks.length + 9) (sv (ks ++ List.replicate 9 mk9))) (hl : ks.length ≤ 100000) (hs : ∀ s ∈ ks, s.size ≤ 140737488351232) : SSl w (.slice (some ⟨g, 0, none⟩) ks.length cap) ks := by
  obtain ⟨h1, _, h3⟩ := Lts.cell h
  refine ⟨⟨_, cap, rfl, ⟨by omega, fun h => by cases h⟩, .inr ⟨g, 0, rfl, fun j s hj => ?_⟩⟩, by omega, hs⟩
  rw [Nat.zero_add]
  exact h1 j s hj
/-- A cell of a value in a row of the call's own. -/
theorem own_val {w : World} {B g n m cap k : Nat} {l : List (Array Value)} {c : Array Value} (h : w.ownsRow B 40 13 (.slice (some ⟨g, 0, none⟩) m cap) n (vfl l)) (hl : ∀ c ∈ l, c.size = 13) (hk : l[k]? = some c) : ∀ j u, c[j]? = some u → w.cell? ⟨g, k * 13 + j, none⟩ = some u := fun j u hu => by
  have := h.cells (g := g) rfl (k * 13 + j) u (vfl_get hl k c j u hk hu)
  have hadd : (⟨g, 0, none⟩ : Addr).add (k * 13 + j) = ⟨g, k * 13 + j, none⟩ := by unfold Addr.add; split <;> simp_all
  rw [hadd] at this
  exact this
theorem all13 {L : List (Array Value)} (h : ∀ c ∈ L, c.size = 13) (k : Nat) : ∀ c ∈ L ++ List.replicate k mv, c.size = 13 := fun c hc => by
  rcases List.mem_append.1 hc with hc | hc
  · exact h c hc
  · rw [List.eq_of_mem_replicate hc]
    rfl
theorem Ltv.tin {w : World} {lo hi : Nat} {t : Tv} {c : Array Value} (h : Ltv w lo hi t c) : Tin w t c := by
  induction h with
  | mk t gy cy gk ck gi ci L hbd hy hgy hkk hgk hkl hks hv hgi hil hL h13 _ ih =>
    refine Tin.of hy.bsl (ssl_lent hkk hkl hks) ⟨⟨_, ci, rfl, ⟨?_, fun h => by cases h⟩, .inr ⟨gi, 0, rfl, fun i u hu => ?_⟩⟩, by omega⟩ hbd
    · rcases hv.2 with ⟨e, _⟩ | ⟨g', cap', cur, e, _, _, h1, _⟩
      · cases e
      · injection e with _ _ e
        subst e
        omega
    · have hil2 := (List.getElem?_eq_some_iff.1 hu).1
      have hc : L[i]? = some (L[i]'(by omega)) := List.getElem?_eq_getElem (by omega)
      refine ⟨_, ih i u _ hu hc, fun j v hj => ?_⟩
      rw [Nat.zero_add]
      refine own_val hv (all13 h13 9) ?_ j v hj
      rw [List.getElem?_append_left (by omega)]
      exact hc
end
section
open Go.RowKit Go
/-- A row of texts that lies in blocks of its own reads as these texts, whatever became of the rest. -/
theorem SSl.own {w : World} {base n : Nat} {v : Value} {ks : List ByteArray} (h : w.ownsRow base 9 1 v n (sv ks)) (hn : n = ks.length) (hm : ks.length ≤ 140737488351232) (hs : ∀ s ∈ ks, s.size ≤ 140737488351232) : SSl w v ks := by
  subst hn
  rcases id h.2 with ⟨hv, he⟩ | ⟨g, cap, cur, hv, _, _, h1, _⟩
  · subst hv
    have e : ks = [] := List.length_eq_zero_iff.1 he
    subst e
    exact ⟨⟨none, 0, rfl, ⟨by simp, fun _ => rfl⟩, .inl rfl⟩, hm, hs⟩
  · subst hv
    refine ⟨⟨_, cap, rfl, ⟨by omega, fun h => by cases h⟩, .inr ⟨g, 0, rfl, fun j s hj => ?_⟩⟩, hm, hs⟩
    rw [Nat.zero_add]
    exact (own_cell h (sv_get hj)).1
end
section
open Go.RowKit Go
/-- A value in new memory: each of its rows lies in blocks of its own from lo on and below hi. -/
inductive Ntv (w : World) (lo hi : Nat) : Tv → Array Value → Prop
  | mk (t : Tv) (vy vk vi : Value) (L : List (Array Value)) (hbd : Tbd t) (hyb : ∀ x ∈ t.y, x < 256) (hy : w.ownsRow lo 5 1 vy t.y.length (bv t.y)) (hgy : ∀ q, vy.ownBlock = some q → q < hi) (hk : w.ownsRow lo 9 1 vk t.ks.length (sv t.ks)) (hgk : ∀ q, vk.ownBlock = some q → q < hi) (hkl : t.ks.length ≤ 140737488351232) (hks : ∀ s ∈ t.ks, s.size ≤ 140737488351232)
      (hv : w.ownsRow lo 40 13 vi t.is.length (vfl L)) (hgi : ∀ q, vi.ownBlock = some q → q < hi) (hil : t.is.length ≤ 140737488351232) (hL : L.length = t.is.length) (h13 : ∀ c ∈ L, c.size = 13) (hcs : ∀ (i : Nat) (u : Tv) (c : Array Value), t.is[i]? = some u → L[i]? = some c → Ntv w lo hi u c) :
      Ntv w lo hi t (vcs t vy vk vi)
theorem own_one1 {w : World} {B e s n : Nat} {v : Value} {xs : List Value} (h : w.ownsRow B e s v n xs) : v.oneCell' = true := by
  rcases h.2 with ⟨e, _⟩ | ⟨g, c, cur, e, _⟩ <;> (rw [e]; rfl)
theorem Ntv.size {w : World} {lo hi : Nat} {t : Tv} {c : Array Value} (h : Ntv w lo hi t c) : c.size = 13 := by
  cases h
  rfl
theorem Ntv.one {w : World} {lo hi : Nat} {t : Tv} {c : Array Value} (h : Ntv w lo hi t c) : one13 c := by
  cases h with
  | mk _ vy vk vi L hbd hyb hy hgy hk hgk hkl hks hv hgi hil hL h13 hcs =>
  refine ⟨rfl, fun u hu => ?_⟩
  simp only [vcs, List.mem_cons, List.not_mem_nil, or_false] at hu
  rcases hu with rfl | rfl | rfl | rfl | rfl | rfl | rfl | rfl | rfl | rfl | rfl | rfl | rfl <;> first | rfl | exact own_one1 hy | exact own_one1 hk | exact own_one1 hv
theorem Ntv.kp {w w' : World} {lo hi : Nat} {t : Tv} {c : Array Value} {S : Nat → Prop} (h : Ntv w lo hi t c) (hk : Kp S w w') (hs : ∀ q, lo ≤ q → q < hi → ¬ S q) : Ntv w' lo hi t c := by
  induction h with
  | mk t vy vk vi L hbd hyb hy hgy hkk hgk hkl hks hv hgi hil hL h13 _ ih =>
    exact Ntv.mk t vy vk vi L hbd hyb (hk.owns hy (fun q hq => hs q (hy.lt q hq).1 (hgy q hq))) hgy (hk.owns hkk (fun q hq => hs q (hkk.lt q hq).1 (hgk q hq))) hgk hkl hks (hk.owns hv (fun q hq => hs q (hv.lt q hq).1 (hgi q hq))) hgi hil hL h13 ih
theorem Ntv.kept {w w' : World} {lo hi : Nat} {t : Tv} {c : Array Value} (h : Ntv w lo hi t c) (hb : Below w.heap.size w w') : Ntv w' lo hi t c := h.kp (Kp.of_below (S := fun _ => False) hb) (fun _ _ _ h => h)
theorem Ntv.mono {w : World} {lo hi lo' hi' : Nat} {t : Tv} {c : Array Value} (h : Ntv w lo hi t c) (h1 : lo' ≤ lo) (h2 : hi ≤ hi') : Ntv w lo' hi' t c := by
  induction h with
  | mk t vy vk vi L hbd hyb hy hgy hkk hgk hkl hks hv hgi hil hL h13 _ ih =>
    exact Ntv.mk t vy vk vi L hbd hyb (own_mono hy h1) (fun q hq => Nat.lt_of_lt_of_le (hgy q hq) h2) (own_mono hkk h1) (fun q hq => Nat.lt_of_lt_of_le (hgk q hq) h2) hkl hks (own_mono hv h1) (fun q hq => Nat.lt_of_lt_of_le (hgi q hq) h2) hil hL h13 ih
theorem Ntv.tin {w : World} {lo hi : Nat} {t : Tv} {c : Array Value} (h : Ntv w lo hi t c) : Tin w t c := by
  induction h with
  | mk t vy vk vi L hbd hyb hy hgy hkk hgk hkl hks hv hgi hil hL h13 _ ih =>
    refine Tin.of (BSl.own hy hyb) (SSl.own hkk rfl hkl hks) ?_ hbd
    rcases id hv.2 with ⟨e, h0⟩ | ⟨g, cap, cur, e, _, _, h1, _⟩
    · subst e
      have e2 : t.is = [] := List.length_eq_zero_iff.1 h0
      refine ⟨⟨none, 0, by rw [h0], ⟨by omega, fun _ => rfl⟩, .inl e2⟩, hil⟩
    · subst e
      refine ⟨⟨_, cap, rfl, ⟨by omega, fun h => by cases h⟩, .inr ⟨g, 0, rfl, fun i u hu => ?_⟩⟩, hil⟩
      have hil2 := (List.getElem?_eq_some_iff.1 hu).1
      have hc : L[i]? = some (L[i]'(by omega)) := List.getElem?_eq_getElem (by omega)
      refine ⟨_, ih i u _ hu hc, fun j v hj => ?_⟩
      rw [Nat.zero_add]
      exact own_val hv h13 hc j v hj
end
section
open Go.RowKit Go
/-- What LendValues has in hand. -/
structure Lvi (w : World) (B : Nat) (wx : World) (v : Value) (L : List (Array Value)) (is : List Tv) : Prop where
  o : wx.ownsRow B 40 13 v L.length (vfl L)
  s : ∀ c ∈ L, c.size = 13
  b : Below B w wx
  z : B ≤ wx.heap.size
  i : ∀ (j : Nat) (u : Tv) (c : Array Value), is[j]? = some u → L[j]? = some c → ∃ lo hi, B ≤ lo ∧ hi ≤ wx.heap.size ∧ (∀ q, v.ownBlock = some q → q < lo ∨ hi ≤ q) ∧ Ltv wx lo hi u c
theorem Lvi.next {w : World} {B : Nat} {wx wy : World} {v : Value} {L : List (Array Value)} {is : List Tv} (h : Lvi w B wx v L is) (hb : Below wx.heap.size wx wy) : Lvi w B wy v L is :=
  ⟨(Kp.of_below (S := fun _ => False) hb).owns h.o (fun _ _ hf => hf), h.s, h.b.trans (hb.mono h.z), Nat.le_trans h.z hb.size, fun j u c h1 h2 => by
    obtain ⟨lo, hi, e1, e2, e3, e4⟩ := h.i j u c h1 h2
    exact ⟨lo, hi, e1, Nat.le_trans e2 hb.size, e3, e4.kept hb⟩⟩
theorem Lvi.app {w : World} {B : Nat} {wx wy : World} {v v' : Value} {L : List (Array Value)} {is : List Tv} (h : Lvi w B wx v L is) {c : Array Value} (hc : c.size = 13) (ho : wy.ownsRow B 40 13 v' (L.length + 1) (vfl L ++ c.toList)) (hg : wx.grownBy wy v.ownBlock) (hv : v'.ownBlock = v.ownBlock ∨ v'.ownBlock = some wx.heap.size)
    (hnew : ∀ u, is[L.length]? = some u → ∃ lo hi, B ≤ lo ∧ hi ≤ wx.heap.size ∧ (∀ q, v.ownBlock = some q → q < lo ∨ hi ≤ q) ∧ Ltv wx lo hi u c) : Lvi w B wy v' (L ++ [c]) is := by
  have hk : Kp (fun q => v.ownBlock = some q) wx wy := (Kp.refl _ _).grown hg (fun k _ h => h)
  have hz := hk.size
  refine ⟨?_, ?_, h.b.grown hg h.z (fun g hg => (h.o.lt g hg).1), Nat.le_trans h.z hz, fun j u c' h1 h2 => ?_⟩
  · rw [vfl_app, List.length_append]
    have e : vfl [c] = c.toList := by simp [vfl]
    rw [e]
    exact ho
  · intro d hd
    rcases List.mem_append.1 hd with hd | hd
    · exact h.s d hd
    · simp only [List.mem_singleton] at hd
      rw [hd]
      exact hc
  · have key : ∃ lo hi, B ≤ lo ∧ hi ≤ wx.heap.size ∧ (∀ q, v.ownBlock = some q → q < lo ∨ hi ≤ q) ∧ Ltv wx lo hi u c' := by
      rcases Nat.lt_or_ge j L.length with hj | hj
      · rw [List.getElem?_append_left hj] at h2
        exact h.i j u c' h1 h2
      · rw [List.getElem?_append_right hj] at h2
        have hj0 : j = L.length := by
          rcases Nat.eq_or_lt_of_le hj with e | e
          · exact e.symm
          · rw [List.getElem?_eq_none (by simp; omega)] at h2
            cases h2
        subst hj0
        simp at h2
        subst h2
        exact hnew u h1
    obtain ⟨lo, hi, e1, e2, e3, e4⟩ := key
    refine ⟨lo, hi, e1, Nat.le_trans e2 hz, fun q hq => ?_, e4.kp hk (fun q h1 h2 e => by rcases e3 q e with h | h <;> omega)⟩
    rcases hv with hv | hv
    · exact e3 q (by rw [← hv]; exact hq)
    · rw [hv] at hq
      injection hq with hq
      subst hq
      exact .inr e2
/-- What LendValues gives. -/
structure LvP (w w' : World) (is : List Tv) (gi ci : Nat) (L : List (Array Value)) : Prop where
  o : w'.ownsRow w.heap.size 40 13 (.slice (some ⟨gi, 0, none⟩) (is.length + 9) ci) (is.length + 9) (vfl (L ++ List.replicate 9 mv))
  n : L.length = is.length
  s : ∀ c ∈ L, c.size = 13
  i : ∀ (j : Nat) (u : Tv) (c : Array Value), is[j]? = some u → L[j]? = some c → Ltv w' w.heap.size w'.heap.size u c
  b : Below w.heap.size w w'
theorem one_mv : one13 mv := ⟨rfl, fun u hu => by
  simp only [mv, List.mem_cons, List.not_mem_nil, or_false] at hu
  rcases hu with rfl | rfl | rfl | rfl | rfl | rfl | rfl | rfl | rfl | rfl | rfl | rfl | rfl <;> rfl⟩
theorem tmuchL_mem : ∀ {l : List Tv} {t : Tv}, t ∈ l → tmuch t ≤ tmuchL l
  | [], _, h => by cases h
  | u :: r, t, h => by
    rw [tmuchL]
    rcases List.mem_cons.1 h with h | h
    · subst h
      omega
    · have := tmuchL_mem h
      omega
theorem tmuchL_len : ∀ l : List Tv, l.length ≤ tmuchL l
  | [] => by simp
  | u :: r => by
    have := tmuchL_len r
    have := tmuch_eq u
    rw [tmuchL, List.length_cons]
    omega
end
section
open Go.RowKit Go
/-- What LendValue has in hand: its argument's block, the result's, the copy's. -/
structure Lw (w wx : World) (c0 c2 : Array Value) : Prop where
  a : wx.heap[w.heap.size]? = some (.cells c0 40 (0, 0))
  r : wx.heap[w.heap.size + 1]? = some (.cells zv 40 (0, 0))
  x : wx.heap[w.heap.size + 1 + 1]? = some (.cells c2 40 (0, 0))
  b : Below w.heap.size w wx
theorem Lw.start (w : World) (c : Array Value) : Lw w (((w.alloc (.cells c 40)).alloc (.cells zv 40)).alloc (.cells c 40)) c c := by
  have h1 := heap_alloc_new w (.cells c 40)
  have e1 : (w.alloc (.cells c 40)).heap.size = w.heap.size + 1 := by simp
  have h2 := heap_alloc_new (w.alloc (.cells c 40)) (.cells zv 40)
  have e2 : ((w.alloc (.cells c 40)).alloc (.cells zv 40)).heap.size = w.heap.size + 1 + 1 := by simp
  have h3 := heap_alloc_new ((w.alloc (.cells c 40)).alloc (.cells zv 40)) (.cells c 40)
  rw [e1] at h2
  rw [e2] at h3
  have b1 := below_alloc4 w (.cells c 40)
  have b2 := below_alloc4 (w.alloc (.cells c 40)) (.cells zv 40)
  have b3 := below_alloc4 ((w.alloc (.cells c 40)).alloc (.cells zv 40)) (.cells c 40)
  exact ⟨blk_alloc _ (blk_alloc _ h1), blk_alloc _ h2, h3, (b1.trans (b2.mono b1.size)).trans (b3.mono (Nat.le_trans b1.size b2.size))⟩
theorem Lw.next {w wx wy : World} {c0 c2 : Array Value} (h : Lw w wx c0 c2) (hb : Below wx.heap.size wx wy) : Lw w wy c0 c2 :=
  ⟨(hb.block _ (blk_lt h.a)).trans h.a, (hb.block _ (blk_lt h.r)).trans h.r, (hb.block _ (blk_lt h.x)).trans h.x, h.b.trans (hb.mono h.b.size)⟩
theorem Lw.set {w wx : World} {c0 c2 : Array Value} (h : Lw w wx c0 c2) (j : Nat) (v : Value) : Lw w (wx.setCell ⟨w.heap.size + 1 + 1, j, none⟩ v) c0 (c2.setIfInBounds j v) ∧ Kp (fun q => q = w.heap.size + 1 + 1) wx (wx.setCell ⟨w.heap.size + 1 + 1, j, none⟩ v) := by
  have hk : Kp (fun q => q = w.heap.size + 1 + 1) wx (wx.setCell ⟨w.heap.size + 1 + 1, j, none⟩ v) := (Kp.refl _ _).setCell _ _ (fun _ => rfl)
  exact ⟨⟨blk_other j v h.a (by omega), blk_other j v h.r (by omega), blk_set j v h.x, h.b.trans (hk.below h.b.size (fun q e => by omega))⟩, hk⟩
theorem sl_blk {g n c q : Nat} (h : (Value.slice (some ⟨g, 0, none⟩) n c).ownBlock = some q) : q = g := by
  injection h with h
  exact h.symm
theorem setv (t : Tv) (vy vk vi x : Value) : (vcs t vy vk vi).setIfInBounds 6 x = vcs t x vk vi ∧ (vcs t vy vk vi).setIfInBounds 11 x = vcs t vy x vi ∧ (vcs t vy vk vi).setIfInBounds 12 x = vcs t vy vk x := ⟨rfl, rfl, rfl⟩
end
section
open Go.RowKit Go
theorem Tin.all1 {w : World} {t : Tv} {c : Array Value} (h : Tin w t c) : c.all (·.oneCell') = true := by
  obtain ⟨vy, vk, vi, rfl, hy, hk, hv, _⟩ := h.parts
  obtain ⟨⟨ay, cy, rfl, _, _⟩, _⟩ := hy
  obtain ⟨⟨ak, ck, rfl, _, _⟩, _, _⟩ := hk
  obtain ⟨⟨ai, ci, rfl, _, _⟩, _⟩ := hv
  kernel_rfl
theorem Tin.size13 {w : World} {t : Tv} {c : Array Value} (h : Tin w t c) : c.size = 13 := by
  obtain ⟨vy, vk, vi, rfl, _⟩ := h.parts
  rfl
/-- A range's item in a variable of its own. -/
structure Itm (w wi : World) (c : Array Value) : Prop where
  b : Below w.heap.size w wi
  r : wi.heap[w.heap.size]? = some (.cells c 40 (0, 0))
  z : wi.heap.size = w.heap.size + 1
theorem itm_mk (w : World) (c : Array Value) : Itm w ((w.alloc (.cells zv 40)).setRow w.heap.size c) c := by
  have h0 := heap_alloc_new w (.cells zv 40)
  have hk := row_kp (w.alloc (.cells zv 40)) w.heap.size c
  refine ⟨(below_alloc4 w _).trans (hk.below (by simp) (fun q e => by omega)), row_same h0, ?_⟩
  simp [World.setRow]
theorem Itm.cells {w wi : World} {c : Array Value} (h : Itm w wi c) : ∀ j u, c[j]? = some u → wi.cell? ⟨w.heap.size, 0 + j, none⟩ = some u := fun j u hu => by
  rw [Nat.zero_add]
  exact blk_cell h.r hu
end
section
open Go.RowKit Go
theorem cell_lt6 {w : World} {a : Addr} {v : Value} (h : w.cell? a = some v) : a.block < w.heap.size := by
  rcases Nat.lt_or_ge a.block w.heap.size with h1 | h1
  · exact h1
  · unfold World.cell? at h
    rw [Array.getElem?_eq_none h1] at h
    cases h
/-! A value in memory that does not lie in a set of blocks. -/
inductive Tis (w : World) (S : Nat → Prop) : Tv → Array Value → Prop
  | mk (t : Tv) (vy vk vi : Value) (hb : Tbd t) (hy : BSl w vy t.y) (hys : t.y ≠ [] → ∀ q, vy.ownBlock = some q → ¬ S q) (hk : SSl w vk t.ks) (hks : t.ks ≠ [] → ∀ q, vk.ownBlock = some q → ¬ S q)
      (cs : Nat → Array Value) (a : Option Addr) (cap : Nat) (hv : vi = .slice a t.is.length cap) (hc : t.is.length ≤ cap ∧ (a = none → cap = 0)) (hm : t.is.length ≤ 140737488351232) (hi : ∀ i u, t.is[i]? = some u → Tis w S u (cs i))
      (ha : t.is = [] ∨ ∃ b off, a = some ⟨b, off, none⟩ ∧ ¬ S b ∧ ∀ i, i < t.is.length → ∀ j u, (cs i)[j]? = some u → w.cell? ⟨b, off + i * 13 + j, none⟩ = some u) : Tis w S t (vcs t vy vk vi)
theorem Tis.tin {w : World} {S : Nat → Prop} {t : Tv} {c : Array Value} (h : Tis w S t c) : Tin w t c := by
  induction h with
  | mk t vy vk vi hb hy hys hk hks cs a cap hv hc hm hi ha ih =>
    subst hv
    refine Tin.mk t vy vk a cap cs hb.n hb.b hb.s hy hb.y hb.l hb.d hk hc hm ih ?_
    rcases ha with ha | ⟨b, off, e, _, ha⟩
    · exact .inl ha
    · exact .inr ⟨b, off, e, ha⟩
theorem bsl_nil6 {w w' : World} {v : Value} (h : BSl w v []) : BSl w' v [] := by
  obtain ⟨⟨a, c, hv, hn, hc⟩, h1, h2⟩ := h
  exact ⟨⟨a, c, hv, hn, .inl rfl⟩, h1, h2⟩
theorem ssl_nil6 {w w' : World} {v : Value} (h : SSl w v []) : SSl w' v [] := by
  obtain ⟨⟨a, c, hv, hn, hc⟩, h1, h2⟩ := h
  exact ⟨⟨a, c, hv, hn, .inl rfl⟩, h1, h2⟩
theorem Kp.ssl {S : Nat → Prop} {w w' : World} (h : Kp S w w') {v : Value} {ks : List ByteArray} (hb : SSl w v ks) (hs : ∀ k, v.ownBlock = some k → ¬ S k) : SSl w' v ks := by
  obtain ⟨⟨a, c, hv, hn, hc⟩, h1, h2⟩ := hb
  refine ⟨⟨a, c, hv, hn, ?_⟩, h1, h2⟩
  rcases hc with hc | ⟨b, off, ha, hc⟩
  · exact .inl hc
  · refine .inr ⟨b, off, ha, fun j s hj => h.cell (hc j s hj) (hs b ?_)⟩
    rw [hv, ha]
    rfl
theorem Tis.kp {w w' : World} {S : Nat → Prop} {t : Tv} {c : Array Value} (h : Tis w S t c) (hk : Kp S w w') : Tis w' S t c := by
  induction h with
  | mk t vy vk vi hb hy hys hkk hks cs a cap hv hc hm hi ha ih =>
    refine Tis.mk t vy vk vi hb ?_ hys ?_ hks cs a cap hv hc hm ih ?_
    · by_cases e : t.y = []
      · rw [e] at hy ⊢
        exact bsl_nil6 hy
      · exact hk.bsl hy (hys e)
    · by_cases e : t.ks = []
      · rw [e] at hkk ⊢
        exact ssl_nil6 hkk
      · exact hk.ssl hkk (hks e)
    · rcases ha with ha | ⟨b, off, e, hs, ha⟩
      · exact .inl ha
      · exact .inr ⟨b, off, e, hs, fun i hi j u hu => hk.cell (ha i hi j u hu) hs⟩
theorem Tis.mono {w : World} {S T : Nat → Prop} {t : Tv} {c : Array Value} (h : Tis w S t c) (hs : ∀ q, T q → S q) : Tis w T t c := by
  induction h with
  | mk t vy vk vi hb hy hys hk hks cs a cap hv hc hm hi ha ih =>
    refine Tis.mk t vy vk vi hb hy (fun e q hq h => hys e q hq (hs q h)) hk (fun e q hq h => hks e q hq (hs q h)) cs a cap hv hc hm ih ?_
    rcases ha with ha | ⟨b, off, e, h1, ha⟩
    · exact .inl ha
    · exact .inr ⟨b, off, e, fun h => h1 (hs b h), ha⟩
theorem Tis.of_tin {w : World} {S : Nat → Prop} {t : Tv} {c : Array Value} (h : Tin w t c) (hs : ∀ q, S q → w.heap.size ≤ q) : Tis w S t c := by
  induction h with
  | mk t vy vk a cap cs hn hb hsz hy hyl hl hld hk hc hm hi ha ih =>
    refine Tis.mk t vy vk _ ⟨hn, hb, hsz, hyl, hl, hld⟩ hy ?_ hk ?_ cs a cap rfl hc hm ih ?_
    · intro e q hq h
      obtain ⟨⟨a', c', hv, _, hcc⟩, _, _⟩ := hy
      obtain ⟨b, off, ha', hcd⟩ := hcc.resolve_left e
      subst hv
      subst ha'
      have e3 : b = q := by simpa [Value.ownBlock] using hq
      subst e3
      have hl : 0 < t.y.length := List.length_pos_iff.2 e
      have h1 := cell_lt6 (hcd 0 hl)
      have := hs _ h
      simp only at h1
      omega
    · intro e q hq h
      obtain ⟨⟨a', c', hv, _, hcc⟩, _, _⟩ := hk
      obtain ⟨b, off, ha', hcd⟩ := hcc.resolve_left e
      subst hv
      subst ha'
      have e3 : b = q := by simpa [Value.ownBlock] using hq
      subst e3
      obtain ⟨s, hs0⟩ : ∃ s, t.ks[0]? = some s := by
        cases hks : t.ks with
        | nil => exact absurd hks e
        | cons s r => exact ⟨s, rfl⟩
      have h1 := cell_lt6 (hcd 0 s hs0)
      have := hs _ h
      simp only at h1
      omega
    · rcases ha with ha | ⟨b, off, e, ha⟩
      · exact .inl ha
      · by_cases e2 : t.is = []
        · exact .inl e2
        · refine .inr ⟨b, off, e, fun h => ?_, ha⟩
          have hl : 0 < t.is.length := List.length_pos_iff.2 e2
          have hz := (hi 0 _ (List.getElem?_eq_getElem hl)).size13
          have h1 := cell_lt6 (ha 0 hl 0 ((cs 0)[0]'(by omega)) (Array.getElem?_eq_getElem (by omega)))
          have := hs _ h
          simp only at h1
          omega
/-- Nor does it lie in what is made later. -/
theorem Tis.widen {w : World} {S : Nat → Prop} {t : Tv} {c : Array Value} (h : Tis w S t c) : Tis w (fun q => S q ∨ w.heap.size ≤ q) t c := by
  induction h with
  | mk t vy vk vi hb hy hys hk hks cs a cap hv hc hm hi ha ih =>
    have hi2 := hi
    refine Tis.mk t vy vk vi hb hy ?_ hk ?_ cs a cap hv hc hm ih ?_
    · intro e q hq h
      rcases h with h | h
      · exact hys e q hq h
      · obtain ⟨⟨a', c', hv', _, hcc⟩, _, _⟩ := hy
        obtain ⟨b, off, ha', hcd⟩ := hcc.resolve_left e
        subst hv'
        subst ha'
        have e3 : b = q := by simpa [Value.ownBlock] using hq
        subst e3
        have hl : 0 < t.y.length := List.length_pos_iff.2 e
        have h1 := cell_lt6 (hcd 0 hl)
        simp only at h1
        omega
    · intro e q hq h
      rcases h with h | h
      · exact hks e q hq h
      · obtain ⟨⟨a', c', hv', _, hcc⟩, _, _⟩ := hk
        obtain ⟨b, off, ha', hcd⟩ := hcc.resolve_left e
        subst hv'
        subst ha'
        have e3 : b = q := by simpa [Value.ownBlock] using hq
        subst e3
        obtain ⟨s, hs0⟩ : ∃ s, t.ks[0]? = some s := by
          cases hks' : t.ks with
          | nil => exact absurd hks' e
          | cons s r => exact ⟨s, rfl⟩
        have h1 := cell_lt6 (hcd 0 s hs0)
        simp only at h1
        omega
    · rcases ha with ha | ⟨b, off, e, hs, ha⟩
      · exact .inl ha
      · by_cases e2 : t.is = []
        · exact .inl e2
        · refine .inr ⟨b, off, e, fun h => ?_, ha⟩
          rcases h with h | h
          · exact hs h
          · have hl : 0 < t.is.length := List.length_pos_iff.2 e2
            have hz := (hi2 0 _ (List.getElem?_eq_getElem hl)).tin.size13
            have h1 := cell_lt6 (ha 0 hl 0 ((cs 0)[0]'(by omega)) (Array.getElem?_eq_getElem (by omega)))
            simp only at h1
            omega
end
section
open Go.RowKit Go
theorem item_set {w : World} {g : Nat} {c : Array Value} (k : Nat) (v : Value) (hg : w.heap[g]? = some (.cells c 54 (0, 0))) : (w.setCell ⟨g, k, none⟩ v).heap[g]? = some (.cells (c.setIfInBounds k v) 54 (0, 0)) ∧ Kp (fun q => q = g) w (w.setCell ⟨g, k, none⟩ v) :=
  ⟨blk_set k v hg, (Kp.refl _ w).setCell _ _ (fun _ => rfl)⟩
/-- What mayBe keeps. -/
def rtext (h : HR) (y : List Nat) (s : ByteArray) : ByteArray := if h.m = 3 then nstr y else s
set_option maxRecDepth 1000000 in
theorem maybe_any (W : World) (hT : Tabs W) (w : World) (hW : Below W.heap.size W w) (g : Nat) (hgW : W.heap.size ≤ g) (h : HR) (vb : Value) (y : List Nat) (s : ByteArray) (l : Lk) (hg : w.heap[g]? = some (.cells (ics h vb s l) 54 (0, 0))) (hb : BSl w vb y) (hyl : y.length ≤ 140737488351232) (hn : h.n < 18446744073709551616) :
    Calls Tryd.prog 25 #[.pointer (some ⟨g, 0, none⟩)] w fun e w' => e = .returned (.bool (rmay h y)) ∧ w'.heap[g]? = some (.cells (ics h vb (rtext h y s) l) 54 (0, 0)) ∧ Kp (fun q => q = g) w w' := by
  have c0 : w.cell? ⟨g, 0, none⟩ = some (.int .i64 (h.m : Nat)) := blk_cell (j := 0) hg rfl
  have HG := hide hg
  have HT := hide hT
  have HWW := hide hW
  have HGW := hide hgW
  have HBB := hide hb
  clear hT hW hgW hg
  by_cases h3 : h.m = 3
  · as_aux_lemma =>
    have g3 : ((h.m : Int) == 3) = true := beq_iff_eq.2 (by omega)
    have e1 : rmay h y = !badb (nstr y) := by unfold rmay; rw [if_pos h3]
    have e2 : rtext h y s = nstr y := by unfold rtext; rw [if_pos h3]
    rw [e1, e2]
    obtain ⟨⟨a, cap, rfl, hn2, hc⟩, hmax, hby⟩ := hb
    have c5 : w.cell? ⟨g, 5, none⟩ = some (.slice a y.length cap) := blk_cell (j := 5) HG.out rfl
    have c6 : w.cell? ⟨g, 6, none⟩ = some (.string s) := blk_cell (j := 6) HG.out rfl
    have f6 := blk_frozen 6 HG.out
    have hcv : Sem.run Tryd.prog (convert 22 9 (.slice a y.length cap)) w = .ok (.string (nstr y)) w := HBB.out.text
    have hset := item_set 6 (.string (nstr y)) HG.out
    have HS1 := hide hset.1
    have HK1 := hide hset.2
    have c6' : (w.setCell ⟨g, 6, none⟩ (.string (nstr y))).cell? ⟨g, 6, none⟩ = some (.string (nstr y)) := blk_cell (j := 6) HS1.out rfl
    have HSZ : Hid ((nstr y).size ≤ 140737488351232) := by show _ ≤ _; rw [nstr_size hby]; exact hyl
    have HWS : Hid (Below W.heap.size W (w.setCell ⟨g, 6, none⟩ (.string (nstr y)))) := HWW.out.trans (HK1.out.below HWW.out.size (fun q e => by have := HGW.out; omega))
    clear hset h3 e1 e2 hn2 hc hmax
    go_enter Tryd.func25, Tryd.ntmps25
    go_wp2_with fail
    refine (valid_any (nstr y) _ HSZ.out (HT.out.next HWS.out)).mono ?_
    rintro e w2 ⟨rfl, hb2⟩
    have HG2 : Hid (w2.heap[g]? = some (.cells (ics h (.slice a y.length cap) (nstr y) l) 54 (0, 0))) := (hb2.block _ (blk_lt HS1.out)).trans HS1.out
    have HK2 : Hid (Kp (fun q => q = g) w w2) := HK1.out.trans (Kp.of_below (S := fun _ => False) hb2) (fun _ _ h => h.elim)
    clear hb2
    go_wp2_with fail
    go_ret
    exact ⟨rfl, HG2.out, HK2.out⟩
  have g3 : ((h.m : Int) == 3) = false := beq_eq_false_iff_ne.2 (by omega)
  have e2 : rtext h y s = s := by unfold rtext; rw [if_neg h3]
  rw [e2]
  by_cases h6 : h.m = 6
  · as_aux_lemma =>
    have g6 : ((h.m : Int) == 6) = true := beq_iff_eq.2 (by omega)
    have c2 : w.cell? ⟨g, 2, none⟩ = some (.int .u64 (h.n : Nat)) := blk_cell (j := 2) HG.out rfl
    have e1 : rmay h y = ((h.n : Int) == 42) := by
      unfold rmay
      rw [if_neg h3, if_pos h6, Bool.eq_iff_iff]
      simp
      omega
    rw [e1]
    clear h3 h6 e1
    go_enter Tryd.func25, Tryd.ntmps25
    go_wp2_with fail
    go_ret
    exact ⟨rfl, HG.out, Kp.refl _ _⟩
  have g6 : ((h.m : Int) == 6) = false := beq_eq_false_iff_ne.2 (by omega)
  by_cases h7 : h.m = 7
  · as_aux_lemma =>
    have g7 : ((h.m : Int) == 7) = true := beq_iff_eq.2 (by omega)
    have e1 : rmay h y = rknown h := by unfold rmay; rw [if_neg h3, if_neg h6, if_pos h7]
    rw [e1]
    clear h3 h6 h7 e1
    go_enter Tryd.func25, Tryd.ntmps25
    go_wp2_with fail
    refine (known_any w g h vb s l HG.out hn).mono ?_
    rintro e w2 ⟨rfl, hw2⟩
    have hw3 := hw2.symm
    subst hw3
    go_wp2_with fail
    go_ret
    exact ⟨rfl, HG.out, Kp.refl _ _⟩
  · as_aux_lemma =>
    have g7 : ((h.m : Int) == 7) = false := beq_eq_false_iff_ne.2 (by omega)
    have e1 : rmay h y = true := by unfold rmay; rw [if_neg h3, if_neg h6, if_neg h7]
    rw [e1]
    clear h3 h6 h7 e1
    go_enter Tryd.func25, Tryd.ntmps25
    go_wp2_with fail
    go_ret
    exact ⟨rfl, HG.out, Kp.refl _ _⟩
/-- What fits keeps. -/
def rlink (want : Nat) (h : HR) (y : List Nat) (l : Lk) : Lk := if want = 2 ∧ h.m = 2 ∧ y.head? = some 0 then (lparse y.tail).1 else l
set_option maxRecDepth 1000000 in
theorem fits8_any (w : World) (g want : Nat) (h : HR) (vb : Value) (y : List Nat) (s : ByteArray) (l : Lk) (hg : w.heap[g]? = some (.cells (ics h vb s l) 54 (0, 0))) (hb : BSl w vb y) (hyl : y.length ≤ 140737488351232) :
    Calls Tryd.prog 26 #[.pointer (some ⟨g, 0, none⟩), .int .i64 (want : Nat)] w fun e w' => e = .returned (.bool (rfit want h y)) ∧ w'.heap[g]? = some (.cells (ics h vb s (rlink want h y l)) 54 (0, 0)) ∧ Kp (fun q => q = g) w w' := by
  have c0 : w.cell? ⟨g, 0, none⟩ = some (.int .i64 (h.m : Nat)) := blk_cell (j := 0) hg rfl
  have HG := hide hg
  have HBB := hide hb
  clear hg
  by_cases h1 : want = 1
  · as_aux_lemma =>
    have g1 : ((want : Int) == 1) = true := beq_iff_eq.2 (by omega)
    have e1 : rfit want h y = ((h.m : Int) == 3) := by
      unfold rfit
      rw [if_pos h1, Bool.eq_iff_iff]
      simp
      omega
    have e2 : rlink want h y l = l := by unfold rlink; rw [if_neg (by omega)]
    rw [e1, e2]
    clear h1 e1 e2
    go_enter Tryd.func26, Tryd.ntmps26
    go_wp2_with fail
    go_ret
    exact ⟨rfl, HG.out, Kp.refl _ _⟩
  have g1 : ((want : Int) == 1) = false := beq_eq_false_iff_ne.2 (by omega)
  by_cases h2 : want = 2
  case neg => as_aux_lemma =>
    have g2 : ((want : Int) == 2) = false := beq_eq_false_iff_ne.2 (by omega)
    have e1 : rfit want h y = true := by unfold rfit; rw [if_neg h1, if_neg h2]
    have e2 : rlink want h y l = l := by unfold rlink; rw [if_neg (by omega)]
    rw [e1, e2]
    clear h1 h2 e1 e2
    go_enter Tryd.func26, Tryd.ntmps26
    go_wp2_with fail
    go_ret
    exact ⟨rfl, HG.out, Kp.refl _ _⟩
  have g2 : ((want : Int) == 2) = true := beq_iff_eq.2 (by omega)
  obtain ⟨⟨a, cap, rfl, hn2, hc⟩, hmax, hby⟩ := hb
  have c5 : w.cell? ⟨g, 5, none⟩ = some (.slice a y.length cap) := blk_cell (j := 5) HG.out rfl
  by_cases hm : h.m = 2
  case neg => as_aux_lemma =>
    have gm : ((h.m : Int) != 2) = true := by rw [bne_iff_ne]; omega
    have e1 : rfit want h y = false := by unfold rfit; rw [if_neg h1, if_pos h2]; simp [hm]
    have e2 : rlink want h y l = l := by unfold rlink; rw [if_neg (by omega)]
    rw [e1, e2]
    clear h1 h2 e1 e2 hm
    go_enter Tryd.func26, Tryd.ntmps26
    go_wp2_with fail
    go_ret
    exact ⟨rfl, HG.out, Kp.refl _ _⟩
  have gm : ((h.m : Int) != 2) = false := by rw [bne_eq_false_iff_eq]; omega
  by_cases hy0 : y = []
  · as_aux_lemma =>
    have gl : ((y.length : Int) == 0) = true := by rw [hy0]; rfl
    have e1 : rfit want h y = false := by unfold rfit; rw [if_neg h1, if_pos h2, hy0]; simp
    have e2 : rlink want h y l = l := by unfold rlink; rw [if_neg (by rw [hy0]; simp)]
    rw [e1, e2]
    clear h1 h2 e1 e2 hm hy0 hc
    go_enter Tryd.func26, Tryd.ntmps26
    go_wp2_with fail
    go_ret
    exact ⟨rfl, HG.out, Kp.refl _ _⟩
  obtain ⟨b, off, rfl, hcc⟩ := hc.resolve_left hy0
  have hl0 : 0 < y.length := List.length_pos_iff.2 hy0
  have gl : ((y.length : Int) == 0) = false := beq_eq_false_iff_ne.2 (by omega)
  have gl2 : (0 : Int) < (y.length : Int) := by omega
  obtain ⟨x, hx0⟩ : ∃ x, y.head? = some x := by
    cases y with
    | nil => exact absurd rfl hy0
    | cons x r => exact ⟨x, rfl⟩
  have hxg : y.getD 0 0 = x := by
    cases y with
    | nil => cases hx0
    | cons z r => simpa using hx0
  have cx : w.cell? ⟨b, off, none⟩ = some (.int .u8 (x : Nat)) := by
    have h := hcc 0 hl0
    rw [hxg] at h
    simpa using h
  by_cases hx : x = 0
  case neg => as_aux_lemma =>
    have gx : ((x : Int) != 0) = true := by rw [bne_iff_ne]; omega
    have e1 : rfit want h y = false := by unfold rfit; rw [if_neg h1, if_pos h2, hx0]; simp [hx]
    have e2 : rlink want h y l = l := by unfold rlink; rw [if_neg (by rw [hx0]; simp [hx])]
    rw [e1, e2]
    clear h1 h2 e1 e2 hm hcc hn2 hx hy0 hx0 hxg
    go_enter Tryd.func26, Tryd.ntmps26
    go_wp2_with fail
    go_ret
    exact ⟨rfl, HG.out, Kp.refl _ _⟩
  have gx : ((x : Int) != 0) = false := by rw [bne_eq_false_iff_eq]; omega
  have HNN := hide hn2
  have HD := hide (bsl_drop8 (k := 1) HBB.out hl0)
  have htl : y.drop 1 = y.tail := List.drop_one
  rw [htl] at HD
  have HRF : Hid (rfit want h y = decide ((lparse y.tail).2 = 0)) := by
    show _ = _
    unfold rfit
    rw [if_neg h1, if_pos h2, hx0, hx]
    simp [hm]
  have HRL : Hid (rlink want h y l = (lparse y.tail).1) := by
    show _ = _
    unfold rlink
    rw [if_pos ⟨h2, hm, by rw [hx0, hx]⟩]
  have HL0 := hide hl0
  have HEE : Hid (decide ((lparse y.tail).2 = 0) = (((lparse y.tail).2 : Int) == 0)) := by
    show _ = _
    rw [Bool.eq_iff_iff]
    simp
  rw [HRF.out, HRL.out, HEE.out]
  clear h1 h2 hm hcc hn2 hx hy0 hx0 hxg hl0 htl HRF HRL HEE
  go_enter Tryd.func26, Tryd.ntmps26
  go_wp2_with (refine wpList_exec rfl (exec_drop (k := 1) rfl rfl rfl HL0.out HNN.out.1 HNN.out.2) ?_)
  refine (parse4_any w _ y.tail HD.out).mono ?_
  rintro e w1 ⟨rfl, hb1⟩
  have HG1 : Hid (w1.heap[g]? = some (.cells (ics h (.slice (some ⟨b, off, none⟩) y.length cap) s l) 54 (0, 0))) := (hb1.block _ (blk_lt HG.out)).trans HG.out
  have HB1 := hide hb1
  clear hb1 c0 c5 cx
  generalize hpr : lparse y.tail = pr at *
  have HPR := hide hpr
  clear hpr
  obtain ⟨⟨lv, lc, lh, ld⟩, er⟩ := pr
  have HG2 := hide (blk_alloc (.cells #[.int .i64 lv, .int .u64 (lc : Nat), .int .u64 (lh : Nat), .string (nstr ld)] 36) HG1.out)
  have HK2 : Hid (Kp (fun q => q = g) w (w1.alloc (.cells #[.int .i64 lv, .int .u64 (lc : Nat), .int .u64 (lh : Nat), .string (nstr ld)] 36))) := (Kp.of_below HB1.out).alloc _
  have HI4 : Hid ((Tryd.prog.info? 36).map (·.size) = some [Value.int .i64 lv, .int .u64 (lc : Nat), .int .u64 (lh : Nat), .string (nstr ld)].length) := info61
  simp only [lkv]
  clear HG HBB HD
  go_wp2_with (refine wpList_storePart rfl rfl g 7 (ics h (.slice (some ⟨b, off, none⟩) y.length cap) s l).toList [.int .i64 lv, .int .u64 (lc : Nat), .int .u64 (lh : Nat), .string (nstr ld)] 54 rfl rfl HG2.out HI4.out (by simp [ics]) (by simp [Value.oneCell']) ?_)
  intro w3 HG3 HK3
  have HG4 : Hid (w3.heap[g]? = some (.cells (ics h (.slice (some ⟨b, off, none⟩) y.length cap) s ⟨lv, lc, lh, ld⟩) 54 (0, 0))) := HG3
  clear HG3
  go_wp2_with fail
  go_ret
  exact ⟨by rw [HPR.out]; rfl, by rw [HPR.out]; exact HG4.out, HK2.out.trans HK3.out (fun _ _ h => h)⟩
end
section
open Go.RowKit Go
/-- A list or a map that is open: its kind, keys, items, how many are wanted. -/
structure Nst where
  k : Int
  ks : List ByteArray
  is : List Tv
  n : Nat
def Nst.val (x : Nst) : Tv := .mk x.k false false 0 0 ⟨#[]⟩ [] ⟨0, 0, 0, []⟩ x.ks x.is
def tz8 (k : Int) : Tv := .mk k false false 0 0 ⟨#[]⟩ [] ⟨0, 0, 0, []⟩ [] []
/-- The tree that an item is which has no items and no name. -/
def rleaf (h : HR) (y : List Nat) : Tv :=
  if h.m = 0 ∨ h.m = 1 then .mk 3 false (decide (h.m = 1)) h.n 0 ⟨#[]⟩ [] ⟨0, 0, 0, []⟩ [] []
  else if h.m = 2 then .mk 6 false false 0 0 ⟨#[]⟩ y ⟨0, 0, 0, []⟩ [] []
  else if h.m = 3 then .mk 5 false false 0 0 (nstr y) [] ⟨0, 0, 0, []⟩ [] []
  else if h.i = 27 then .mk 4 false false 0 h.n ⟨#[]⟩ [] ⟨0, 0, 0, []⟩ [] []
  else if h.i = 22 then tz8 1
  else .mk 2 (decide (h.i = 21)) false 0 0 ⟨#[]⟩ [] ⟨0, 0, 0, []⟩ [] []
/-- What is gone on with. -/
inductive Lab where
  | plain | name | done (v : Tv) | inside
structure Mst where
  lab : Lab
  p : Nat
  st : List Nst
/-- The answer: its code, its place, its tree. -/
structure Res where
  e : Nat
  p : Nat
  v : Tv
def mstep (b : List Nat) (d : Nat) (s : Mst) : Mst ⊕ Res :=
  match s.lab with
  | .plain =>
    if rtake 0 (decide (s.st.length = d)) [] (b.drop s.p) ≠ 0 then .inr ⟨rtake 0 (decide (s.st.length = d)) [] (b.drop s.p), s.p, tz8 0⟩
    else if (hrd (b.drop s.p)).m = 6 then .inl ⟨.name, s.p + rused (b.drop s.p), s.st⟩
    else if (hrd (b.drop s.p)).m = 4 then .inl ⟨.inside, s.p + rused (b.drop s.p), ⟨8, [], [], (hrd (b.drop s.p)).n⟩ :: s.st⟩
    else if (hrd (b.drop s.p)).m = 5 then .inl ⟨.inside, s.p + rused (b.drop s.p), ⟨9, [], [], (hrd (b.drop s.p)).n⟩ :: s.st⟩
    else .inl ⟨.done (rleaf (hrd (b.drop s.p)) (rbody (b.drop s.p))), s.p + rused (b.drop s.p), s.st⟩
  | .name =>
    if rtake 2 (decide (s.st.length = d)) [] (b.drop s.p) ≠ 0 then .inr ⟨rtake 2 (decide (s.st.length = d)) [] (b.drop s.p), s.p, tz8 0⟩
    else .inl ⟨.done (.mk 7 false false 0 0 ⟨#[]⟩ [] (lparse (rbody (b.drop s.p)).tail).1 [] []), s.p + rused (b.drop s.p), s.st⟩
  | .done v =>
    match s.st with
    | [] => .inr ⟨0, s.p, v⟩
    | x :: q => .inl ⟨.inside, s.p, ⟨x.k, x.ks, x.is ++ [v], x.n - 1⟩ :: q⟩
  | .inside =>
    match s.st with
    | [] => .inr ⟨0, s.p, tz8 0⟩
    | x :: q =>
      if x.n = 0 then .inl ⟨.done x.val, s.p, q⟩
      else if x.k = 8 then .inl ⟨.plain, s.p, s.st⟩
      else if rtake 1 (decide (s.st.length = d)) x.ks (b.drop s.p) ≠ 0 then .inr ⟨rtake 1 (decide (s.st.length = d)) x.ks (b.drop s.p), s.p, tz8 0⟩
      else .inl ⟨.plain, s.p + rused (b.drop s.p), ⟨x.k, x.ks ++ [nstr (rbody (b.drop s.p))], x.is, x.n⟩ :: q⟩
def mrun (b : List Nat) (d : Nat) : Nat → Mst → Option Res
  | 0, _ => none
  | n + 1, s => match mstep b d s with
    | .inl s' => mrun b d n s'
    | .inr r => some r
theorem mrun_next {b : List Nat} {d n : Nat} {s s' : Mst} (h : mstep b d s = .inl s') : mrun b d (n + 1) s = mrun b d n s' := by rw [mrun, h]
theorem mrun_end {b : List Nat} {d n : Nat} {s : Mst} {r : Res} (h : mstep b d s = .inr r) : mrun b d (n + 1) s = some r := by rw [mrun, h]
theorem mrun_more {b : List Nat} {d : Nat} : ∀ {n m : Nat} {s : Mst} {r : Res}, n ≤ m → mrun b d n s = some r → mrun b d m s = some r
  | 0, _, _, _, _, h => by cases h
  | n + 1, 0, _, _, hm, _ => by omega
  | n + 1, m + 1, s, r, hm, h => by
    cases hs : mstep b d s with
    | inl s' =>
      rw [mrun_next hs] at h ⊢
      exact mrun_more (by omega) h
    | inr r' =>
      rw [mrun_end hs] at h ⊢
      exact h
theorem mrun_one {b : List Nat} {d n m : Nat} {s : Mst} {r r' : Res} (h : mrun b d n s = some r) (h' : mrun b d m s = some r') : r = r' := by
  have h1 := mrun_more (Nat.le_max_left n m) h
  have h2 := mrun_more (Nat.le_max_right n m) h'
  rw [h1] at h2
  injection h2
theorem rtake_app {want : Nat} {full : Bool} {ks : List ByteArray} {b tl : List Nat} (h : rtake want full ks b ≠ 82) (hne : b ≠ [] ∨ True) : rtake want full ks (b ++ tl) = rtake want full ks b ∧ (rtake want full ks b = 0 → rbody (b ++ tl) = rbody b ∧ hrd (b ++ tl) = hrd b ∧ rused (b ++ tl) = rused b ∧ rused b ≤ b.length) := by
  cases b with
  | nil => exact absurd (by cases full <;> rfl) h
  | cons x r =>
    have en : rnest (x :: r ++ tl) = rnest (x :: r) := rfl
    unfold rtake at h ⊢
    rw [en]
    by_cases h1 : rnest (x :: r) = true ∧ full = true
    · rw [if_pos h1, if_pos h1]
      exact ⟨rfl, fun h => by cases h⟩
    · rw [if_neg h1] at h
      rw [if_neg h1, if_neg h1]
      have h2 : rlook want (x :: r) ≠ 82 := fun e => by
        rw [if_pos (by rw [e]; decide)] at h
        exact h e
      obtain ⟨e1, e2⟩ := rlook_app (tl := tl) h2
      rw [e1]
      by_cases h3 : rlook want (x :: r) ≠ 0
      · rw [if_pos h3, if_pos h3]
        exact ⟨rfl, fun e => absurd e h3⟩
      · have h4 : rlook want (x :: r) = 0 := Decidable.not_not.1 h3
        obtain ⟨f1, f2, f3⟩ := e2 h4
        rw [if_neg h3, if_neg h3, f2, f1]
        refine ⟨rfl, fun _ => ⟨rfl, rfl, ?_, f3⟩⟩
        unfold rused
        rw [f1, f2]
theorem rtake_look {want : Nat} {full : Bool} {ks : List ByteArray} {b : List Nat} (h : rtake want full ks b = 0) : rlook want b = 0 ∧ ¬ (rnest b = true ∧ full = true) := by
  unfold rtake at h
  by_cases h1 : rnest b = true ∧ full = true
  · rw [if_pos h1] at h; cases h
  rw [if_neg h1] at h
  by_cases h2 : rlook want b ≠ 0
  · rw [if_pos h2] at h; exact absurd h h2
  exact ⟨Decidable.not_not.1 h2, h1⟩
/-- The step, with something behind the bytes. -/
theorem mstep_app {b tl : List Nat} {d : Nat} {s : Mst} (hp : s.p ≤ b.length) : (∀ s', mstep b d s = .inl s' → mstep (b ++ tl) d s = .inl s' ∧ s'.p ≤ b.length ∧ s.p ≤ s'.p) ∧ (∀ r, mstep b d s = .inr r → r.p = s.p ∧ (r.e ≠ 82 → mstep (b ++ tl) d s = .inr r)) := by
  obtain ⟨lab, p, st⟩ := s
  simp only at hp
  have hd : (b ++ tl).drop p = b.drop p ++ tl := List.drop_append_of_le_length hp
  have hl : (b.drop p).length = b.length - p := List.length_drop
  have key : ∀ want ks, (rtake want (decide (st.length = d)) ks (b.drop p) ≠ 82 → rtake want (decide (st.length = d)) ks (b.drop p ++ tl) = rtake want (decide (st.length = d)) ks (b.drop p)) ∧ (rtake want (decide (st.length = d)) ks (b.drop p) = 0 → rbody (b.drop p ++ tl) = rbody (b.drop p) ∧ hrd (b.drop p ++ tl) = hrd (b.drop p) ∧ rused (b.drop p ++ tl) = rused (b.drop p) ∧ p + rused (b.drop p) ≤ b.length) := fun want ks => by
    refine ⟨fun h => (rtake_app h (.inr trivial)).1, fun h => ?_⟩
    obtain ⟨a1, a2, a3, a4⟩ := (rtake_app (tl := tl) (by rw [h]; decide) (.inr trivial)).2 h
    exact ⟨a1, a2, a3, by omega⟩
  cases lab with
  | plain =>
    obtain ⟨k1, k2⟩ := key 0 []
    unfold mstep
    simp only [hd]
    by_cases h0 : rtake 0 (decide (st.length = d)) [] (b.drop p) ≠ 0
    · rw [if_pos h0]
      refine ⟨fun s' h => (by cases h), fun r h => ?_⟩
      injection h with h
      subst h
      exact ⟨rfl, fun he => by rw [k1 he, if_pos h0]⟩
    · have h1 : rtake 0 (decide (st.length = d)) [] (b.drop p) = 0 := Decidable.not_not.1 h0
      obtain ⟨a1, a2, a3, a4⟩ := k2 h1
      rw [if_neg h0, k1 (by rw [h1]; decide), if_neg h0, a1, a2, a3]
      refine ⟨fun s' h => ⟨h, ?_⟩, fun r h => ?_⟩
      · revert h
        repeat' split
        all_goals (intro h; injection h with h; subst h; exact ⟨a4, Nat.le_add_right _ _⟩)
      · revert h
        repeat' split
        all_goals (intro h; cases h)
  | name =>
    obtain ⟨k1, k2⟩ := key 2 []
    unfold mstep
    simp only [hd]
    by_cases h0 : rtake 2 (decide (st.length = d)) [] (b.drop p) ≠ 0
    · rw [if_pos h0]
      refine ⟨fun s' h => (by cases h), fun r h => ?_⟩
      injection h with h
      subst h
      exact ⟨rfl, fun he => by rw [k1 he, if_pos h0]⟩
    · have h1 : rtake 2 (decide (st.length = d)) [] (b.drop p) = 0 := Decidable.not_not.1 h0
      obtain ⟨a1, a2, a3, a4⟩ := k2 h1
      rw [if_neg h0, k1 (by rw [h1]; decide), if_neg h0, a1, a3]
      refine ⟨fun s' h => ⟨h, ?_⟩, fun r h => by cases h⟩
      injection h with h
      subst h
      exact ⟨a4, Nat.le_add_right _ _⟩
  | done v =>
    cases st with
    | nil =>
      refine ⟨fun s' h => (by cases h), fun r h => ⟨?_, fun _ => h⟩⟩
      injection h with h
      subst h
      rfl
    | cons x q =>
      refine ⟨fun s' h => ⟨h, ?_⟩, fun r h => by cases h⟩
      injection h with h
      subst h
      exact ⟨hp, Nat.le_refl _⟩
  | inside =>
    cases st with
    | nil =>
      refine ⟨fun s' h => (by cases h), fun r h => ⟨?_, fun _ => h⟩⟩
      injection h with h
      subst h
      rfl
    | cons x q =>
      obtain ⟨k1, k2⟩ := key 1 x.ks
      unfold mstep
      simp only [hd]
      by_cases hn : x.n = 0
      · rw [if_pos hn, if_pos hn]
        refine ⟨fun s' h => ⟨h, ?_⟩, fun r h => by cases h⟩
        injection h with h
        subst h
        exact ⟨hp, Nat.le_refl _⟩
      rw [if_neg hn, if_neg hn]
      by_cases h8 : x.k = 8
      · rw [if_pos h8, if_pos h8]
        refine ⟨fun s' h => ⟨h, ?_⟩, fun r h => by cases h⟩
        injection h with h
        subst h
        exact ⟨hp, Nat.le_refl _⟩
      rw [if_neg h8, if_neg h8]
      by_cases h0 : rtake 1 (decide ((x :: q).length = d)) x.ks (b.drop p) ≠ 0
      · rw [if_pos h0]
        refine ⟨fun s' h => (by cases h), fun r h => ?_⟩
        injection h with h
        subst h
        exact ⟨rfl, fun he => by rw [k1 he, if_pos h0]⟩
      · have h1 : rtake 1 (decide ((x :: q).length = d)) x.ks (b.drop p) = 0 := Decidable.not_not.1 h0
        obtain ⟨a1, a2, a3, a4⟩ := k2 h1
        rw [if_neg h0, k1 (by rw [h1]; decide), if_neg h0, a1, a3]
        refine ⟨fun s' h => ⟨h, ?_⟩, fun r h => by cases h⟩
        injection h with h
        subst h
        exact ⟨a4, Nat.le_add_right _ _⟩
theorem mrun_at {b : List Nat} {d : Nat} : ∀ {n : Nat} {s : Mst} {r : Res}, s.p ≤ b.length → mrun b d n s = some r → s.p ≤ r.p ∧ r.p ≤ b.length
  | 0, _, _, _, h => by cases h
  | n + 1, s, r, hp, h => by
    obtain ⟨h1, h2⟩ := mstep_app (tl := []) (d := d) hp
    cases hs : mstep b d s with
    | inl s' =>
      rw [mrun_next hs] at h
      obtain ⟨_, a1, a2⟩ := h1 s' hs
      obtain ⟨a3, a4⟩ := mrun_at a1 h
      exact ⟨Nat.le_trans a2 a3, a4⟩
    | inr r' =>
      rw [mrun_end hs] at h
      injection h with h
      subst h
      rw [(h2 r' hs).1]
      exact ⟨Nat.le_refl _, hp⟩
/-- A fault that is not too short does not hang on what stands behind; one that is comes no earlier then. -/
theorem mrun_app {b tl : List Nat} {d : Nat} : ∀ {n : Nat} {s : Mst} {r : Res}, s.p ≤ b.length → mrun b d n s = some r → (r.e ≠ 82 → mrun (b ++ tl) d n s = some r) ∧ (∀ m r', mrun (b ++ tl) d m s = some r' → r.p ≤ r'.p)
  | 0, _, _, _, h => by cases h
  | n + 1, s, r, hp, h => by
    obtain ⟨h1, h2⟩ := mstep_app (tl := tl) (d := d) hp
    cases hs : mstep b d s with
    | inl s' =>
      rw [mrun_next hs] at h
      obtain ⟨a0, a1, a2⟩ := h1 s' hs
      obtain ⟨c1, c2⟩ := mrun_app (tl := tl) a1 h
      refine ⟨fun he => by rw [mrun_next a0]; exact c1 he, fun m r' hm => ?_⟩
      cases m with
      | zero => cases hm
      | succ m =>
        rw [mrun_next a0] at hm
        exact c2 m r' hm
    | inr r' =>
      rw [mrun_end hs] at h
      injection h with h
      subst h
      obtain ⟨a1, a2⟩ := h2 r' hs
      refine ⟨fun he => mrun_end (a2 he), fun m r'' hm => ?_⟩
      rw [a1]
      exact (mrun_at (b := b ++ tl) (by rw [List.length_append]; omega) hm).1
end
section
open Go.RowKit Go
theorem rlook_e {want : Nat} {b : List Nat} (h : rlook want b = 0) : (hrd b).e = 0 := by
  unfold rlook at h
  by_cases h1 : (hrd b).e = 20
  · rw [if_pos h1] at h; cases h
  rw [if_neg h1] at h
  by_cases h2 : (hrd b).e ≠ 0 ∨ (hrd b).i = 31
  · rw [if_pos h2] at h; cases h
  rcases Nat.decEq (hrd b).e 0 with h3 | h3
  · exact absurd (.inl h3) h2
  · exact h3
theorem hrd_m {x : Nat} {r : List Nat} (h : (hrd (x :: r)).e = 0) : (hrd (x :: r)).m = x / 32 := by
  by_cases h1 : 27 < x % 32
  · by_cases h2 : x % 32 = 31 ∧ x / 32 ≠ 0 ∧ x / 32 ≠ 1 ∧ x / 32 ≠ 6
    · rw [hrd_end h2.1 h2.2]
    · rw [hrd_info h1 h2] at h; cases h
  · by_cases h2 : x % 32 < 24
    · rw [hrd_small h2]
    · by_cases h3 : r.length < hwide (x % 32)
      · rw [hrd_short (by omega) (by omega) h3] at h; cases h
      · by_cases h4 : x / 32 = 7 ∧ x % 32 = 24 ∧ bnum 0 (r.take (hwide (x % 32))) < 32
        · rw [hrd_low h4.2.1 h3 h4.1 h4.2.2] at h; cases h
        · rw [hrd_long (by omega) (by omega) h3 h4]
theorem rnest_of {b : List Nat} (h : (hrd b).e = 0) (hm : (hrd b).m = 4 ∨ (hrd b).m = 5) : rnest b = true := by
  cases b with
  | nil => cases h
  | cons x r =>
    rw [hrd_m h] at hm
    exact decide_eq_true hm
theorem rtake_deep {want : Nat} {full full' : Bool} {ks : List ByteArray} {b : List Nat} (hf : full' = true → full = true) (h : rtake want full ks b ≠ 81) : rtake want full' ks b = rtake want full ks b := by
  have h1 : ¬ (rnest b = true ∧ full = true) := fun e => h (by unfold rtake; rw [if_pos e])
  have h2 : ¬ (rnest b = true ∧ full' = true) := fun e => h1 ⟨e.1, hf e.2⟩
  unfold rtake
  rw [if_neg h1, if_neg h2]
theorem mstep_deep {b : List Nat} {d d' : Nat} {s : Mst} (hs : s.st.length ≤ d) (hd : d ≤ d') : (∀ s', mstep b d s = .inl s' → mstep b d' s = .inl s' ∧ s'.st.length ≤ d) ∧ (∀ r, mstep b d s = .inr r → r.p = s.p ∧ (r.e ≠ 81 → mstep b d' s = .inr r)) := by
  obtain ⟨lab, p, st⟩ := s
  simp only at hs
  have hf : decide (st.length = d') = true → decide (st.length = d) = true := fun h => by
    rw [decide_eq_true_eq] at h ⊢
    omega
  have key : ∀ want ks, rtake want (decide (st.length = d)) ks (b.drop p) ≠ 81 → rtake want (decide (st.length = d')) ks (b.drop p) = rtake want (decide (st.length = d)) ks (b.drop p) := fun want ks h => rtake_deep hf h
  cases lab with
  | plain =>
    have k1 := key 0 []
    unfold mstep
    by_cases h0 : rtake 0 (decide (st.length = d)) [] (b.drop p) ≠ 0
    · simp only [if_pos h0]
      refine ⟨fun s' h => (by cases h), fun r h => ?_⟩
      injection h with h
      subst h
      exact ⟨rfl, fun he => by rw [k1 he, if_pos h0]⟩
    · have h1 : rtake 0 (decide (st.length = d)) [] (b.drop p) = 0 := Decidable.not_not.1 h0
      obtain ⟨hl, hn⟩ := rtake_look h1
      have hlt : (hrd (b.drop p)).m = 4 ∨ (hrd (b.drop p)).m = 5 → st.length + 1 ≤ d := fun hm => by
        have h2 := rnest_of (rlook_e hl) hm
        have h3 : ¬ st.length = d := fun e => hn ⟨h2, decide_eq_true e⟩
        omega
      simp only [if_neg h0, k1 (by rw [h1]; decide)]
      refine ⟨fun s' h => ⟨h, ?_⟩, fun r h => ?_⟩
      · revert h
        by_cases m6 : (hrd (b.drop p)).m = 6
        · rw [if_pos m6]; intro h; injection h with h; subst h; exact hs
        rw [if_neg m6]
        by_cases m4 : (hrd (b.drop p)).m = 4
        · rw [if_pos m4]; intro h; injection h with h; subst h; exact hlt (.inl m4)
        rw [if_neg m4]
        by_cases m5 : (hrd (b.drop p)).m = 5
        · rw [if_pos m5]; intro h; injection h with h; subst h; exact hlt (.inr m5)
        rw [if_neg m5]
        intro h; injection h with h; subst h; exact hs
      · revert h
        repeat' split
        all_goals (intro h; cases h)
  | name =>
    have k1 := key 2 []
    unfold mstep
    by_cases h0 : rtake 2 (decide (st.length = d)) [] (b.drop p) ≠ 0
    · simp only [if_pos h0]
      refine ⟨fun s' h => (by cases h), fun r h => ?_⟩
      injection h with h
      subst h
      exact ⟨rfl, fun he => by rw [k1 he, if_pos h0]⟩
    · have h1 : rtake 2 (decide (st.length = d)) [] (b.drop p) = 0 := Decidable.not_not.1 h0
      simp only [if_neg h0, k1 (by rw [h1]; decide)]
      refine ⟨fun s' h => ⟨h, ?_⟩, fun r h => by cases h⟩
      injection h with h
      subst h
      exact hs
  | done v =>
    cases st with
    | nil =>
      refine ⟨fun s' h => (by cases h), fun r h => ⟨?_, fun _ => h⟩⟩
      injection h with h
      subst h
      rfl
    | cons x q =>
      refine ⟨fun s' h => ⟨h, ?_⟩, fun r h => by cases h⟩
      injection h with h
      subst h
      exact hs
  | inside =>
    cases st with
    | nil =>
      refine ⟨fun s' h => (by cases h), fun r h => ⟨?_, fun _ => h⟩⟩
      injection h with h
      subst h
      rfl
    | cons x q =>
      have k1 := key 1 x.ks
      unfold mstep
      dsimp only
      by_cases hn : x.n = 0
      · rw [if_pos hn, if_pos hn]
        refine ⟨fun s' h => ⟨h, ?_⟩, fun r h => by cases h⟩
        injection h with h
        subst h
        exact Nat.le_of_succ_le hs
      rw [if_neg hn, if_neg hn]
      by_cases h8 : x.k = 8
      · rw [if_pos h8, if_pos h8]
        refine ⟨fun s' h => ⟨h, ?_⟩, fun r h => by cases h⟩
        injection h with h
        subst h
        exact hs
      rw [if_neg h8, if_neg h8]
      by_cases h0 : rtake 1 (decide ((x :: q).length = d)) x.ks (b.drop p) ≠ 0
      · rw [if_pos h0]
        refine ⟨fun s' h => (by cases h), fun r h => ?_⟩
        injection h with h
        subst h
        exact ⟨rfl, fun he => by rw [k1 he, if_pos h0]⟩
      · have h1 : rtake 1 (decide ((x :: q).length = d)) x.ks (b.drop p) = 0 := Decidable.not_not.1 h0
        rw [if_neg h0, k1 (by rw [h1]; decide), if_neg h0]
        refine ⟨fun s' h => ⟨h, ?_⟩, fun r h => by cases h⟩
        injection h with h
        subst h
        exact hs
/-- A greater depth changes no fault but the one that is too deep, and that one comes no earlier. -/
theorem mrun_deep {b : List Nat} {d d' : Nat} (hd : d ≤ d') : ∀ {n : Nat} {s : Mst} {r : Res}, s.p ≤ b.length → s.st.length ≤ d → mrun b d n s = some r → (r.e ≠ 81 → mrun b d' n s = some r) ∧ (∀ m r', mrun b d' m s = some r' → r.p ≤ r'.p)
  | 0, _, _, _, _, h => by cases h
  | n + 1, s, r, hp, hs, h => by
    obtain ⟨h1, h2⟩ := mstep_deep (b := b) hs hd
    obtain ⟨g1, _⟩ := mstep_app (tl := []) (d := d) hp
    cases hst : mstep b d s with
    | inl s' =>
      rw [mrun_next hst] at h
      obtain ⟨a0, a1⟩ := h1 s' hst
      obtain ⟨_, a2, _⟩ := g1 s' hst
      obtain ⟨c1, c2⟩ := mrun_deep hd a2 a1 h
      refine ⟨fun he => by rw [mrun_next a0]; exact c1 he, fun m r' hm => ?_⟩
      cases m with
      | zero => cases hm
      | succ m =>
        rw [mrun_next a0] at hm
        exact c2 m r' hm
    | inr r' =>
      rw [mrun_end hst] at h
      injection h with h
      subst h
      obtain ⟨a1, a2⟩ := h2 r' hst
      refine ⟨fun he => mrun_end (a2 he), fun m r'' hm => ?_⟩
      rw [a1]
      exact (mrun_at hp hm).1
/-- Where reading begins. -/
def m0 : Mst := ⟨.plain, 0, []⟩
/-- Decode's fault out of First's answer. -/
def dflt (b : List Nat) (r : Res) : Nat × Nat := if r.e = 0 then (if r.p < b.length then (85, r.p) else (0, 0)) else (r.e, r.p)
theorem steady_tail {b tl : List Nat} {d n m : Nat} {r g : Res} (hr : mrun b d n m0 = some r) (hg : mrun (b ++ tl) d m m0 = some g) :
    ((dflt b r).1 = 0 → tl ≠ [] → dflt (b ++ tl) g = (85, b.length)) ∧ ((dflt b r).1 = 82 → (dflt (b ++ tl) g).1 ≠ 0 → (dflt b r).2 ≤ (dflt (b ++ tl) g).2) ∧ ((dflt b r).1 ≠ 0 → (dflt b r).1 ≠ 82 → dflt (b ++ tl) g = dflt b r) := by
  obtain ⟨c1, c2⟩ := mrun_app (tl := tl) (Nat.zero_le _ : m0.p ≤ b.length) hr
  have hat := (mrun_at (Nat.zero_le _ : m0.p ≤ b.length) hr).2
  have hsame : r.e ≠ 82 → g = r := fun h => mrun_one hg (c1 h)
  have hle := c2 m g hg
  unfold dflt
  by_cases h0 : r.e = 0
  · have e := hsame (by rw [h0]; decide)
    subst e
    rw [if_pos h0, if_pos h0]
    by_cases hp : g.p < b.length
    · rw [if_pos hp, if_pos (by rw [List.length_append]; omega)]
      exact ⟨fun h => (by cases h), fun h => (by cases h), fun _ _ => rfl⟩
    · rw [if_neg hp]
      refine ⟨fun _ ht => ?_, (fun h => by cases h), fun h => absurd rfl h⟩
      have hl : 0 < tl.length := List.length_pos_iff.2 ht
      rw [if_pos (by rw [List.length_append]; omega)]
      have : g.p = b.length := by omega
      rw [this]
  · rw [if_neg h0]
    refine ⟨fun h => absurd h h0, fun h1 h2 => ?_, fun _ h2 => ?_⟩
    · by_cases g0 : g.e = 0
      · rw [if_pos g0] at h2 ⊢
        by_cases hp : g.p < (b ++ tl).length
        · rw [if_pos hp]; exact hle
        · rw [if_neg hp] at h2; exact absurd rfl h2
      · rw [if_neg g0]; exact hle
    · have e := hsame h2
      subst e
      rw [if_neg h0]
theorem steady_deep {b : List Nat} {d d' n m : Nat} {r h : Res} (hd : d ≤ d') (hr : mrun b d n m0 = some r) (hh : mrun b d' m m0 = some h) :
    ((dflt b r).1 ≠ 81 → dflt b h = dflt b r) ∧ ((dflt b r).1 = 81 → (dflt b h).1 ≠ 0 → (dflt b r).2 ≤ (dflt b h).2) := by
  obtain ⟨c1, c2⟩ := mrun_deep hd (Nat.zero_le _ : m0.p ≤ b.length) (Nat.zero_le _) hr
  have hle := c2 m h hh
  constructor
  · intro h1
    have : r.e ≠ 81 := fun e => h1 (by unfold dflt; rw [if_neg (by rw [e]; decide)]; exact e)
    rw [mrun_one hh (c1 this)]
  · intro h1 h2
    have e : r.e = 81 := by
      unfold dflt at h1
      by_cases h0 : r.e = 0
      · rw [if_pos h0] at h1
        split at h1 <;> cases h1
      · rw [if_neg h0] at h1
        exact h1
    unfold dflt at h2 ⊢
    rw [if_neg (show r.e ≠ 0 by rw [e]; decide)]
    by_cases g0 : h.e = 0
    · rw [if_pos g0] at h2 ⊢
      by_cases hp : h.p < b.length
      · rw [if_pos hp]; exact hle
      · rw [if_neg hp] at h2; exact absurd rfl h2
    · rw [if_neg g0]; exact hle
end
end Go.Proofs.YtadilnmkjcmnnaaDoor
