import Derived.Test.YtmcamdcgnegmmaaGreatDoorJa
import Derived.Laws.CopyRow
import Derived.Laws.ResultCell
import Derived.Deep.QuietTactic
import Derived.Laws.StructEq
import Derived.SliceStrings
import Derived.Lib.SmallJoins
import Derived.Laws.Externs
import Derived.Laws.Bits64
import Derived.Laws.FloatArith
import Derived.Laws.NewFold
import Derived.Deep.RegionHeld
import Derived.BigQuiet
import Derived.Deep.RegionWith
import Derived.Deep.LoopGhost
import Derived.Deep.DeepCutAuto
set_option maxRecDepth 1000000
set_option maxHeartbeats 16000000
namespace Go.Proofs.YtmcamdcgnegmmaaGreatDoor
section
open Go.RowKit Go
theorem lthird_back {v : Int} {c a n : Nat} {b : List Nat} {l : Lk} (h : lthird v c a b = (l, n, 0)) : okd l.h l.d ∧ l.v = v ∧ l.c = c ∧ a ≤ n ∧ n - a ≤ (b.drop a).length ∧ l.h :: l.d.length :: l.d = (b.drop a).take (n - a) := by
  unfold lthird at h
  split at h
  · rename_i h0
    simp only [Prod.mk.injEq] at h
    obtain ⟨h1, h2, _⟩ := h
    have hb := dread_back h0
    have hk : okd (dread (b.drop a)).1 (dread (b.drop a)).2.1 := dlay_okd.1 (by rw [hb.2.1])
    have hd := dlay_ok hk
    rw [hd] at hb
    subst h1
    have e : n - a = (dread (b.drop a)).2.2.1 := by omega
    refine ⟨hk, rfl, rfl, by omega, by omega, ?_⟩
    rw [e]
    exact congrArg Prod.fst hb.2.1
  · rename_i h0
    simp only [Prod.mk.injEq] at h
    have := h.2.2
    unfold lerr at this
    split at this <;> omega
theorem lfirst_back {b : List Nat} {l : Lk} {n : Nat} (hb : ∀ x ∈ b, x < 256) (h : lfirst b = (l, n, 0)) : lok l ∧ n ≤ b.length ∧ lbytes l = b.take n := by
  unfold lfirst at h
  split at h
  · rename_i h18
    obtain ⟨hk, hv, hc, _, hn, he⟩ := lthird_back h
    rw [List.drop_zero, Nat.sub_zero] at hn he
    have hh : l.h = 18 := by
      cases b with
      | nil => simp at h18
      | cons x b =>
        simp at h18
        subst h18
        cases n with
        | zero => simp at he
        | succ n =>
          rw [List.take_succ_cons] at he
          injection he
    have hd : l.d.length = 32 := by
      rcases hk with h1 | h1
      · exact h1.2
      · omega
    refine ⟨.inl ⟨hv, hc, hh, hd⟩, hn, ?_⟩
    unfold lbytes
    rw [if_pos hv]
    exact he
  · split at h
    · simp at h
    · rename_i hn1
      split at h
      · simp at h
      · rename_i hv1
        split at h
        · simp at h
        · rename_i hn2
          generalize hd1 : dnum b = r1 at *
          obtain ⟨v1, u1, e1⟩ := r1
          simp only [ne_eq, Decidable.not_not] at hn1 hv1 hn2 h
          subst hn1
          subst hv1
          generalize hd2 : dnum (b.drop u1) = r2 at *
          obtain ⟨c2, u2, e2⟩ := r2
          simp only at hn2 h
          subst hn2
          have d1 := dnum_back hb hd1
          have d2 := dnum_back (fun x hx => hb x (List.mem_of_mem_drop hx)) hd2
          obtain ⟨hk, hv, hc, ha, hn, he⟩ := lthird_back h
          have f1 : u1 = 1 := by
            have := congrArg List.length d1.2.2
            rw [digs_small (by decide), List.length_take] at this
            simp at this
            omega
          rw [List.length_drop] at d2 hn
          refine ⟨.inr ⟨hv, by rw [hc]; exact d2.1, hk⟩, by omega, ?_⟩
          unfold lbytes
          rw [if_neg (by rw [hv]; decide), hc, he, d2.2.2]
          have g1 : [1] = b.take u1 := by rw [← d1.2.2, digs_small (by decide)]
          have g2 : (1 : Nat) :: (b.drop u1).take u2 = b.take (u1 + u2) := by
            rw [List.take_add, ← g1]
            rfl
          rw [g2]
          have g3 : b.take n = b.take ((u1 + u2) + (n - (u1 + u2))) := by
            congr 1
            omega
          rw [g3, List.take_add (i := u1 + u2)]
theorem lparse_back {b : List Nat} {l : Lk} (hb : ∀ x ∈ b, x < 256) (h : lparse b = (l, 0)) : lok l ∧ lbytes l = b := by
  unfold lparse at h
  split at h
  · rename_i h0
    simp only [Prod.mk.injEq] at h
    exact absurd h.2 h0
  · split at h
    · simp at h
    · rename_i h0 h1
      simp only [Prod.mk.injEq, and_true] at h
      simp only [ne_eq, Decidable.not_not] at h0
      have e : lfirst b = (l, (lfirst b).2.1, 0) := by
        rw [← h, ← h0]
      obtain ⟨h2, h3, h4⟩ := lfirst_back hb e
      refine ⟨h2, ?_⟩
      rw [h4, List.take_of_length_le (by omega)]
theorem lbytes_len {l : Lk} (h : lok l) : (lbytes l).length ≤ 76 := by
  have hk := lok_okd h
  have hd := digs_len 9 l.c
  unfold lbytes
  unfold okd at hk
  split
  · simp
    omega
  · simp
    omega
end
section
open Go.RowKit Go
theorem lbytes_byte {l : Lk} (h : lok l) (hd : ∀ x ∈ l.d, x < 256) : ∀ x ∈ lbytes l, x < 256 := by
  have hk := lok_okd h
  have hdg : ∀ (f n : Nat), ∀ x ∈ digs f n, x < 256 := by
    intro f
    induction f with
    | zero => intro n x hx; simp [digs] at hx
    | succ f ih =>
      intro n x hx
      unfold digs at hx
      split at hx
      · simp at hx
        omega
      · rcases List.mem_cons.1 hx with e | e
        · omega
        · exact ih _ x e
  have hrow : ∀ x ∈ l.h :: l.d.length :: l.d, x < 256 := fun x hx => by
    unfold okd at hk
    simp only [List.mem_cons] at hx
    rcases hx with e | e | e
    · omega
    · omega
    · exact hd x e
  intro x hx
  unfold lbytes at hx
  split at hx
  · exact hrow x hx
  · rcases List.mem_append.1 hx with e | e
    · rcases List.mem_cons.1 e with e | e
      · omega
      · exact hdg 9 l.c x e
    · exact hrow x e
end
section
open Go.RowKit Go

end
section
open Go.RowKit Go
theorem below_alloc4 (w : World) (o : Obj) : Below w.heap.size w (w.alloc o) := (Below.refl _ _).alloc (Nat.le_refl _) _
end
section
open Go.RowKit Go

end
section
open Go.RowKit Go
theorem own_mono4 {w : World} {b b' : Nat} {v : Value} {n : Nat} {xs : List Value} (h : w.ownsRow b 5 1 v n xs) (hb : b' ≤ b) : w.ownsRow b' 5 1 v n xs := by
  refine ⟨h.1, ?_⟩
  rcases h.2 with h1 | ⟨g, cap, cur, e, hg, r⟩
  · exact .inl h1
  · exact .inr ⟨g, cap, cur, e, Nat.le_trans hb hg, r⟩
theorem own_below4 {w w' : World} {b : Nat} {v : Value} {n : Nat} {xs : List Value} (h : w.ownsRow b 5 1 v n xs) (hb : Below w.heap.size w w') : w'.ownsRow b 5 1 v n xs := (Kp.of_below (S := fun _ => False) hb).owns h (fun _ _ e => e)
end
section
open Go.RowKit Go
def lkv (l : Lk) : Value := .agg #[.int .i64 l.v, .int .u64 (l.c : Nat), .int .u64 (l.h : Nat), .string (nstr l.d)]
end
section
open Go.RowKit Go
theorem wpList_drop {ops : Array Oper} {rest : List Oper} {o : Oper} {a : Act} {Q : Exit → Act → World → Prop} {w : World} (hgd : o.guard = none) (x y : Nat) (ho : o.op = .slice 26 (.tmp x) (some (.tmp y)) none none)
    (v : Value) (xs : List Nat) (k : Nat) (hx : a.eval (.tmp x) = v) (hy : a.eval (.tmp y) = .int .i64 (k : Nat)) (hb : BSl w v xs) (hk : k ≤ xs.length)
    (h : ∀ ad n c, BSl w (.slice ad n c) (xs.drop k) → n = xs.length - k → wpList Tryz.prog ops Q rest (a.put o.dst (.slice ad n c)) w) : wpList Tryz.prog ops Q (o :: rest) a w := by
  have HB := hide hb
  obtain ⟨⟨ad, cap, rfl, hn, hc⟩, hmax, hby⟩ := hb
  have hcap := hn.1
  have hx2 : a.tmps[x]?.getD undef = .slice ad xs.length cap := by simpa [Act.eval] using hx
  have hy2 : a.tmps[y]?.getD undef = .int .i64 (k : Nat) := by simpa [Act.eval] using hy
  refine wpList_plain hgd fun K hK => ?_
  have HK := hide hK
  have HH := hide h
  obtain ⟨dst, op, ty, pos, after, guard⟩ := o
  simp only at ho hgd
  subst ho
  have hki : (k : Int) ≤ (xs.length : Int) := by omega
  have hkc : (k : Int) ≤ (cap : Int) := by omega
  clear hK h hgd hx hy
  cases ad with
  | none =>
    have hc0 := hn.2 rfl
    have hx0 : xs.length = 0 := by omega
    have hk0 : k = 0 := by omega
    subst hk0
    have hxe : xs = [] := List.eq_nil_of_length_eq_zero hx0
    subst hxe
    subst hc0
    go_simp
    exact HK.out _ _ (HH.out none 0 0 ⟨⟨none, 0, rfl, ⟨Nat.le_refl _, fun _ => rfl⟩, .inl rfl⟩, by simp, by simp⟩ rfl)
  | some ad =>
    have HC := hide hc
    clear hc hn
    by_cases hkk : k = cap
    · have hxk : xs.length = k := by omega
      have hdr : xs.drop k = [] := List.drop_of_length_le (by omega)
      subst hkk
      rw [hxk] at hx2 hki
      go_simp
      exact HK.out _ _ (HH.out (some ad) 0 0 (by rw [hdr]; exact ⟨⟨some ad, 0, rfl, ⟨Nat.le_refl _, fun e => by cases e⟩, .inl rfl⟩, by simp, by simp⟩) (by omega))
    · have hkl : (k : Int) < (cap : Int) := by omega
      have hkk2 : ¬ cap = k := fun e => hkk e.symm
      go_simp
      refine HK.out _ _ (HH.out (some (ad.add k)) (xs.length - k) (cap - k) ?_ rfl)
      have hlen : (xs.drop k).length = xs.length - k := List.length_drop
      refine ⟨⟨some (ad.add k), cap - k, by rw [hlen], ⟨by rw [hlen]; omega, fun e => by cases e⟩, ?_⟩, by rw [hlen]; omega, fun z hz => hby z (List.mem_of_mem_drop hz)⟩
      rcases HC.out with hx0 | ⟨b, off, e, hcell⟩
      · left
        rw [hx0]
        simp
      · right
        injection e with e
        subst e
        have hadd : (⟨b, off, none⟩ : Addr).add k = ⟨b, off + k, none⟩ := by unfold Addr.add; split <;> simp_all
        rw [hadd]
        refine ⟨b, off + k, rfl, fun j hj => ?_⟩
        rw [hlen] at hj
        have h2 := hcell (k + j) (by omega)
        rw [← Nat.add_assoc] at h2
        rw [h2]
        simp [List.getD, List.getElem?_drop]
end
section
open Go.RowKit Go
def zlk : Array Value := #[.int .i64 0, .int .u64 0, .int .u64 0, .string ⟨#[]⟩]
theorem info61 : (Tryz.prog.info? 37).map (·.size) = some 4 := by kernel_rfl
theorem results_c3 {fn : Func} {p u q : Tmp} {ty : TypeId} (h : fn.results = #[.cell p ty, .tmp u, .tmp q]) (tmps : Array Value) (P : Program) (w : World) :
    (results fn tmps).run P w = ((asAddr (tmps.getD p undef)).run P w).andThen fun a w₁ => ((loadVar ty a).run P w₁).andThen fun v w₂ => .ok (.tuple #[v, tmps.getD u undef, tmps.getD q undef]) w₂ := by
  simp only [results, h]
  simp [Sem.run_bind, Result.andThen]
theorem wpList_zero {ops : Array Oper} {rest : List Oper} {o : Oper} {a : Act} {Q : Exit → Act → World → Prop} {w : World} {p x : Operand} (hgd : o.guard = none) (ho : o.op = .store 37 p x) (g : Nat)
    (hp : a.eval p = .pointer (some ⟨g, 0, none⟩)) (hx : a.eval x = .agg zlk) (hg : w.heap[g]? = some (.cells zlk 37 (0, 0))) (h : wpList Tryz.prog ops Q rest (a.put o.dst undef) w) : wpList Tryz.prog ops Q (o :: rest) a w := by
  refine wpList_storeRow hgd ho g zlk zlk 37 hp hx hg info61 rfl (by kernel_rfl) ?_
  rw [setRow_self w g zlk 37 (0, 0) hg]
  exact h
end
section
open Go.RowKit Go
theorem dread_bytes4 {xs : List Nat} (h : ∀ x ∈ xs, x < 256) : ∀ x ∈ (dread xs).2.1, x < 256 := by
  intro x hx
  unfold dread at hx
  repeat' split at hx
  all_goals first | (simp at hx; done) | exact h x (List.mem_of_mem_drop (List.mem_of_mem_take hx))
end
section
open Go.RowKit Go

end
section
open Go.RowKit Go

end
section
open Go.RowKit Go
def blt : List Nat → List Nat → Bool
  | x :: r, y :: q => if x = y then blt r q else decide (x < y)
  | _, _ => false
end
section
open Go.RowKit Go
theorem sl_nstr {xs : List Nat} (h : ∀ x ∈ xs, x < 256) : sl (nstr xs) = xs := by
  have key : ∀ l : List Nat, (∀ x ∈ l, x < 256) → (nstr l).data.toList.map UInt8.toNat = l := by
    intro l hl
    simp only [nstr, strOfNums_data, List.map_map]
    conv => rhs; rw [← List.map_id l]
    apply List.map_congr_left
    intro x hx
    have := hl x hx
    simp; omega
  exact key xs h
end
section
open Go.RowKit Go

end
section
open Go.RowKit Go
theorem nstr_sl (s : ByteArray) : nstr (sl s) = s := by
  obtain ⟨⟨l⟩⟩ := s
  have e : nstr (sl ⟨⟨l⟩⟩) = ⟨(nstr (sl ⟨⟨l⟩⟩)).data⟩ := rfl
  rw [e]
  congr 1
  apply Array.ext'
  simp only [nstr, sl, strOfNums_data, List.map_map]
  conv => rhs; rw [← List.map_id l]
  apply List.map_congr_left
  intro x _
  simp
theorem nstr_size {xs : List Nat} (h : ∀ x ∈ xs, x < 256) : (nstr xs).size = xs.length := by rw [← sl_len, sl_nstr h]
def lcs (l : Lk) : Array Value := #[.int .i64 l.v, .int .u64 (l.c : Nat), .int .u64 (l.h : Nat), .string (nstr l.d)]
structure Lkb (l : Lk) : Prop where
  c : l.c < 18446744073709551616
  h : l.h < 18446744073709551616
  d : ∀ x ∈ l.d, x < 256
  n : l.d.length ≤ 9223372036854775807
theorem Lkb.size {l : Lk} (h : Lkb l) : (nstr l.d).size = l.d.length := nstr_size h.d
theorem lk_ext {a b : Lk} : a = b ↔ a.v = b.v ∧ a.c = b.c ∧ a.h = b.h ∧ a.d = b.d := by
  constructor
  · rintro rfl
    exact ⟨rfl, rfl, rfl, rfl⟩
  · obtain ⟨_, _, _, _⟩ := a
    obtain ⟨_, _, _, _⟩ := b
    rintro ⟨h1, h2, h3, h4⟩
    simp only at h1 h2 h3 h4
    subst h1 h2 h3 h4
    rfl
instance : DecidableEq Lk := fun a b => decidable_of_iff _ (lk_ext (a := a) (b := b)).symm
theorem eqlk (w : World) {a b : Lk} (ha : ∀ x ∈ a.d, x < 256) (hb : ∀ x ∈ b.d, x < 256) : (Op.equalIn 10000 37 (.agg (lcs a)) (.agg (lcs b))).run Tryz.prog w = .ok (decide (a = b)) w := by
  have u3 := Tryz.underlying3
  have u9 := Tryz.underlying9
  have u33 := Tryz.underlying35
  have a3 := Tryz.isAgg3
  have a9 := Tryz.isAgg9
  have a33 := Tryz.isAgg35
  have z3 := Tryz.sizeOf3
  have z9 := Tryz.sizeOf9
  have z33 := Tryz.sizeOf35
  have hS : Tryz.prog.underlying 37 = some (.struct (Tryz.prog.fieldsOf 37)) := by kernel_rfl
  have hp : Tryz.prog.stoodInHeld 37 = false := by kernel_rfl
  have hs : ((nstr a.d).toList == (nstr b.d).toList) = decide (a.d = b.d) := by
    by_cases h : a.d = b.d
    · rw [h]; simp
    · rw [beq_eq_false_iff_ne.2 (fun e => h (nstr_inj ha hb e))]; simp [h]
  have hr : decide (a = b) = (decide (a.v = b.v) && (decide (a.c = b.c) && (decide (a.h = b.h) && decide (a.d = b.d)))) := by
    rw [Bool.eq_iff_iff]
    simp [lk_ext]
  rw [hr]
  unfold lcs
  rw [show (10000 : Nat) = 9999 + 1 from rfl, run_equalIn_agg w 9999 37 _ _ hS hp]
  simp only [Program.fieldsOf, Tryz.underlying37]
  go_simp
  by_cases h1 : a.v = b.v <;> by_cases h2 : a.c = b.c <;> by_cases h3 : a.h = b.h <;> by_cases h4 : a.d = b.d <;> first | (simp [h1, h2, h3, h4]; done) | (simp [h1, h2, h3, h4]; omega)

theorem eqg : Tryz.prog.eqGuardType Tryz.prog.depth 37 = false := by kernel_rfl
theorem qstep_link {C : World → Prop} {ops : Array Oper} {o : Oper} {a : Act} {K : Act → Prop} {p : Operand} (hgd : Region.wanted o (yielded ops a.tmps) = true) (ho : o.op = .load 37 p) (g : Nat) (cs : Array Value)
    (hp : a.eval p = .pointer (some ⟨g, 0, none⟩)) (hn : cs.size = 4) (hc : ∀ w, C w → w.heap[g]? = some (.cells cs 37 (0, 0)))
    (h : K (a.put o.dst (.agg cs))) : if Region.wanted o (yielded ops a.tmps) = true then o.quiet Tryz.prog a C K else K (a.put o.dst undef) := by
  rw [if_pos hgd]
  refine ⟨.agg cs, fun w hC => ?_, h⟩
  have hr : (Instr.loadAt 37 (.pointer (some ⟨g, 0, none⟩))).run Tryz.prog w = .ok (.agg cs) w := by
    simp only [Instr.loadAt, Instr.sureAddr, Sem.run_bind, Sem.run_pure, Result.andThen]
    exact run_loadVar_row (P := Tryz.prog) w g 37 37 cs (0, 0) _ (hc w hC) Tryz.underlying37 rfl (by rw [hn]; exact info61)
  unfold Oper.quietAt execOp
  simp only [ho, Sem.run_bind, hp, hr, Result.andThen_ok]
  exact ⟨rfl, rfl⟩

theorem wpList_wanted {P : Program} {ops : Array Oper} {Q : Exit → Act → World → Prop} {a : Act} {w : World} {rest : List Oper} {o : Oper} (hw : Region.wanted o (yielded ops a.tmps) = true)
    (h : ∀ K : Act → World → Prop, (∀ a w, wpList P ops Q rest a w → K a w) → o.wp P a w K Q) : wpList P ops Q (o :: rest) a w := wpList_step fun K hK => by rw [if_pos hw]; exact h K hK
theorem exec_eqlk {o : Oper} {a : Act} {x y : Operand} {T2 : TypeId} {A B : Array Value} {r : Bool} {w : World} (ho : o.op = .binOp .eql 37 x y T2) (hx : a.eval x = .agg A) (hy : a.eval y = .agg B) (he : (Op.equalIn 10000 37 (.agg A) (.agg B)).run Tryz.prog w = .ok r w) : (execOp a.eval o).run Tryz.prog w = .ok (.value (.bool r)) w := by
  unfold execOp
  simp only [ho, Sem.run_bind, hx, hy, run_eqGuard_agg w _ 37 x y A B eqg, run_eql_struct, he, Result.andThen_ok]
  rfl
theorem qstep_eqlk {C : World → Prop} {ops : Array Oper} {o : Oper} {a : Act} {K : Act → Prop} {x y : Operand} {T2 : TypeId} (hgd : Region.wanted o (yielded ops a.tmps) = true) (ho : o.op = .binOp .eql 37 x y T2) (A B : Array Value) (r : Bool)
    (hx : a.eval x = .agg A) (hy : a.eval y = .agg B) (he : ∀ w, C w → (Op.equalIn 10000 37 (.agg A) (.agg B)).run Tryz.prog w = .ok r w)
    (h : K (a.put o.dst (.bool r))) : if Region.wanted o (yielded ops a.tmps) = true then o.quiet Tryz.prog a C K else K (a.put o.dst undef) := by
  rw [if_pos hgd]
  refine ⟨.bool r, fun w hC => ?_, h⟩
  unfold Oper.quietAt
  rw [exec_eqlk ho hx hy (he w hC)]
  exact ⟨rfl, rfl⟩
theorem wpList_eqlk {ops : Array Oper} {rest : List Oper} {o : Oper} {a : Act} {Q : Exit → Act → World → Prop} {w : World} {x y : Operand} {T2 : TypeId} (hgd : Region.wanted o (yielded ops a.tmps) = true) (ho : o.op = .binOp .eql 37 x y T2) (A B : Array Value) (r : Bool)
    (hx : a.eval x = .agg A) (hy : a.eval y = .agg B) (he : (Op.equalIn 10000 37 (.agg A) (.agg B)).run Tryz.prog w = .ok r w) (h : wpList Tryz.prog ops Q rest (a.put o.dst (.bool r)) w) : wpList Tryz.prog ops Q (o :: rest) a w := by
  refine wpList_wanted hgd fun K hK => ?_
  unfold Oper.wp
  rw [exec_eqlk ho hx hy he]
  exact hK _ _ h
theorem wpList_loadLk {ops : Array Oper} {rest : List Oper} {o : Oper} {a : Act} {Q : Exit → Act → World → Prop} {w : World} {p : Operand} (hgd : Region.wanted o (yielded ops a.tmps) = true) (ho : o.op = .load 37 p) (g : Nat) (cs : Array Value)
    (hp : a.eval p = .pointer (some ⟨g, 0, none⟩)) (hn : cs.size = 4) (hg : w.heap[g]? = some (.cells cs 37 (0, 0))) (h : wpList Tryz.prog ops Q rest (a.put o.dst (.agg cs)) w) : wpList Tryz.prog ops Q (o :: rest) a w := by
  refine wpList_wanted hgd fun K hK => ?_
  unfold Oper.wp execOp
  have hr : (Instr.loadAt 37 (.pointer (some ⟨g, 0, none⟩))).run Tryz.prog w = .ok (.agg cs) w := by
    simp only [Instr.loadAt, Instr.sureAddr, Sem.run_bind, Sem.run_pure, Result.andThen]
    exact run_loadVar_row (P := Tryz.prog) w g 37 37 cs (0, 0) _ hg Tryz.underlying37 rfl (by rw [hn]; exact info61)
  simp only [ho, Sem.run_bind, hp, hr, Result.andThen_ok]
  exact hK _ _ h

theorem old_any (w : World) (s : ByteArray) : Calls Tryz.prog 103 #[.string s] w fun e w' => e = .returned (.agg #[.int .i64 0, .int .u64 112, .int .u64 18, .string s]) ∧ Below w.heap.size w w' := by
  go_enter Tryz.func103, Tryz.ntmps103
  go_wp2_with fail
  exact bodyPost_ret (v := .agg #[.int .i64 0, .int .u64 112, .int .u64 18, .string s]) ((results_one (p := 2) (ty := 37) rfl _ _ _).trans (by go_simp; first | done | rfl)) rfl ⟨rfl, below_alloc4 w _⟩
theorem fits4_any (w : World) (l : Lk) (hl : Lkb l) : Calls Tryz.prog 147 #[lkv l] w fun e w' => e = .returned (.bool (decide (okd l.h l.d))) ∧ Below w.heap.size w w' := by
  have hs := hl.size
  have hn := hl.n
  obtain ⟨v, c, h, d⟩ := l
  simp only at hs hn
  simp only [lkv]
  have HE : Hid (okd h d ↔ (h = 18 ∧ d.length = 32) ∨ (h = 0 ∧ d.length ≤ 64)) := Iff.rfl
  generalize hS : nstr d = S at *
  clear hS hl
  by_cases h1 : h = 18
  · subst h1
    have HR : Hid (decide (okd 18 d) = ((d.length : Int) == 32)) := by
      show _ = _
      rw [Bool.eq_iff_iff, decide_eq_true_iff, HE.out, beq_iff_eq]
      omega
    rw [HR.out]
    clear HE HR
    go_enter Tryz.func147, Tryz.ntmps147
    go_wp2_with fail
    go_ret
    exact ⟨rfl, below_alloc4 w _⟩
  · have g1 : ((h : Int) == 18) = false := beq_eq_false_iff_ne.2 (by omega)
    by_cases h2 : h = 0
    · subst h2
      have HR : Hid (decide (okd 0 d) = decide ((d.length : Int) ≤ 64)) := by
        show _ = _
        rw [Bool.eq_iff_iff, decide_eq_true_iff, HE.out, decide_eq_true_iff]
        omega
      rw [HR.out]
      clear HE HR
      go_enter Tryz.func147, Tryz.ntmps147
      go_wp2_with fail
      go_ret
      exact ⟨rfl, below_alloc4 w _⟩
    · have g2 : ((h : Int) == 0) = false := beq_eq_false_iff_ne.2 (by omega)
      have HR : Hid (decide (okd h d) = false) := by
        show _ = _
        rw [decide_eq_false_iff_not, HE.out]
        omega
      rw [HR.out]
      clear HE HR
      go_enter Tryz.func147, Tryz.ntmps147
      go_wp2_with fail
      go_ret
      exact ⟨rfl, below_alloc4 w _⟩
end
section
open Go.ChangeShapes Go.WideShapes Go.ChangeAt Go.RowKit Go.Deep Go.Joins Go
inductive Tv where
  | mk (k : Int) (f g : Bool) (n b : Nat) (s : ByteArray) (y : List Nat) (l : Lk) (ks : List ByteArray) (is : List Tv)
def Tv.k : Tv → Int | .mk k _ _ _ _ _ _ _ _ _ => k
def Tv.f : Tv → Bool | .mk _ f _ _ _ _ _ _ _ _ => f
def Tv.g : Tv → Bool | .mk _ _ g _ _ _ _ _ _ _ => g
def Tv.n : Tv → Nat | .mk _ _ _ n _ _ _ _ _ _ => n
def Tv.b : Tv → Nat | .mk _ _ _ _ b _ _ _ _ _ => b
def Tv.s : Tv → ByteArray | .mk _ _ _ _ _ s _ _ _ _ => s
def Tv.y : Tv → List Nat | .mk _ _ _ _ _ _ y _ _ _ => y
def Tv.l : Tv → Lk | .mk _ _ _ _ _ _ _ l _ _ => l
def Tv.ks : Tv → List ByteArray | .mk _ _ _ _ _ _ _ _ ks _ => ks
def Tv.is : Tv → List Tv | .mk _ _ _ _ _ _ _ _ _ is => is
def vcs (t : Tv) (vy vk vi : Value) : Array Value :=
  #[.int .i64 t.k, .bool t.f, .bool t.g, .int .u64 (t.n : Nat), .int .u64 (t.b : Nat), .string t.s, vy, .int .i64 t.l.v, .int .u64 (t.l.c : Nat), .int .u64 (t.l.h : Nat), .string (nstr t.l.d), vk, vi]
structure SSl (w : World) (v : Value) (ks : List ByteArray) : Prop where
  form : ∃ a cap, v = .slice a ks.length cap ∧ (ks.length ≤ cap ∧ (a = none → cap = 0)) ∧ (ks = [] ∨ ∃ b off, a = some ⟨b, off, none⟩ ∧ ∀ j s, ks[j]? = some s → w.cell? ⟨b, off + j, none⟩ = some (.string s))
  max : ks.length ≤ 140737488351232
  size : ∀ s ∈ ks, s.size ≤ 140737488351232
theorem SSl.move {w w' : World} {v : Value} {ks : List ByteArray} (h : SSl w v ks) (hm : ∀ p u, w.cell? p = some u → w'.cell? p = some u) : SSl w' v ks := by
  obtain ⟨⟨a, c, hv, hn, hc⟩, h1, h2⟩ := h
  refine ⟨⟨a, c, hv, hn, ?_⟩, h1, h2⟩
  rcases hc with hc | ⟨b, off, ha, hc⟩
  · exact .inl hc
  · exact .inr ⟨b, off, ha, fun j s hj => hm _ _ (hc j s hj)⟩
inductive Tin (w : World) : Tv → Array Value → Prop
  | mk (t : Tv) (vy vk : Value) (a : Option Addr) (cap : Nat) (cs : Nat → Array Value) (hn : t.n < 18446744073709551616) (hb : t.b < 18446744073709551616) (hs : t.s.size ≤ 140737488351232) (hy : BSl w vy t.y) (hyl : t.y.length ≤ 140737488351232) (hl : Lkb t.l) (hld : t.l.d.length ≤ 140737488351232) (hk : SSl w vk t.ks)
      (hc : t.is.length ≤ cap ∧ (a = none → cap = 0)) (hm : t.is.length ≤ 140737488351232) (hi : ∀ i u, t.is[i]? = some u → Tin w u (cs i))
      (ha : t.is = [] ∨ ∃ b off, a = some ⟨b, off, none⟩ ∧ ∀ i, i < t.is.length → ∀ j u, (cs i)[j]? = some u → w.cell? ⟨b, off + i * 13 + j, none⟩ = some u) : Tin w t (vcs t vy vk (.slice a t.is.length cap))
theorem Tin.move {w w' : World} {t : Tv} {cs : Array Value} (h : Tin w t cs) (hm : ∀ p u, w.cell? p = some u → w'.cell? p = some u) : Tin w' t cs := by
  induction h with
  | mk t vy vk a cap cs hn hb hs hy hyl hl hld hk hc hmm hi ha ih =>
    refine Tin.mk t vy vk a cap cs hn hb hs (hy.move hm) hyl hl hld (hk.move hm) hc hmm ih ?_
    rcases ha with ha | ⟨b, off, e, ha⟩
    · exact .inl ha
    · exact .inr ⟨b, off, e, fun i hi j u hu => hm _ _ (ha i hi j u hu)⟩
structure VSl (w : World) (v : Value) (is : List Tv) : Prop where
  form : ∃ a cap, v = .slice a is.length cap ∧ (is.length ≤ cap ∧ (a = none → cap = 0)) ∧ (is = [] ∨ ∃ b off, a = some ⟨b, off, none⟩ ∧ ∀ i t, is[i]? = some t → ∃ cs, Tin w t cs ∧ ∀ j u, cs[j]? = some u → w.cell? ⟨b, off + i * 13 + j, none⟩ = some u)
  max : is.length ≤ 140737488351232
structure Tbd (t : Tv) : Prop where
  n : t.n < 18446744073709551616
  b : t.b < 18446744073709551616
  s : t.s.size ≤ 140737488351232
  y : t.y.length ≤ 140737488351232
  l : Lkb t.l
  d : t.l.d.length ≤ 140737488351232
theorem Tin.parts {w : World} {t : Tv} {c : Array Value} (h : Tin w t c) : ∃ vy vk vi, c = vcs t vy vk vi ∧ BSl w vy t.y ∧ SSl w vk t.ks ∧ VSl w vi t.is ∧ Tbd t := by
  cases h with
  | mk _ vy vk a cap cs hn hb hs hy hyl hl hld hk hc hm hi ha =>
    refine ⟨vy, vk, _, rfl, hy, hk, ⟨⟨a, cap, rfl, hc, ?_⟩, hm⟩, ⟨hn, hb, hs, hyl, hl, hld⟩⟩
    rcases ha with ha | ⟨b, off, e, ha⟩
    · exact .inl ha
    · refine .inr ⟨b, off, e, fun i t' hi' => ⟨cs i, hi i t' hi', fun j u hu => ha i ?_ j u hu⟩⟩
      exact (List.getElem?_eq_some_iff.1 hi').1
theorem Tin.of {w : World} {t : Tv} {vy vk vi : Value} (hy : BSl w vy t.y) (hk : SSl w vk t.ks) (hv : VSl w vi t.is) (h : Tbd t) : Tin w t (vcs t vy vk vi) := by
  obtain ⟨hn, hb, hs, hyl, hl, hld⟩ := h
  obtain ⟨⟨a, cap, rfl, hc, ha⟩, hm⟩ := hv
  rcases ha with ha | ⟨b, off, e, ha⟩
  · exact Tin.mk t vy vk a cap (fun _ => #[]) hn hb hs hy hyl hl hld hk hc hm (fun i u hu => by rw [ha] at hu; simp at hu) (.inl ha)
  · have hx : ∀ i, ∃ cs : Array Value, ∀ t', t.is[i]? = some t' → Tin w t' cs ∧ ∀ j u, cs[j]? = some u → w.cell? ⟨b, off + i * 13 + j, none⟩ = some u := fun i => by
      cases hi : t.is[i]? with
      | none => exact ⟨#[], fun t' h => by cases h⟩
      | some t' =>
        obtain ⟨cs, h1, h2⟩ := ha i t' hi
        exact ⟨cs, fun t'' h => by injection h with h; subst h; exact ⟨h1, h2⟩⟩
    refine Tin.mk t vy vk a cap (fun i => Classical.choose (hx i)) hn hb hs hy hyl hl hld hk hc hm (fun i u hu => (Classical.choose_spec (hx i) u hu).1) (.inr ⟨b, off, e, fun i hi j u hu => ?_⟩)
    exact (Classical.choose_spec (hx i) t.is[i] (List.getElem?_eq_getElem hi)).2 j u hu
end
section
open Go.RowKit Go
mutual
def tmuch : Tv → Nat
  | .mk _ _ _ _ _ s y l ks is => 1 + ks.length + y.length / 64 + s.size / 64 + l.d.length / 64 + (ks.map fun k => k.size / 64).sum + tmuchL is
def tmuchL : List Tv → Nat
  | [] => 0
  | t :: r => tmuch t + tmuchL r
end
theorem tmuch_eq (t : Tv) : tmuch t = 1 + t.ks.length + t.y.length / 64 + t.s.size / 64 + t.l.d.length / 64 + (t.ks.map fun k => k.size / 64).sum + tmuchL t.is := by
  obtain ⟨k, f, g, n, b, s, y, l, ks, is⟩ := t
  rw [tmuch]
  rfl
theorem infoV : (Tryz.prog.info? 41).map (·.size) = some 13 := by kernel_rfl
theorem load_val {w : World} (g o : Nat) (cs : Array Value) (hn : cs.size = 13) (hc : ∀ j u, cs[j]? = some u → w.cell? ⟨g, o + j, none⟩ = some u) : (Instr.loadAt 41 (.pointer (some ⟨g, o, none⟩))).run Tryz.prog w = .ok (.agg cs) w := by
  have hl := run_loadCells_list (P := Tryz.prog) (w := w) ⟨g, o, none⟩ cs.toList (fun j v hv => by rw [addr_add]; exact hc j v (by simpa using hv))
  have hi := infoV
  simp only [Instr.loadAt, Instr.sureAddr, Sem.run_bind, Sem.run_pure, Result.andThen]
  cases hq : Tryz.prog.info? 41 with
  | none => simp [hq] at hi
  | some i =>
    have hs : i.size = 13 := by simpa [hq] using hi
    have hn2 : cs.toList.length = 13 := by simpa using hn
    rw [hn2] at hl
    have ha : (isAgg 41).run Tryz.prog w = .ok true w := by
      unfold isAgg
      rw [Sem.run_bind, run_underlying Tryz.underlying41 w]
      simp
    simp [loadVar, ha, sizeOf, typeInfo, hq, hs, hl]
theorem wpList_valAt {ops : Array Oper} {rest : List Oper} {o : Oper} {a : Act} {Q : Exit → Act → World → Prop} {w : World} {p : Operand} (hgd : Region.wanted o (yielded ops a.tmps) = true) (ho : o.op = .load 41 p) (g off : Nat) (cs : Array Value)
    (hp : a.eval p = .pointer (some ⟨g, off, none⟩)) (hn : cs.size = 13) (hc : ∀ j u, cs[j]? = some u → w.cell? ⟨g, off + j, none⟩ = some u)
    (h : wpList Tryz.prog ops Q rest (a.put o.dst (.agg cs)) w) : wpList Tryz.prog ops Q (o :: rest) a w := by
  refine wpList_wanted hgd fun K hK => ?_
  unfold Oper.wp execOp
  simp only [ho, Sem.run_bind, hp, load_val g off cs hn hc, Result.andThen_ok]
  exact hK _ _ h
end
section
open Go.RowKit Go
def finb (b : Nat) : Bool := decide (b % 9223372036854775808 < 9218868437227405312)
theorem read_def (b : Nat) : Ieee.double.read b = (if b % 9223372036854775808 < 4503599627370496 then .number (b / 9223372036854775808 % 2 == 1) (b % 9223372036854775808) (-1074) else if b % 9223372036854775808 < 9218868437227405312 then .number (b / 9223372036854775808 % 2 == 1) (4503599627370496 + b % 9223372036854775808 % 4503599627370496) (-1074 + ((b % 9223372036854775808 / 4503599627370496 - 1 : Nat) : Int)) else if b % 9223372036854775808 = 9218868437227405312 then .infinity (b / 9223372036854775808 % 2 == 1) else .nan (b / 9223372036854775808 % 2 == 1) (b % 9223372036854775808 - 9218868437227405312)) := rfl
theorem read_fin {b : Nat} (h : b % 9223372036854775808 < 9218868437227405312) : ∃ m p, Ieee.double.read b = .number (b / 9223372036854775808 % 2 == 1) m p ∧ m ≤ 9007199254740991 ∧ p ≤ 971 := by
  rw [read_def]
  by_cases h1 : b % 9223372036854775808 < 4503599627370496
  · rw [if_pos h1]
    exact ⟨_, _, rfl, by omega, by omega⟩
  · rw [if_neg h1, if_pos h]
    exact ⟨_, _, rfl, by omega, by omega⟩
theorem ord_self (b : Nat) : (Ieee.double.order b b != some .eq) = decide (9218868437227405312 < b % 9223372036854775808) := by
  unfold Ieee.Format.order
  by_cases h : b % 9223372036854775808 < 9218868437227405312
  · obtain ⟨m, p, e, _, _⟩ := read_fin h
    rw [e, decide_eq_false (by omega)]
    simp [Ieee.Datum.order]
  · rw [read_def, if_neg (by omega), if_neg h]
    by_cases h2 : b % 9223372036854775808 = 9218868437227405312
    · rw [if_pos h2, decide_eq_false (by omega)]
      simp [Ieee.Datum.order]
    · rw [if_neg h2, decide_eq_true (by omega)]
      simp [Ieee.Datum.order]
theorem ord_max {b : Nat} (hb : b ≤ 9218868437227405312) : (Ieee.double.order b 9218868437227405311 == some .gt) = decide (b = 9218868437227405312) := by
  have hm : b % 9223372036854775808 = b := Nat.mod_eq_of_lt (by omega)
  have hd : b / 9223372036854775808 % 2 = 0 := by omega
  have e2 : Ieee.double.read 9218868437227405311 = .number false 9007199254740991 971 := by rfl
  unfold Ieee.Format.order
  rw [e2]
  by_cases h : b < 9218868437227405312
  · obtain ⟨m, p, e, hmm, hp⟩ := read_fin (b := b) (by omega)
    rw [e, decide_eq_false (by omega), hd]
    have hmin : min p (971 : Int) = p := by omega
    have hsh : m ≤ 9007199254740991 <<< (971 - p).toNat := by
      rw [Nat.shiftLeft_eq]
      exact Nat.le_trans hmm (Nat.le_mul_of_pos_right _ (Nat.two_pow_pos _))
    simp only [Ieee.Datum.order, hmin, Int.sub_self, Ieee.signed]
    generalize 9007199254740991 <<< (971 - p).toNat = K at *
    have h3 : compare ((m <<< (0 : Int).toNat : Nat) : Int) ((K : Nat) : Int) ≠ .gt := by
      intro hc
      have := Int.compare_eq_gt.1 hc
      simp at this
      omega
    simp at h3 ⊢
    exact h3
  · have e : b = 9218868437227405312 := by omega
    subst e
    rfl
theorem frombits_any (b : Nat) (w : World) : (callFunc 54 #[.int .u64 (b : Nat)]).run Tryz.prog w = .ok (.value (.float .f64 b)) w := by
  rw [run_callFunc_extern Tryz.func54 (by kernel_rfl) (by kernel_rfl) (by kernel_rfl) (e := Extern.MathFloatBits.float64frombits) (by kernel_rfl)]
  rfl
theorem tobits_any (b : Nat) (w : World) : (callFunc 51 #[.float .f64 b]).run Tryz.prog w = .ok (.value (.int .u64 (b : Nat))) w := by
  rw [run_callFunc_extern Tryz.func51 (by kernel_rfl) (by kernel_rfl) (by kernel_rfl) (e := Extern.MathFloatBits.float64bits) (by kernel_rfl)]
  rfl
theorem isnan_any (b : Nat) (w : World) : Calls Tryz.prog 75 #[.float .f64 b] w fun e w' => e = .returned (.bool (decide (9218868437227405312 < b % 9223372036854775808))) ∧ w' = w := by
  have HE : Hid ((FloatKind.f64.format.order b b != some .eq) = decide (9218868437227405312 < b % 9223372036854775808)) := ord_self b
  go_enter Tryz.func75, Tryz.ntmps75
  go_wp2_with fail
  go_ret
  exact ⟨by rw [← HE.out]; rfl, rfl⟩
theorem andnot_top (b : Nat) (hb : b < 18446744073709551616) : bits .andNot .u64 (b : Int) 9223372036854775808 = ((b % 9223372036854775808 : Nat) : Int) := by
  have e1 : (BitVec.ofInt 64 (b : Int)).toNat = b := by
    simp
    omega
  have e2 : (~~~ (BitVec.ofInt 64 9223372036854775808)).toNat = 9223372036854775807 := by decide
  show IntKind.u64.wrap ((BitVec.ofInt 64 (b : Int) &&& ~~~ (BitVec.ofInt 64 9223372036854775808)).toNat : Nat) = _
  rw [BitVec.toNat_and, e1, e2, IntKind.wrap_u64]
  have e3 := Nat.and_two_pow_sub_one_eq_mod b 63
  rw [show (2 ^ 63 - 1 : Nat) = 9223372036854775807 from rfl, show (2 ^ 63 : Nat) = 9223372036854775808 from rfl] at e3
  rw [e3]
  omega
theorem abs_any (b : Nat) (hb : b < 18446744073709551616) (w : World) : Calls Tryz.prog 110 #[.float .f64 b] w fun e w' => e = .returned (.float .f64 (b % 9223372036854775808)) ∧ w' = w := by
  have h1 := tobits_any b
  have h2 := frombits_any (b % 9223372036854775808)
  rw [← andnot_top b hb] at h2
  clear hb
  generalize b % 9223372036854775808 = m at *
  go_enter Tryz.func110, Tryz.ntmps110
  go_wp2_with fail
  go_ret
  exact ⟨rfl, rfl⟩
theorem isinf_any (b : Nat) (hb : b < 18446744073709551616) (hn : b % 9223372036854775808 ≤ 9218868437227405312) (w : World) : Calls Tryz.prog 76 #[.float .f64 b, .int .i64 0] w fun e w' => e = .returned (.bool (decide (b % 9223372036854775808 = 9218868437227405312))) ∧ w' = w := by
  have HE : Hid ((FloatKind.f64.format.order (b % 9223372036854775808) 9218868437227405311 == some .gt) = decide (b % 9223372036854775808 = 9218868437227405312)) := ord_max hn
  have HA := hide (fun W => abs_any b hb W)
  clear hb hn
  generalize b % 9223372036854775808 = m at *
  go_enter Tryz.func76, Tryz.ntmps76
  go_wp2_with (go_at_call 110; refine (Hid.out HA _).mono ?_; rintro e w' ⟨rfl, rfl⟩)
  go_ret
  exact ⟨by rw [← HE.out]; rfl, rfl⟩
theorem finite_any (b : Nat) (hb : b < 18446744073709551616) (w : World) : Calls Tryz.prog 53 #[.float .f64 b] w fun e w' => e = .returned (.bool (finb b)) ∧ w' = w := by
  have HN := hide (fun W => isnan_any b W)
  unfold finb
  by_cases h : 9218868437227405312 < b % 9223372036854775808
  · rw [decide_eq_false (by omega)]
    rw [decide_eq_true h] at HN
    clear h
    go_enter Tryz.func53, Tryz.ntmps53
    go_wp2_with (go_at_call 75; refine (Hid.out HN _).mono ?_; rintro e w' ⟨rfl, rfl⟩)
    go_ret
    exact ⟨rfl, rfl⟩
  · have HI := hide (fun W => isinf_any b hb (by omega) W)
    have HD : Hid (decide (b % 9223372036854775808 < 9218868437227405312) = !decide (b % 9223372036854775808 = 9218868437227405312)) := by
      show _ = _
      rw [Bool.eq_iff_iff]
      simp
      omega
    rw [decide_eq_false h] at HN
    rw [HD.out]
    clear h HD
    generalize decide (b % 9223372036854775808 = 9218868437227405312) = R at *
    go_enter Tryz.func53, Tryz.ntmps53
    go_wp2_with (first
      | (go_at_call 75; refine (Hid.out HN _).mono ?_; rintro e w' ⟨rfl, rfl⟩)
      | (go_at_call 76; refine (Hid.out HI _).mono ?_; rintro e w' ⟨rfl, rfl⟩))
    go_ret
    exact ⟨rfl, rfl⟩
end
section
open Go.RowKit Go
theorem sread_def (b : Nat) : Ieee.single.read b = (if b % 2147483648 < 8388608 then .number (b / 2147483648 % 2 == 1) (b % 2147483648) (-149) else if b % 2147483648 < 2139095040 then .number (b / 2147483648 % 2 == 1) (8388608 + b % 2147483648 % 8388608) (-149 + ((b % 2147483648 / 8388608 - 1 : Nat) : Int)) else if b % 2147483648 = 2139095040 then .infinity (b / 2147483648 % 2 == 1) else .nan (b / 2147483648 % 2 == 1) (b % 2147483648 - 2139095040)) := rfl
theorem sread_fin {b : Nat} (h : b % 2147483648 < 2139095040) : ∃ m p, Ieee.single.read b = .number (b / 2147483648 % 2 == 1) m p ∧ m < 16777216 ∧ -149 ≤ p ∧ p ≤ 104 := by
  rw [sread_def]
  by_cases h1 : b % 2147483648 < 8388608
  · rw [if_pos h1]
    exact ⟨_, _, rfl, by omega, by omega, by omega⟩
  · rw [if_neg h1, if_pos h]
    exact ⟨_, _, rfl, by omega, by omega, by omega⟩
theorem cut_none (neg : Bool) (n : Nat) : Ieee.Toward.even.cut neg n 0 = n := by
  unfold Ieee.Toward.cut
  rw [Nat.zero_min]
  simp [Nat.mod_one]
theorem near_wide (neg : Bool) (m : Nat) (e : Int) (hm : m < 16777216) (h1 : -149 ≤ e) (h2 : e ≤ 104) : ∃ X, X < 9218868437227405312 ∧ Ieee.double.nearest neg m e = Ieee.double.word neg X := by
  unfold Ieee.Format.nearest
  by_cases h0 : m = 0
  · rw [if_pos h0]
    exact ⟨0, by decide, rfl⟩
  · rw [if_neg h0]
    have hL : m.log2 < 24 := (Nat.log2_lt h0).2 (by omega)
    have e1 : max (e + (m.log2 : Int) - (Ieee.double.fractionBits : Int)) Ieee.double.leastPlace = e + (m.log2 : Int) - 52 := by
      have : Ieee.double.leastPlace = -1074 := by decide
      rw [this]
      show max (e + (m.log2 : Int) - 52) (-1074) = _
      omega
    simp only [e1]
    have e2 : (e - (e + (m.log2 : Int) - 52)).toNat = 52 - m.log2 := by omega
    have e3 : (e + (m.log2 : Int) - 52 - e).toNat = 0 := by omega
    rw [e2, e3, cut_none]
    have e4 : (e + (m.log2 : Int) - 52 - Ieee.double.leastPlace).toNat ≤ 1149 := by
      have : Ieee.double.leastPlace = -1074 := by decide
      rw [this]
      omega
    have e5 : m <<< (52 - m.log2) < 9007199254740992 := by
      rw [Nat.shiftLeft_eq]
      have h3 : m < 2 ^ (m.log2 + 1) := (Nat.log2_lt h0).1 (Nat.lt_succ_self _)
      have h4 : m * 2 ^ (52 - m.log2) < 2 ^ (m.log2 + 1) * 2 ^ (52 - m.log2) := Nat.mul_lt_mul_of_pos_right h3 (Nat.two_pow_pos _)
      rw [← Nat.pow_add, show m.log2 + 1 + (52 - m.log2) = 53 from by omega] at h4
      exact h4
    have e6 : Ieee.double.binade = 4503599627370496 := by decide
    have e7 : Ieee.double.infRung = 9218868437227405312 := by decide
    rw [e6, e7]
    generalize (e + (m.log2 : Int) - 52 - Ieee.double.leastPlace).toNat = Y at *
    generalize m <<< (52 - m.log2) = K at *
    refine ⟨_, ?_, rfl⟩
    exact Nat.lt_of_le_of_lt (Nat.min_le_left _ _) (Nat.lt_trans (Nat.add_lt_add_of_le_of_lt (Nat.mul_le_mul_right 4503599627370496 e4) e5) (by decide))
def sgl (r : Nat) : Nat := Ieee.double.write (Ieee.single.read r)
theorem sgl_lt (r : Nat) : sgl r < 18446744073709551616 := Ieee.double.write_lt _
theorem word_fin {neg : Bool} {X : Nat} (h : X < 9218868437227405312) : (Ieee.double.read (Ieee.double.word neg X)).isInfinity = false := by
  have e : (Ieee.double.word neg X) % 9223372036854775808 = X := by
    unfold Ieee.Format.word
    have : Ieee.double.signWeight = 9223372036854775808 := by decide
    rw [this]
    cases neg
    · rw [if_neg (by decide)]
      omega
    · rw [if_pos rfl]
      omega
  obtain ⟨m, p, e2, -, -⟩ := read_fin (b := Ieee.double.word neg X) (by rw [e]; exact h)
  rw [e2]
  rfl
theorem f32_f64 {r : Nat} (h : r % 2147483648 ≤ 2139095040) : floatToFloatBits .f32 r .f64 = some (sgl r) := by
  unfold floatToFloatBits sgl
  rw [if_neg (by decide)]
  show (match Ieee.single.read r with | .nan _ _ => none | .infinity s => some (Ieee.double.write (.infinity s)) | .number s m e => if (Ieee.double.read (Ieee.double.write (.number s m e))).isInfinity then none else some (Ieee.double.write (.number s m e))) = _
  by_cases h1 : r % 2147483648 < 2139095040
  · obtain ⟨m, p, e, hm, h2, h3⟩ := sread_fin h1
    rw [e]
    obtain ⟨X, hX, eX⟩ := near_wide (r / 2147483648 % 2 == 1) m p hm h2 h3
    have e8 : Ieee.double.write (.number (r / 2147483648 % 2 == 1) m p) = Ieee.double.word (r / 2147483648 % 2 == 1) X := eX
    simp only [e8, word_fin hX]
    rfl
  · rw [sread_def, if_neg (by omega), if_neg h1, if_pos (by omega)]
theorem f32_f64_nan {r : Nat} (h : 2139095040 < r % 2147483648) (t : TypeId) (t' : TypeId) (hs : (Tryz.prog.underlying t).isSome = true) (hd : Tryz.prog.underlying t' = some (.float .f64)) (w : World) : ∃ B, (convert t t' (.float .f32 r)).run Tryz.prog w = .ok (.float .f64 B) w.drew ∧ finb B = false ∧ B < 18446744073709551616 := by
  obtain ⟨u, hs'⟩ := Option.isSome_iff_exists.1 hs
  have e : FloatKind.f32.decode r = .nan (r / 2147483648 % 2 == 1) (r % 2147483648 - 2139095040) := by
    show Ieee.single.read r = _
    rw [sread_def, if_neg (by omega), if_neg (by omega), if_neg (by omega)]
  have e2 : (convert t t' (.float .f32 r)).run Tryz.prog w = .ok (.float .f64 (Question.cut (.nanConv .f64 r) (w.tape w.drawn (.nanConv .f64 r)))) w.drew := by
    cases u <;> simp [convert, run_underlying hs', run_underlying hd, Conv.floatToFloat, e, Question.forced]
  refine ⟨_, e2, ?_, ?_⟩
  · unfold finb
    rw [decide_eq_false]
    generalize w.tape w.drawn (.nanConv .f64 r) = T
    show ¬ ((T % 2) * 2 ^ 63 + 0x7ff0000000000000 + 1 + (T / 2) % (2 ^ 52 - 1)) % 9223372036854775808 < 9218868437227405312
    have h3 : (T / 2) % (2 ^ 52 - 1) < 2 ^ 52 - 1 := Nat.mod_lt _ (by decide)
    generalize (T / 2) % (2 ^ 52 - 1) = U at *
    have h4 : T % 2 < 2 := Nat.mod_lt _ (by decide)
    generalize T % 2 = S at *
    omega
  · generalize w.tape w.drawn (.nanConv .f64 r) = T
    show ((T % 2) * 2 ^ 63 + 0x7ff0000000000000 + 1 + (T / 2) % (2 ^ 52 - 1)) < 18446744073709551616
    have h3 : (T / 2) % (2 ^ 52 - 1) < 2 ^ 52 - 1 := Nat.mod_lt _ (by decide)
    generalize (T / 2) % (2 ^ 52 - 1) = U at *
    have h4 : T % 2 < 2 := Nat.mod_lt _ (by decide)
    generalize T % 2 = S at *
    omega
end
section
open Go.RowKit Go
structure GSl {α : Type} (n : Nat) (P : World → α → Array Value → Prop) (w : World) (v : Value) (xs : List α) : Prop where
  form : ∃ a cap, v = .slice a xs.length cap ∧ (xs.length ≤ cap ∧ (a = none → cap = 0)) ∧ (xs = [] ∨ ∃ b off, a = some ⟨b, off, none⟩ ∧ ∀ i x, xs[i]? = some x → ∃ c, P w x c ∧ ∀ j u, c[j]? = some u → w.cell? ⟨b, off + i * n + j, none⟩ = some u)
  max : xs.length ≤ 140737488351232
theorem GSl.move {α : Type} {n : Nat} {P : World → α → Array Value → Prop} {w w' : World} {v : Value} {xs : List α} (h : GSl n P w v xs) (hP : ∀ x c, P w x c → P w' x c) (hm : ∀ p u, w.cell? p = some u → w'.cell? p = some u) : GSl n P w' v xs := by
  obtain ⟨⟨a, cap, hv, hn, hc⟩, h1⟩ := h
  refine ⟨⟨a, cap, hv, hn, ?_⟩, h1⟩
  rcases hc with hc | ⟨b, off, ha, hc⟩
  · exact .inl hc
  · exact .inr ⟨b, off, ha, fun i x hi => by
      obtain ⟨c, h2, h3⟩ := hc i x hi
      exact ⟨c, hP x c h2, fun j u hj => hm _ _ (h3 j u hj)⟩⟩
theorem load_agg {w : World} {T n : Nat} (hi : (Tryz.prog.info? T).map (·.size) = some n) (ha : ∀ w, (isAgg T).run Tryz.prog w = .ok true w) (g o : Nat) (cs : Array Value) (hn : cs.size = n) (hc : ∀ j u, cs[j]? = some u → w.cell? ⟨g, o + j, none⟩ = some u) : (Instr.loadAt T (.pointer (some ⟨g, o, none⟩))).run Tryz.prog w = .ok (.agg cs) w := by
  have hl := run_loadCells_list (P := Tryz.prog) (w := w) ⟨g, o, none⟩ cs.toList (fun j v hv => by rw [addr_add]; exact hc j v (by simpa using hv))
  simp only [Instr.loadAt, Instr.sureAddr, Sem.run_bind, Sem.run_pure, Result.andThen]
  cases hq : Tryz.prog.info? T with
  | none => simp [hq] at hi
  | some i =>
    have hs : i.size = n := by simpa [hq] using hi
    have hn2 : cs.toList.length = n := by simpa using hn
    rw [hn2] at hl
    simp [loadVar, ha w, sizeOf, typeInfo, hq, hs, hl]
theorem wpList_aggAt {ops : Array Oper} {rest : List Oper} {o : Oper} {a : Act} {Q : Exit → Act → World → Prop} {w : World} {p : Operand} {T n : Nat} (hgd : Region.wanted o (yielded ops a.tmps) = true) (ho : o.op = .load T p) (hi : (Tryz.prog.info? T).map (·.size) = some n) (ha : ∀ w, (isAgg T).run Tryz.prog w = .ok true w) (g off : Nat) (cs : Array Value)
    (hp : a.eval p = .pointer (some ⟨g, off, none⟩)) (hn : cs.size = n) (hc : ∀ j u, cs[j]? = some u → w.cell? ⟨g, off + j, none⟩ = some u)
    (h : wpList Tryz.prog ops Q rest (a.put o.dst (.agg cs)) w) : wpList Tryz.prog ops Q (o :: rest) a w := by
  refine wpList_wanted hgd fun K hK => ?_
  unfold Oper.wp execOp
  simp only [ho, Sem.run_bind, hp, load_agg hi ha g off cs hn hc, Result.andThen_ok]
  exact hK _ _ h
theorem exec_aggAt {o : Oper} {a : Act} {p : Operand} {g off : Nat} {cs : Array Value} {w : World} {T n : Nat} (hi : (Tryz.prog.info? T).map (·.size) = some n) (ha : ∀ w, (isAgg T).run Tryz.prog w = .ok true w) (ho : o.op = .load T p) (hp : a.eval p = .pointer (some ⟨g, off, none⟩)) (hn : cs.size = n) (hc : ∀ j u, cs[j]? = some u → w.cell? ⟨g, off + j, none⟩ = some u) : (execOp a.eval o).run Tryz.prog w = .ok (.value (.agg cs)) w := by
  unfold execOp
  have hr := load_agg (w := w) hi ha g off cs hn hc
  simp only [ho, Sem.run_bind, hp, hr, Result.andThen_ok]
  rfl
end
section
open Go.RowKit Go
theorem qstep_exec {C : World → Prop} {ops : Array Oper} {o : Oper} {a : Act} {K : Act → Prop} (hgd : Region.wanted o (yielded ops a.tmps) = true) (v : Value) (hx : ∀ w, C w → (execOp a.eval o).run Tryz.prog w = .ok (.value v) w)
    (h : K (a.put o.dst v)) : if Region.wanted o (yielded ops a.tmps) = true then o.quiet Tryz.prog a C K else K (a.put o.dst undef) := by
  rw [if_pos hgd]
  refine ⟨v, fun w hC => ?_, h⟩
  unfold Oper.quietAt
  rw [hx w hC]
  exact ⟨rfl, rfl⟩
end
section
open Go.RowKit
def hinfo (n : Nat) : Nat := if n < 24 then n else if n < 256 then 24 else if n < 65536 then 25 else if n < 4294967296 then 26 else 27
def hwide (i : Nat) : Nat := if i = 24 then 1 else if i = 25 then 2 else if i = 26 then 4 else if i = 27 then 8 else 0
def be : Nat → Nat → List Nat
  | 0, _ => []
  | k + 1, n => (n / 256 ^ k % 256) :: be k n
def hl (m n : Nat) : List Nat := (32 * m + hinfo n) :: be (hwide (hinfo n)) n
def hlay (m : Int) (n : Nat) : List Nat := if 0 ≤ m ∧ m ≤ 7 then hl m.toNat n else []
def hsize (n : Nat) : Nat := 1 + hwide (hinfo n)
def bnum : Nat → List Nat → Nat
  | a, [] => a
  | a, x :: r => bnum (256 * a + x) r

structure HR where
  m : Nat
  i : Nat
  n : Nat
  u : Nat
  s : Bool
  e : Nat
def HR.bad (e : Nat) : HR := ⟨0, 0, 0, 0, false, e⟩
def HR.val (r : HR) : Value := .agg #[.int .i64 (r.m : Nat), .int .i64 (r.i : Nat), .int .u64 (r.n : Nat), .int .i64 (r.u : Nat), .bool r.s]
def hrd : List Nat → HR
  | [] => .bad 20
  | x :: r =>
    if 27 < x % 32 then (if x % 32 = 31 ∧ x / 32 ≠ 0 ∧ x / 32 ≠ 1 ∧ x / 32 ≠ 6 then ⟨x / 32, 31, 0, 1, true, 0⟩ else .bad 21)
    else if x % 32 < 24 then ⟨x / 32, x % 32, x % 32, 1, true, 0⟩
    else if r.length < hwide (x % 32) then .bad 20
    else if x / 32 = 7 ∧ x % 32 = 24 ∧ bnum 0 (r.take (hwide (x % 32))) < 32 then .bad 21
    else ⟨x / 32, x % 32, bnum 0 (r.take (hwide (x % 32))), 1 + hwide (x % 32), decide (x / 32 = 7) || decide (1 + hwide (x % 32) = hsize (bnum 0 (r.take (hwide (x % 32))))), 0⟩

theorem hinfo_cases (n : Nat) : (n < 24 ∧ hinfo n = n) ∨ (24 ≤ n ∧ n < 256 ∧ hinfo n = 24) ∨ (256 ≤ n ∧ n < 65536 ∧ hinfo n = 25) ∨ (65536 ≤ n ∧ n < 4294967296 ∧ hinfo n = 26) ∨ (4294967296 ≤ n ∧ hinfo n = 27) := by
  unfold hinfo
  by_cases h1 : n < 24
  · rw [if_pos h1]; omega
  · rw [if_neg h1]
    by_cases h2 : n < 256
    · rw [if_pos h2]; omega
    · rw [if_neg h2]
      by_cases h3 : n < 65536
      · rw [if_pos h3]; omega
      · rw [if_neg h3]
        by_cases h4 : n < 4294967296
        · rw [if_pos h4]; omega
        · rw [if_neg h4]; omega
theorem hwide_small {i : Nat} (h : i < 24) : hwide i = 0 := by
  unfold hwide
  rw [if_neg (by omega), if_neg (by omega), if_neg (by omega), if_neg (by omega)]
theorem be_len : ∀ k n, (be k n).length = k
  | 0, _ => rfl
  | k + 1, n => by simp [be, be_len k n]
theorem be_byte : ∀ k n x, x ∈ be k n → x < 256
  | 0, _, _, h => by simp [be] at h
  | k + 1, n, x, h => by
    rcases List.mem_cons.1 h with h | h
    · subst h; exact Nat.mod_lt _ (by decide)
    · exact be_byte k n x h
theorem hinfo_lt (n : Nat) : hinfo n < 28 := by unfold hinfo; repeat (first | omega | split)
theorem hwide_le (i : Nat) : hwide i ≤ 8 := by unfold hwide; repeat (first | omega | split)
theorem hrd_info {x : Nat} {r : List Nat} (h : 27 < x % 32) (h' : ¬ (x % 32 = 31 ∧ x / 32 ≠ 0 ∧ x / 32 ≠ 1 ∧ x / 32 ≠ 6)) : hrd (x :: r) = .bad 21 := by
  simp only [hrd]
  rw [if_pos h, if_neg h']
theorem hrd_end {x : Nat} {r : List Nat} (h : x % 32 = 31) (h' : x / 32 ≠ 0 ∧ x / 32 ≠ 1 ∧ x / 32 ≠ 6) : hrd (x :: r) = ⟨x / 32, 31, 0, 1, true, 0⟩ := by
  simp only [hrd]
  rw [if_pos (by omega), if_pos ⟨h, h'⟩]
theorem hrd_small {x : Nat} {r : List Nat} (h : x % 32 < 24) : hrd (x :: r) = ⟨x / 32, x % 32, x % 32, 1, true, 0⟩ := by
  simp only [hrd]
  rw [if_neg (by omega), if_pos h]
theorem hrd_short {x : Nat} {r : List Nat} (h0 : 24 ≤ x % 32) (h1 : x % 32 ≤ 27) (h : r.length < hwide (x % 32)) : hrd (x :: r) = .bad 20 := by
  simp only [hrd]
  rw [if_neg (by omega), if_neg (by omega), if_pos h]
theorem hrd_low {x : Nat} {r : List Nat} (h1 : x % 32 = 24) (h : ¬ r.length < hwide (x % 32)) (hm : x / 32 = 7) (hn : bnum 0 (r.take (hwide (x % 32))) < 32) : hrd (x :: r) = .bad 21 := by
  simp only [hrd]
  rw [if_neg (by omega), if_neg (by omega), if_neg h, if_pos ⟨hm, h1, hn⟩]
theorem hrd_long {x : Nat} {r : List Nat} (h0 : 24 ≤ x % 32) (h1 : x % 32 ≤ 27) (h : ¬ r.length < hwide (x % 32)) (hn : ¬ (x / 32 = 7 ∧ x % 32 = 24 ∧ bnum 0 (r.take (hwide (x % 32))) < 32)) :
    hrd (x :: r) = ⟨x / 32, x % 32, bnum 0 (r.take (hwide (x % 32))), 1 + hwide (x % 32), decide (x / 32 = 7) || decide (1 + hwide (x % 32) = hsize (bnum 0 (r.take (hwide (x % 32))))), 0⟩ := by
  simp only [hrd]
  rw [if_neg (by omega), if_neg (by omega), if_neg h, if_neg hn]
theorem bnum_snoc : ∀ (a : Nat) (l : List Nat) (x : Nat), bnum a (l ++ [x]) = 256 * bnum a l + x
  | _, [], _ => rfl
  | a, y :: l, x => by simp only [List.cons_append, bnum]; exact bnum_snoc _ l x
theorem bnum_lt : ∀ (l : List Nat) (a : Nat), (∀ x ∈ l, x < 256) → bnum a l < (a + 1) * 256 ^ l.length
  | [], a, _ => by simp [bnum]
  | y :: l, a, h => by
    simp only [bnum, List.length_cons]
    have h1 := bnum_lt l (256 * a + y) (fun x hx => h x (List.mem_cons_of_mem _ hx))
    have h2 := h y (by simp)
    have h3 : (256 * a + y + 1) * 256 ^ l.length ≤ (256 * (a + 1)) * 256 ^ l.length := Nat.mul_le_mul_right _ (by omega)
    have h4 : (a + 1) * 256 ^ (l.length + 1) = (256 * (a + 1)) * 256 ^ l.length := by rw [Nat.pow_succ]; simp only [Nat.mul_assoc, Nat.mul_comm]
    omega
theorem take_snoc (l : List Nat) (j : Nat) (h : j < l.length) : l.take (j + 1) = l.take j ++ [l.getD j 0] := by
  rw [List.take_succ_eq_append_getElem h]
  simp [List.getD, h]
end
section
open Go.RowKit Go
abbrev Lx (α : Type) : Type := Except (Nat × Nat) α
def lnest (x : Nat) : Bool := decide (x / 32 = 4) || decide (x / 32 = 5)
def ltel (h : HR) : Bool := (decide (h.m = 2) || decide (h.m = 3)) && !decide (h.i = 31)
def lnh (r : List Nat) : Bool := match r with | [] => false | x :: _ => lnest x
def llook (b : List Nat) (dp p op : Nat) : Lx HR :=
  if lnh (b.drop p) = true ∧ op = dp then .error (91, p)
  else if (hrd (b.drop p)).e = 20 ∨ ((hrd (b.drop p)).e = 0 ∧ ltel (hrd (b.drop p)) = true ∧ (b.drop p).length - (hrd (b.drop p)).u < (hrd (b.drop p)).n) then .error (92, p)
  else if (hrd (b.drop p)).e ≠ 0 then .error (93, p)
  else .ok (hrd (b.drop p))
def lbind {α β : Type} (r : Lx α) (g : α → Lx β) : Lx β :=
  match r with
  | .error e => .error e
  | .ok x => g x
def litem (b : List Nat) (dp p op : Nat) : Lx (HR × Nat) :=
  lbind (llook b dp p op) fun h => if h.m = 7 ∧ h.i = 31 then .error (93, p) else .ok (h, p + h.u)
def lpiec (b : List Nat) (dp mj p op : Nat) : Lx (HR × Nat) :=
  lbind (llook b dp p op) fun h => if h.m ≠ mj ∨ h.i = 31 then .error (93, p) else .ok (h, p + h.u)
def ltags (b : List Nat) (dp op : Nat) : Nat → HR → Nat → Lx (HR × Nat)
  | 0, _, _ => .error (0, 0)
  | j + 1, h, p => if h.m = 6 then lbind (litem b dp p op) fun x => ltags b dp op j x.1 x.2 else .ok (h, p)
def lpcs (b : List Nat) (dp mj op : Nat) : Nat → Nat → Lx Nat
  | 0, _ => .error (0, 0)
  | j + 1, p => if b[p]? = some 255 then .ok (p + 1) else lbind (lpiec b dp mj p op) fun x => lpcs b dp mj op j (x.2 + x.1.n)
def lturn (f : Nat → Lx Nat) : Nat → Nat → Lx Nat
  | 0, p => .ok p
  | t + 1, p => lbind (f p) fun q => lturn f t q
def lins (f : Nat → Lx Nat) (b : List Nat) (h : HR) (t : Nat) : Nat → Nat → Nat → Lx Nat
  | 0, _, _ => .error (0, 0)
  | j + 1, n, p => if (if h.i = 31 then b[p]? ≠ some 255 else n < h.n) then lbind (lturn f t p) fun q => lins f b h t j (n + 1) q
    else .ok (if h.i = 31 then p + 1 else p)
def lbody (f : Nat → Lx Nat) (b : List Nat) (dp J op : Nat) (y : HR × Nat) : Lx Nat :=
  if y.1.m = 2 ∨ y.1.m = 3 then (if y.1.i = 31 then lpcs b dp y.1.m op J y.2 else .ok (y.2 + y.1.n))
  else if y.1.m = 4 ∨ y.1.m = 5 then lins f b y.1 (y.1.m - 3) J 0 y.2
  else .ok y.2
def lskip (b : List Nat) (dp J : Nat) : Nat → Nat → Nat → Lx Nat
  | 0, _, _ => .error (0, 0)
  | k + 1, p, op => lbind (litem b dp p op) fun x => lbind (ltags b dp op J x.1 x.2) fun y => lbody (fun q => lskip b dp J k q (op + 1)) b dp J op y
def lwhole (b : List Nat) (d : Int) (J : Nat) : Nat × Nat :=
  if d < 0 ∨ 1024 < d then (90, 0)
  else match lskip b d.toNat J (d.toNat + 1) 0 0 with
    | .error e => e
    | .ok p => if p < b.length then (94, p) else (0, 0)
end
section
open Go.RowKit Go
theorem wpList_exec {ops : Array Oper} {rest : List Oper} {o : Oper} {a : Act} {Q : Exit → Act → World → Prop} {w : World} {v : Value} (hgd : o.guard = none) (hr : (execOp a.eval o).run Tryz.prog w = .ok (.value v) w) (h : wpList Tryz.prog ops Q rest (a.put o.dst v) w) : wpList Tryz.prog ops Q (o :: rest) a w := by
  refine wpList_plain hgd fun K hK => ?_
  unfold Oper.wp
  rw [hr]
  exact hK _ _ h
def dropS (ad : Option Addr) (n cap k : Nat) : Value := match ad with
  | none => .slice none 0 0
  | some p => if cap = k then .slice (some p) 0 0 else .slice (some (p.add k)) (n - k) (cap - k)
theorem bsl_drop8 {w : World} {ad : Option Addr} {n cap k : Nat} {xs : List Nat} (h : BSl w (.slice ad n cap) xs) (hk : k ≤ xs.length) : BSl w (dropS ad n cap k) (xs.drop k) := by
  obtain ⟨⟨ad', cap', hv, hn, hc⟩, hmax, hby⟩ := h
  injection hv with e1 e2 e3
  subst e1 e2 e3
  have hlen : (xs.drop k).length = xs.length - k := List.length_drop
  cases ad with
  | none =>
    have hc0 := hn.2 rfl
    have e : xs.drop k = [] := List.drop_of_length_le (by omega)
    rw [e]
    exact ⟨⟨none, 0, rfl, ⟨Nat.le_refl _, fun _ => rfl⟩, .inl rfl⟩, by simp, by simp⟩
  | some p =>
    unfold dropS
    simp only
    by_cases hkk : cap = k
    · rw [if_pos hkk]
      have e : xs.drop k = [] := List.drop_of_length_le (by omega)
      rw [e]
      exact ⟨⟨some p, 0, rfl, ⟨Nat.le_refl _, fun e => by cases e⟩, .inl rfl⟩, by simp, by simp⟩
    · rw [if_neg hkk]
      refine ⟨⟨some (p.add k), cap - k, by rw [hlen], ⟨by rw [hlen]; omega, fun e => by cases e⟩, ?_⟩, by rw [hlen]; omega, fun z hz => hby z (List.mem_of_mem_drop hz)⟩
      rcases hc with hx0 | ⟨b, off, e, hcell⟩
      · left
        rw [hx0]
        simp
      · right
        injection e with e
        subst e
        have hadd : (⟨b, off, none⟩ : Addr).add k = ⟨b, off + k, none⟩ := by unfold Addr.add; split <;> simp_all
        rw [hadd]
        refine ⟨b, off + k, rfl, fun j hj => ?_⟩
        rw [hlen] at hj
        have h2 := hcell (k + j) (by omega)
        rw [← Nat.add_assoc] at h2
        rw [h2]
        simp [List.getD, List.getElem?_drop]
theorem exec_drop {o : Oper} {a : Act} {x y : Operand} {w : World} {ad : Option Addr} {n cap k : Nat} (ho : o.op = .slice 26 x (some y) none none) (hx : a.eval x = .slice ad n cap) (hy : a.eval y = .int .i64 (k : Nat)) (hk : k ≤ n) (hn : n ≤ cap) (hz : ad = none → cap = 0) : (execOp a.eval o).run Tryz.prog w = .ok (.value (dropS ad n cap k)) w := by
  unfold execOp
  simp only [ho, Option.map_some, Option.map_none, hx, hy]
  clear ho
  have hki : (k : Int) ≤ (n : Int) := by omega
  have hkc : (k : Int) ≤ (cap : Int) := by omega
  cases ad with
  | none =>
    have hc0 := hz rfl
    have hn0 : n = 0 := by omega
    have hk0 : k = 0 := by omega
    subst hk0 hn0 hc0
    unfold dropS
    go_simp
  | some p =>
    unfold dropS
    by_cases hkk : cap = k
    · have hnk : n = k := by omega
      subst hkk hnk
      simp only [if_true]
      go_simp
    · have hkl : (k : Int) < (cap : Int) := by omega
      simp only [if_neg hkk]
      go_simp
theorem bsl_take8 {w : World} {ad : Option Addr} {n cap k : Nat} {xs : List Nat} (h : BSl w (.slice ad n cap) xs) (hk : k ≤ xs.length) : BSl w (.slice ad k cap) (xs.take k) := by
  obtain ⟨⟨ad', cap', hv, hn, hc⟩, hmax, hby⟩ := h
  injection hv with e1 e2 e3
  subst e1 e2 e3
  have hlen : (xs.take k).length = k := by rw [List.length_take]; omega
  refine ⟨⟨ad, cap, by rw [hlen], ⟨by rw [hlen]; omega, hn.2⟩, ?_⟩, by rw [hlen]; omega, fun z hz => hby z (List.mem_of_mem_take hz)⟩
  rcases hc with hx0 | ⟨b, off, e, hcell⟩
  · left
    rw [hx0]
    simp
  · right
    refine ⟨b, off, e, fun j hj => ?_⟩
    rw [hlen] at hj
    rw [hcell j (by omega)]
    simp [List.getD, hj]
theorem exec_sub {o : Oper} {a : Act} {x y z : Operand} {w : World} {ad : Option Addr} {n cap k m : Nat} (ho : o.op = .slice 26 x (some y) (some z) none) (hx : a.eval x = .slice ad n cap) (hy : a.eval y = .int .i64 (k : Nat)) (hw : a.eval z = .int .i64 (m : Nat)) (hk : k ≤ m) (hm : m ≤ n) (hn : n ≤ cap) (hz : ad = none → cap = 0) : (execOp a.eval o).run Tryz.prog w = .ok (.value (dropS ad m cap k)) w := by
  unfold execOp
  simp only [ho, Option.map_some, Option.map_none, hx, hy, hw]
  clear ho
  have hki : (k : Int) ≤ (m : Int) := by omega
  have hkc : (m : Int) ≤ (cap : Int) := by omega
  have hkd : (k : Int) ≤ (cap : Int) := by omega
  cases ad with
  | none =>
    have hc0 := hz rfl
    have hn0 : n = 0 := by omega
    have hm0 : m = 0 := by omega
    have hk0 : k = 0 := by omega
    subst hk0 hm0 hn0 hc0
    unfold dropS
    go_simp
  | some p =>
    unfold dropS
    by_cases hkk : cap = k
    · have hnk : m = k := by omega
      subst hnk
      subst hkk
      simp only [if_true]
      go_simp
    · have hkl : (k : Int) < (cap : Int) := by omega
      simp only [if_neg hkk]
      go_simp
end
section
open Go.RowKit Go
section
variable {P : Program} {Q : Exit → Act → World → Prop} {S : World → Prop} {l : List Oper} {fuel : Nat} {listed : Array Bool} {a : Act} {w : World}
theorem heldStart {id : Nat} (hm : P.follows .mixedOrders = true) (h : wpAnyH P .any l.toArray Q S l.length (Array.replicate l.length false) a w.drew) : (Code.region id l.toArray true).wp P Q a w :=
  wp_region_held (S := S) hm (by simpa using h)
theorem heldTake (i : Nat) {oi : Oper} (v : Value) (hi : l[i]? = some oi) (hs : Region.noSelect l.toArray = true) (hf : Region.free .any l.toArray listed i = true) (hr : (Region.ready .any l.toArray listed).contains i = true)
    (hQ : ∀ c a w, Q (.panic c) (a.put oi.dst v) w → Q (.panic c) a w) (hw : Region.wanted oi (yielded l.toArray a.tmps) = true) (hS : S w) (hy : ∀ w, S w → (execOp a.eval oi).run P w = .ok (.value v) w)
    (h : wpAnyH P .any l.toArray Q S fuel (listed.setIfInBounds i true) (a.put oi.dst v) w) : wpAnyH P .any l.toArray Q S (fuel + 1) listed a w :=
  wpAnyH_take (by simpa using hi) hs hf hr hQ (.inl ⟨hw, hy⟩) hS h
theorem heldStep (i : Nat) {oi : Oper} (hi : l[i]? = some oi) (hr : Region.ready .any l.toArray listed = [i])
    (h : ∀ K : Act → World → Prop, Hid (∀ a w, S w → (S w → wpAnyH P .any l.toArray Q S fuel (listed.setIfInBounds i true) a w) → K a w) → if Region.wanted oi (yielded l.toArray a.tmps) = true then Oper.wp P oi a w K Q else K (a.put oi.dst undef) w) : wpAnyH P .any l.toArray Q S (fuel + 1) listed a w :=
  wpAnyH_ready hr (by simp) (AllReadyH.cons (by simpa using hi) (fun K hK => h K hK) AllReadyH.nil)
theorem heldDone (hr : Region.ready .any l.toArray listed = []) (h : Q .normal a w) : wpAnyH P .any l.toArray Q S fuel listed a w := wpAnyH_done hr h fuel
end
end
section
open Go.RowKit Go
theorem heldSkip {P : Program} {Q : Exit → Act → World → Prop} {S : World → Prop} {l : List Oper} {fuel : Nat} {listed : Array Bool} {a : Act} {w : World} (i : Nat) {oi : Oper} (hi : l[i]? = some oi) (hs : Region.noSelect l.toArray = true) (hf : Region.free .any l.toArray listed i = true) (hr : (Region.ready .any l.toArray listed).contains i = true)
    (hQ : ∀ c a w, Q (.panic c) (a.put oi.dst undef) w → Q (.panic c) a w) (hw : Region.wanted oi (yielded l.toArray a.tmps) = false) (hS : S w)
    (h : wpAnyH P .any l.toArray Q S fuel (listed.setIfInBounds i true) (a.put oi.dst undef) w) : wpAnyH P .any l.toArray Q S (fuel + 1) listed a w :=
  wpAnyH_take (by simpa using hi) hs hf hr hQ (.inr ⟨hw, rfl⟩) hS h
end
section
open Go.RowKit Go
def gup (c : Nat) (q : Nat) : Ending := .panicked [{ v := .iface 31 (.agg #[.int .i64 (c : Nat), .int .i64 (q : Nat)]), recovered := false }]
theorem giveUp_any (w : World) (c q : Nat) : Calls Tryz.prog 18 #[.int .i64 (c : Nat), .int .i64 (q : Nat)] w fun e w' => e = .panicked [{ v := .iface 31 (.agg #[.int .i64 (c : Nat), .int .i64 (q : Nat)]), recovered := false }] ∧ w' = w := by
  go_enter Tryz.func18, Tryz.ntmps18
  go_wp2_with fail
  exact ⟨rfl, rfl, rfl⟩
theorem nests9_any (w : World) (x : Nat) (hx : x < 256) : Calls Tryz.prog 60 #[.int .u8 (x : Nat)] w fun e w' => e = .returned (.bool (lnest x)) ∧ w' = w := by
  have e2 : IntKind.u8.wrap ((x : Int) / 32) = ((x : Int) / 32) := by rw [IntKind.wrap_u8]; omega
  have e3 : IntKind.i64.wrap ((x : Int) / 32) = ((x : Int) / 32) := by rw [IntKind.wrap_i64]; omega
  by_cases h4 : x / 32 = 4
  · have g1 : (((x : Int) / 32) == 4) = true := beq_iff_eq.2 (by omega)
    have HE : Hid (lnest x = true) := by show _ = _; unfold lnest; rw [decide_eq_true h4]; rfl
    clear h4
    go_enter Tryz.func60, Tryz.ntmps60
    go_wp2
    go_ret
    exact ⟨by rw [HE.out]; rfl, rfl⟩
  · have g1 : (((x : Int) / 32) == 4) = false := beq_eq_false_iff_ne.2 (by omega)
    have HE : Hid (lnest x = (((x : Int) / 32) == 5)) := by
      show _ = _
      unfold lnest
      rw [Bool.eq_iff_iff]
      simp
      omega
    clear h4
    go_enter Tryz.func60, Tryz.ntmps60
    go_wp2
    go_ret
    exact ⟨by rw [HE.out]; rfl, rfl⟩
theorem tells9_any (w : World) (h : HR) : Calls Tryz.prog 62 #[h.val] w fun e w' => e = .returned (.bool (ltel h)) ∧ Below w.heap.size w w' := by
  obtain ⟨m, i, n, u, s, e⟩ := h
  have HB := hide (below_alloc4 w (.cells #[.int .i64 (m : Nat), .int .i64 (i : Nat), .int .u64 (n : Nat), .int .i64 (u : Nat), .bool s] 66))
  have hg := heap_alloc_new w (.cells #[.int .i64 (m : Nat), .int .i64 (i : Nat), .int .u64 (n : Nat), .int .i64 (u : Nat), .bool s] 66)
  have d0 : (w.alloc (.cells #[.int .i64 (m : Nat), .int .i64 (i : Nat), .int .u64 (n : Nat), .int .i64 (u : Nat), .bool s] 66)).cell? ⟨w.heap.size, 0, none⟩ = some (.int .i64 (m : Nat)) := blk_cell hg rfl
  have d1 : (w.alloc (.cells #[.int .i64 (m : Nat), .int .i64 (i : Nat), .int .u64 (n : Nat), .int .i64 (u : Nat), .bool s] 66)).cell? ⟨w.heap.size, 1, none⟩ = some (.int .i64 (i : Nat)) := blk_cell hg rfl
  clear hg
  simp only [HR.val]
  have HL : Hid (ltel ⟨m, i, n, u, s, e⟩ = ((decide (m = 2) || decide (m = 3)) && !decide (i = 31))) := rfl
  by_cases h2 : m = 2
  · have g1 : ((m : Int) == 2) = true := beq_iff_eq.2 (by omega)
    have HE : Hid (ltel ⟨m, i, n, u, s, e⟩ = ((i : Int) != 31)) := by show _ = _; rw [HL.out, h2, Bool.eq_iff_iff]; simp; omega
    clear h2 HL
    go_enter Tryz.func62, Tryz.ntmps62
    go_wp2
    go_ret
    exact ⟨by rw [HE.out]; rfl, HB.out⟩
  · have g1 : ((m : Int) == 2) = false := beq_eq_false_iff_ne.2 (by omega)
    by_cases h3 : m = 3
    · have g2 : ((m : Int) == 3) = true := beq_iff_eq.2 (by omega)
      have HE : Hid (ltel ⟨m, i, n, u, s, e⟩ = ((i : Int) != 31)) := by show _ = _; rw [HL.out, h3, Bool.eq_iff_iff]; simp; omega
      clear h2 h3 HL
      go_enter Tryz.func62, Tryz.ntmps62
      go_wp2
      go_ret
      exact ⟨by rw [HE.out]; rfl, HB.out⟩
    · have g2 : ((m : Int) == 3) = false := beq_eq_false_iff_ne.2 (by omega)
      have HE : Hid (ltel ⟨m, i, n, u, s, e⟩ = false) := by show _ = _; rw [HL.out, decide_eq_false h2, decide_eq_false h3]; rfl
      clear h2 h3 HL
      go_enter Tryz.func62, Tryz.ntmps62
      go_wp2
      go_ret
      exact ⟨by rw [HE.out]; rfl, HB.out⟩
end
section
open Go.RowKit Go
structure Sr {α : Type} (pl : α → Nat) (r r' : Lx α) : Prop where
  ok : ∀ p, r = .ok p → r' = .ok p
  bad : ∀ c q, r = .error (c, q) → c ≠ 92 → r' = .error (c, q)
  short : ∀ q, r = .error (92, q) → (∀ c' q', r' = .error (c', q') → q ≤ q') ∧ ∀ x', r' = .ok x' → q ≤ pl x'
theorem Sr.yes {α : Type} (pl : α → Nat) (x : α) : Sr pl (.ok x) (.ok x) := ⟨fun _ h => h, fun _ _ h => (by cases h), fun _ h => (by cases h)⟩
theorem Sr.no {α : Type} (pl : α → Nat) (c q : Nat) (h : c ≠ 92) : Sr pl (.error (c, q)) (.error (c, q)) := ⟨fun _ h => h, fun _ _ h _ => h, fun _ e => (by injection e with e; injection e with e1 _; exact absurd e1 h)⟩
theorem Sr.bind {α β : Type} {pl : α → Nat} {pm : β → Nat} {r r' : Lx α} {g g' : α → Lx β} (h : Sr pl r r') (hg : ∀ x, r = .ok x → Sr pm (g x) (g' x)) (hm : ∀ x', r' = .ok x' → (∀ c' q', g' x' = .error (c', q') → pl x' ≤ q') ∧ ∀ y', g' x' = .ok y' → pl x' ≤ pm y') :
    Sr pm (lbind r g) (lbind r' g') := by
  cases r with
  | ok x =>
    rw [h.ok x rfl]
    exact hg x rfl
  | error e =>
    obtain ⟨c, q⟩ := e
    by_cases hc : c = 92
    · subst hc
      have hs := h.short q rfl
      refine ⟨fun _ e => (by cases e), fun c' q' e hc => ?_, fun q' e => ?_⟩
      · injection e with e
        injection e with e1 _
        exact absurd e1.symm hc
      · injection e with e
        injection e with _ e2
        subst e2
        cases r' with
        | error e' =>
          obtain ⟨c', q'⟩ := e'
          refine ⟨fun c'' q'' e => ?_, fun _ e => (by cases e)⟩
          injection e with e
          injection e with _ e2
          subst e2
          exact hs.1 c' q' rfl
        | ok x' =>
          have h1 := hs.2 x' rfl
          have h2 := hm x' rfl
          exact ⟨fun c'' q'' e => Nat.le_trans h1 (h2.1 c'' q'' e), fun y' e => Nat.le_trans h1 (h2.2 y' e)⟩
    · rw [h.bad c q rfl hc]
      exact Sr.no _ _ _ hc
def hrdc (x : Nat) (r : List Nat) : HR :=
  if 27 < x % 32 then (if x % 32 = 31 ∧ x / 32 ≠ 0 ∧ x / 32 ≠ 1 ∧ x / 32 ≠ 6 then ⟨x / 32, 31, 0, 1, true, 0⟩ else .bad 21)
  else if x % 32 < 24 then ⟨x / 32, x % 32, x % 32, 1, true, 0⟩
  else if r.length < hwide (x % 32) then .bad 20
  else if x / 32 = 7 ∧ x % 32 = 24 ∧ bnum 0 (r.take (hwide (x % 32))) < 32 then .bad 21
  else ⟨x / 32, x % 32, bnum 0 (r.take (hwide (x % 32))), 1 + hwide (x % 32), decide (x / 32 = 7) || decide (1 + hwide (x % 32) = hsize (bnum 0 (r.take (hwide (x % 32))))), 0⟩
theorem hrd_cons (x : Nat) (r : List Nat) : hrd (x :: r) = hrdc x r := rfl
theorem hrd_more (r c : List Nat) (h : (hrd r).e = 0) : hrd (r ++ c) = hrd r := by
  cases r with
  | nil => simp [hrd, HR.bad] at h
  | cons x r =>
    rw [hrd_cons] at h
    rw [List.cons_append, hrd_cons, hrd_cons]
    unfold hrdc at h ⊢
    by_cases h1 : 27 < x % 32
    · rw [if_pos h1, if_pos h1]
    · rw [if_neg h1] at h ⊢
      rw [if_neg h1]
      by_cases h2 : x % 32 < 24
      · rw [if_pos h2, if_pos h2]
      · rw [if_neg h2] at h ⊢
        rw [if_neg h2]
        by_cases h3 : r.length < hwide (x % 32)
        · rw [if_pos h3] at h
          simp [HR.bad] at h
        · rw [if_neg h3, if_neg (by rw [List.length_append]; omega), List.take_append_of_le_length (by omega)]
theorem hrd_more21 (r c : List Nat) (h : (hrd r).e = 21) : hrd (r ++ c) = hrd r := by
  cases r with
  | nil => simp [hrd, HR.bad] at h
  | cons x r =>
    rw [hrd_cons] at h
    rw [List.cons_append, hrd_cons, hrd_cons]
    unfold hrdc at h ⊢
    by_cases h1 : 27 < x % 32
    · rw [if_pos h1, if_pos h1]
    · rw [if_neg h1] at h ⊢
      rw [if_neg h1]
      by_cases h2 : x % 32 < 24
      · rw [if_pos h2, if_pos h2]
      · rw [if_neg h2] at h ⊢
        rw [if_neg h2]
        by_cases h3 : r.length < hwide (x % 32)
        · rw [if_pos h3] at h
          simp [HR.bad] at h
        · rw [if_neg h3, if_neg (by rw [List.length_append]; omega), List.take_append_of_le_length (by omega)]
theorem hrd_e (r : List Nat) : (hrd r).e = 0 ∨ (hrd r).e = 20 ∨ (hrd r).e = 21 := by
  unfold hrd
  split
  · exact .inr (.inl rfl)
  · split
    · split
      · exact .inl rfl
      · exact .inr (.inr rfl)
    · split
      · exact .inl rfl
      · split
        · exact .inr (.inl rfl)
        · split
          · exact .inr (.inr rfl)
          · exact .inl rfl
theorem hrd_used (r : List Nat) (h : (hrd r).e = 0) : 1 ≤ (hrd r).u ∧ (hrd r).u ≤ r.length := by
  cases r with
  | nil => simp [hrd, HR.bad] at h
  | cons x r =>
    rw [hrd_cons] at h ⊢
    unfold hrdc at h ⊢
    by_cases h1 : 27 < x % 32
    · rw [if_pos h1] at h ⊢
      by_cases h2 : x % 32 = 31 ∧ x / 32 ≠ 0 ∧ x / 32 ≠ 1 ∧ x / 32 ≠ 6
      · rw [if_pos h2]
        exact ⟨Nat.le_refl _, by simp⟩
      · rw [if_neg h2] at h
        simp [HR.bad] at h
    · rw [if_neg h1] at h ⊢
      by_cases h2 : x % 32 < 24
      · rw [if_pos h2]
        exact ⟨Nat.le_refl _, by simp⟩
      · rw [if_neg h2] at h ⊢
        by_cases h3 : r.length < hwide (x % 32)
        · rw [if_pos h3] at h
          simp [HR.bad] at h
        · rw [if_neg h3] at h ⊢
          by_cases h4 : x / 32 = 7 ∧ x % 32 = 24 ∧ bnum 0 (r.take (hwide (x % 32))) < 32
          · rw [if_pos h4] at h
            simp [HR.bad] at h
          · rw [if_neg h4]
            refine ⟨?_, ?_⟩
            · show 1 ≤ 1 + hwide (x % 32)
              omega
            · show 1 + hwide (x % 32) ≤ (x :: r).length
              rw [List.length_cons]
              omega
theorem lnh_more {r c : List Nat} (h : r ≠ []) : lnh (r ++ c) = lnh r := by
  cases r with
  | nil => exact absurd rfl h
  | cons x r => rfl
structure Lkd (b : List Nat) (dp p op : Nat) (r : Lx HR) : Prop where
  ok : ∀ h, r = .ok h → p < b.length ∧ h = hrd (b.drop p) ∧ h.e = 0 ∧ 1 ≤ h.u ∧ p + h.u ≤ b.length ∧ (ltel h = true → p + h.u + h.n ≤ b.length) ∧ (lnh (b.drop p) = true → op ≠ dp)
  bad : ∀ c q, r = .error (c, q) → q = p ∧ (c = 91 ∨ c = 92 ∨ c = 93)
theorem look_lkd (b : List Nat) (dp p op : Nat) : Lkd b dp p op (llook b dp p op) := by
  unfold llook
  by_cases h1 : lnh (b.drop p) = true ∧ op = dp
  · rw [if_pos h1]
    exact ⟨fun h e => by (cases e), fun c q e => by injection e with e; injection e with e1 e2; exact ⟨e2.symm, .inl e1.symm⟩⟩
  · rw [if_neg h1]
    by_cases h2 : (hrd (b.drop p)).e = 20 ∨ ((hrd (b.drop p)).e = 0 ∧ ltel (hrd (b.drop p)) = true ∧ (b.drop p).length - (hrd (b.drop p)).u < (hrd (b.drop p)).n)
    · rw [if_pos h2]
      exact ⟨fun h e => by (cases e), fun c q e => by injection e with e; injection e with e1 e2; exact ⟨e2.symm, .inr (.inl e1.symm)⟩⟩
    · rw [if_neg h2]
      by_cases h3 : (hrd (b.drop p)).e ≠ 0
      · rw [if_pos h3]
        exact ⟨fun h e => by (cases e), fun c q e => by injection e with e; injection e with e1 e2; exact ⟨e2.symm, .inr (.inr e1.symm)⟩⟩
      · rw [if_neg h3]
        have h0 : (hrd (b.drop p)).e = 0 := by omega
        have hu := hrd_used _ h0
        rw [List.length_drop] at hu
        refine ⟨fun h e => ?_, fun c q e => by (cases e)⟩
        injection e with e
        subst e
        refine ⟨by omega, rfl, h0, hu.1, by omega, fun ht => ?_, fun hn e => h1 ⟨hn, e⟩⟩
        have h4 := not_or.1 h2
        have h5 : ¬ (b.drop p).length - (hrd (b.drop p)).u < (hrd (b.drop p)).n := fun h => h4.2 ⟨h0, ht, h⟩
        rw [List.length_drop] at h5
        omega
theorem look_more (b c : List Nat) (dp p op : Nat) (hp : p ≤ b.length) : Sr (fun _ => p) (llook b dp p op) (llook (b ++ c) dp p op) := by
  have hd : (b ++ c).drop p = b.drop p ++ c := List.drop_append_of_le_length hp
  have hL := look_lkd b dp p op
  have hL2 := look_lkd (b ++ c) dp p op
  by_cases hne : b.drop p = []
  · have e1 : llook b dp p op = .error (92, p) := by
      unfold llook
      rw [hne]
      rw [if_neg (by simp [lnh]), if_pos (.inl rfl)]
    rw [e1]
    refine ⟨fun _ h => by (cases h), fun c q h hc => by injection h with h; injection h with h1 _; omega, fun q h => ?_⟩
    injection h with h
    injection h with _ h
    exact ⟨fun c' q' h' => by have := (hL2.bad c' q' h').1; omega, fun _ _ => by omega⟩
  · have hn := lnh_more (c := c) hne
    refine ⟨fun h e => ?_, fun k q e hc => ?_, fun q e => ?_⟩
    · have h1 := hL.ok h e
      have h2 : hrd (b.drop p ++ c) = hrd (b.drop p) := hrd_more _ _ (by rw [← h1.2.1]; exact h1.2.2.1)
      unfold llook
      rw [hd, hn, h2, ← h1.2.1]
      rw [if_neg (fun hh => h1.2.2.2.2.2.2 hh.1 hh.2), if_neg, if_neg (by have := h1.2.2.1; omega)]
      intro hh
      rcases hh with hh | ⟨_, ht, hh⟩
      · have := h1.2.2.1
        omega
      · have h3 := h1.2.2.2.2.2.1 ht
        rw [List.length_append, List.length_drop] at hh
        omega
    · have h1 := hL.bad k q e
      unfold llook at e ⊢
      rw [hd, hn]
      by_cases g1 : lnh (b.drop p) = true ∧ op = dp
      · rw [if_pos g1] at e ⊢
        exact e
      · rw [if_neg g1] at e ⊢
        by_cases g2 : (hrd (b.drop p)).e = 20 ∨ ((hrd (b.drop p)).e = 0 ∧ ltel (hrd (b.drop p)) = true ∧ (b.drop p).length - (hrd (b.drop p)).u < (hrd (b.drop p)).n)
        · rw [if_pos g2] at e
          injection e with e
          injection e with e1 _
          omega
        · rw [if_neg g2] at e
          by_cases g3 : (hrd (b.drop p)).e ≠ 0
          · rw [if_pos g3] at e
            have g4 : (hrd (b.drop p)).e = 21 := by
              rcases hrd_e (b.drop p) with h | h | h
              · exact absurd h g3
              · exact absurd (.inl h) g2
              · exact h
            rw [hrd_more21 _ c g4, if_neg, if_pos g3]
            · exact e
            · intro hh
              rcases hh with hh | hh
              · omega
              · exact g3 hh.1
          · rw [if_neg g3] at e
            cases e
    · have h1 := hL.bad _ q e
      exact ⟨fun c' q' e' => by have h2 := hL2.bad c' q' e'; omega, fun _ _ => by omega⟩
end
section
open Go.RowKit
theorem shortest_any (n : Nat) (w : World) (hn : n < 18446744073709551616) :
    Calls Tryz.prog 115 #[.int .u64 (n : Nat)] w fun e w' => e = .returned (.int .i64 (hinfo n : Nat)) ∧ w' = w := by
  rcases hinfo_cases n with ⟨h, e⟩ | ⟨h1, h, e⟩ | ⟨h1, h, e⟩ | ⟨h1, h, e⟩ | ⟨h1, e⟩
  · rw [e]
    have g1 : (n : Int) < 24 := by omega
    go_enter Tryz.func115, Tryz.ntmps115
    go_wp2
    go_ret
    exact ⟨rfl, rfl⟩
  · rw [e]
    have g1 : ¬ (n : Int) < 24 := by omega
    have g2 : (n : Int) ≤ 255 := by omega
    go_enter Tryz.func115, Tryz.ntmps115
    go_wp2
    go_ret
    exact ⟨rfl, rfl⟩
  · rw [e]
    have g1 : ¬ (n : Int) < 24 := by omega
    have g2 : ¬ (n : Int) ≤ 255 := by omega
    have g3 : (n : Int) ≤ 65535 := by omega
    go_enter Tryz.func115, Tryz.ntmps115
    go_wp2
    go_ret
    exact ⟨rfl, rfl⟩
  · rw [e]
    have g1 : ¬ (n : Int) < 24 := by omega
    have g2 : ¬ (n : Int) ≤ 255 := by omega
    have g3 : ¬ (n : Int) ≤ 65535 := by omega
    have g4 : (n : Int) ≤ 4294967295 := by omega
    go_enter Tryz.func115, Tryz.ntmps115
    go_wp2
    go_ret
    exact ⟨rfl, rfl⟩
  · rw [e]
    have g1 : ¬ (n : Int) < 24 := by omega
    have g2 : ¬ (n : Int) ≤ 255 := by omega
    have g3 : ¬ (n : Int) ≤ 65535 := by omega
    have g4 : ¬ (n : Int) ≤ 4294967295 := by omega
    go_enter Tryz.func115, Tryz.ntmps115
    go_wp2
    go_ret
    exact ⟨rfl, rfl⟩

theorem behind_any (i : Nat) (w : World) (hi : i < 32) :
    Calls Tryz.prog 85 #[.int .i64 (i : Nat)] w fun e w' => e = .returned (.int .i64 (hwide i : Nat)) ∧ w' = w := by
  by_cases h27 : i = 27
  · subst h27
    go_enter Tryz.func85, Tryz.ntmps85
    go_wp2
    go_ret
    exact ⟨rfl, rfl⟩
  · by_cases h26 : i = 26
    · subst h26
      go_enter Tryz.func85, Tryz.ntmps85
      go_wp2
      go_ret
      exact ⟨rfl, rfl⟩
    · by_cases h25 : i = 25
      · subst h25
        go_enter Tryz.func85, Tryz.ntmps85
        go_wp2
        go_ret
        exact ⟨rfl, rfl⟩
      · by_cases h24 : i = 24
        · subst h24
          go_enter Tryz.func85, Tryz.ntmps85
          go_wp2
          go_ret
          exact ⟨rfl, rfl⟩
        · have e : hwide i = 0 := by unfold hwide; rw [if_neg h24, if_neg h25, if_neg h26, if_neg h27]
          rw [e]
          have g27 : ((i : Int) == 27) = false := beq_eq_false_iff_ne.2 (by omega)
          have g26 : ((i : Int) == 26) = false := beq_eq_false_iff_ne.2 (by omega)
          have g25 : ((i : Int) == 25) = false := beq_eq_false_iff_ne.2 (by omega)
          have g24 : ((i : Int) == 24) = false := beq_eq_false_iff_ne.2 (by omega)
          go_enter Tryz.func85, Tryz.ntmps85
          go_wp2
          go_ret
          exact ⟨rfl, rfl⟩

def hmay (m i : Nat) : Prop := ¬ 27 < i ∨ (i = 31 ∧ m ≠ 0 ∧ m ≠ 1 ∧ m ≠ 6)
instance (m i : Nat) : Decidable (hmay m i) := by unfold hmay; infer_instance

theorem mayBe_any (m i : Nat) (w : World) (hm : m ≤ 7) (hi : i ≤ 31) :
    Calls Tryz.prog 84 #[.int .i64 (m : Nat), .int .i64 (i : Nat)] w fun e w' => e = .returned (.bool (decide (hmay m i))) ∧ w' = w := by
  by_cases h27 : i ≤ 27
  · rw [decide_eq_true (show hmay m i from .inl (by omega))]
    have g1 : (i : Int) ≤ 27 := by omega
    go_enter Tryz.func84, Tryz.ntmps84
    go_wp2
    go_ret
    exact ⟨rfl, rfl⟩
  · have g1 : ¬ (i : Int) ≤ 27 := by omega
    by_cases h31 : i < 31
    · rw [decide_eq_false (show ¬ hmay m i by unfold hmay; omega)]
      have g2 : (i : Int) < 31 := by omega
      go_enter Tryz.func84, Tryz.ntmps84
      go_wp2
      go_ret
      exact ⟨rfl, rfl⟩
    · have g2 : ¬ (i : Int) < 31 := by omega
      by_cases h0 : m = 0
      · rw [decide_eq_false (show ¬ hmay m i by unfold hmay; omega)]
        subst h0
        go_enter Tryz.func84, Tryz.ntmps84
        go_wp2
        go_ret
        exact ⟨rfl, rfl⟩
      · have q0 : ((m : Int) != 0) = true := bne_iff_ne.2 (by omega)
        by_cases h1 : m = 1
        · rw [decide_eq_false (show ¬ hmay m i by unfold hmay; omega)]
          subst h1
          go_enter Tryz.func84, Tryz.ntmps84
          go_wp2
          go_ret
          exact ⟨rfl, rfl⟩
        · have q1 : ((m : Int) != 1) = true := bne_iff_ne.2 (by omega)
          by_cases h6 : m = 6
          · rw [decide_eq_false (show ¬ hmay m i by unfold hmay; omega)]
            subst h6
            go_enter Tryz.func84, Tryz.ntmps84
            go_wp2
            go_ret
            exact ⟨rfl, rfl⟩
          · have q6 : ((m : Int) != 6) = true := bne_iff_ne.2 (by omega)
            rw [decide_eq_true (show hmay m i by unfold hmay; omega)]
            go_enter Tryz.func84, Tryz.ntmps84
            go_wp2
            go_ret
            exact ⟨rfl, rfl⟩

theorem size_any (n : Nat) (w : World) (hn : n < 18446744073709551616) :
    Calls Tryz.prog 87 #[.int .u64 (n : Nat)] w fun e w' => e = .returned (.int .i64 (hsize n : Nat)) ∧ w' = w := by
  have HN := hide hn
  clear hn
  go_enter Tryz.func87, Tryz.ntmps87
  go_wp2_with fail
  refine (shortest_any n _ HN.out).mono ?_
  rintro e w1 ⟨rfl, rfl⟩
  go_wp2_with fail
  refine (behind_any _ _ (by have := hinfo_lt n; omega)).mono ?_
  rintro e w1 ⟨rfl, rfl⟩
  have h8 := hwide_le (hinfo n)
  have HS : Hid (((hsize n : Nat) : Int) = 1 + (hwide (hinfo n) : Int)) := by show _ = _; unfold hsize; omega
  generalize hwide (hinfo n) = W at *
  go_wp2
  go_ret
  exact ⟨by rw [HS.out]; rfl, rfl⟩
end
section
open Go.RowKit

end
section
open Go.RowKit
theorem u64_shor (N y : Nat) (hN : N < 72057594037927936) (hy : y < 256) : bits .or .u64 ((N : Int) * 256) (y : Int) = ((256 * N + y : Nat) : Int) := by
  have e : (N : Int) * 256 = ((2 ^ 8 * N : Nat) : Int) := by omega
  rw [e, u64_or_nat _ _ (by omega) (by omega), ← Nat.two_pow_add_eq_or_of_lt (i := 8) hy]
theorem i64_or_nat (a b : Nat) (ha : a < 9223372036854775808) (hb : b < 9223372036854775808) : bits .or .i64 (a : Int) (b : Int) = ((a ||| b : Nat) : Int) := by
  have hx : a ||| b < 2 ^ 63 := Nat.or_lt_two_pow (by omega) (by omega)
  show IntKind.i64.wrap ((BitVec.ofInt 64 (a : Int) ||| BitVec.ofInt 64 (b : Int)).toNat : Int) = _
  rw [BitVec.toNat_or, ofInt_u64 a (by omega), ofInt_u64 b (by omega), IntKind.wrap_i64]
  omega
theorem first_byte (M i : Nat) (hM : M ≤ 7) (hi : i < 32) : bits .or .i64 ((M : Int) * 32) (i : Int) % 256 = ((32 * M + i : Nat) : Int) := by
  have e : (M : Int) * 32 = ((2 ^ 5 * M : Nat) : Int) := by omega
  rw [e, i64_or_nat _ _ (by omega) (by omega), ← Nat.two_pow_add_eq_or_of_lt (i := 5) (by omega)]
  omega
theorem own_nine (w : World) (x : Nat) (o : Obj) : ((w.alloc (.cells #[.int .u8 ((x : Nat) : Int), .int .u8 0, .int .u8 0, .int .u8 0, .int .u8 0, .int .u8 0, .int .u8 0, .int .u8 0, .int .u8 0] 5)).alloc o).ownsRow w.heap.size 5 1 (.slice (some ⟨w.heap.size, 0, none⟩) 1 9) 1 (bv [x]) :=
  ⟨rfl, .inr ⟨w.heap.size, 9, _, rfl, Nat.le_refl _, blk_alloc o (heap_alloc_new w _), by decide, by decide, rfl, rfl⟩⟩
theorem be_get : ∀ k n j, j < k → (be k n).getD j 0 = n / 256 ^ (k - 1 - j) % 256
  | 0, _, _, h => by omega
  | k + 1, n, 0, _ => by simp [be]
  | k + 1, n, j + 1, h => by
    have e : k + 1 - 1 - (j + 1) = k - 1 - j := by omega
    rw [e, ← be_get k n j (by omega)]
    simp [be]
theorem argument_any (i : Nat) (w : World) (v : Value) (xs : List Nat) (hi : i ≤ 31) (hsl : BSl w v xs) (h8 : xs.length ≤ 8) :
    Calls Tryz.prog 86 #[.int .i64 (i : Nat), v] w fun e w' => e = .returned (.int .u64 (if i < 24 then i else bnum 0 xs : Nat)) ∧ w' = w := by
  by_cases h24 : i < 24
  · rw [if_pos h24]
    have g : (i : Int) < 24 := by omega
    obtain ⟨⟨a, cap, rfl, hn, hc⟩, hmax, hb⟩ := hsl
    clear hn hc hb
    go_enter Tryz.func86, Tryz.ntmps86
    go_wp2
    go_ret
    exact ⟨rfl, rfl⟩
  · rw [if_neg h24]
    have g : ¬ (i : Int) < 24 := by omega
    have HS := hide hsl
    obtain ⟨⟨a, cap, rfl, hn, hc⟩, hmax, hb⟩ := hsl
    clear hn hc hb
    go_enter Tryz.func86, Tryz.ntmps86
    go_wp2
    go_loopw [5, 14] (fun nn k wr => ∃ j : Nat, j ≤ xs.length ∧ k = .int .i64 (j : Nat) ∧ nn = .int .u64 (bnum 0 (xs.take j) : Nat) ∧ wr = w) (fun _ k _ => (xs.length : Int).toNat - (intOf k).toNat)
    case atStart => exact ⟨0, Nat.zero_le _, rfl, rfl, rfl⟩
    case round =>
      obtain ⟨j, hj, rfl, rfl, rfl⟩ := hrel
      by_cases hlt : j < xs.length
      · have hlt' : (j : Int) < (xs.length : Int) := by omega
        obtain ⟨⟨a', cap', hv, hn, hc⟩, hm2, hb⟩ := HS.out
        injection hv with hv1 hv2 hv3
        subst hv1
        subst hv3
        rcases hc with hc | ⟨b, off, rfl, hc⟩
        · subst hc; simp at hlt
        have c := hc j hlt
        have hy : xs.getD j 0 < 256 := getD_lt hb j
        have hN : bnum 0 (xs.take j) < 72057594037927936 := by
          have h1 := bnum_lt (xs.take j) 0 (fun z hz => hb z (List.mem_of_mem_take hz))
          have h2 : (xs.take j).length ≤ 7 := by rw [List.length_take]; omega
          have h3 : 256 ^ (xs.take j).length ≤ 256 ^ 7 := Nat.pow_le_pow_right (by decide) h2
          simp at h1 h3; omega
        have HST : Hid (bnum 0 (xs.take (j + 1)) = 256 * bnum 0 (xs.take j) + xs.getD j 0) := by
          show _ = _
          rw [take_snoc xs j hlt, bnum_snoc]
        have HU := hide (u64_shor _ _ hN hy)
        clear hc hb hn hm2 HS
        generalize bnum 0 (xs.take j) = N at *
        generalize xs.getD j 0 = y at *
        go_wp2
        go_roundw
        case rel => exact ⟨j + 1, by omega, by go_num, by rw [HST.out, ← HU.out], trivial⟩
        case measure => simp [intOf]; omega
      · have hlt' : ¬ (j : Int) < (xs.length : Int) := by omega
        have e : xs.take j = xs := List.take_of_length_le (by omega)
        rw [e]
        go_wp2
        go_ret
        exact ⟨rfl, rfl⟩

theorem lay_any (m : Int) (n : Nat) (w : World) (hm : -9223372036854775808 ≤ m ∧ m ≤ 9223372036854775807) (hn : n < 18446744073709551616) :
    Calls Tryz.prog 189 #[.int .i64 m, .int .u64 (n : Nat)] w fun e w' => ∃ v, e = .returned v ∧ w'.ownsRow w.heap.size 5 1 v (hlay m n).length (bv (hlay m n)) ∧ Below w.heap.size w w' := by
  by_cases h0 : 0 ≤ m ∧ m ≤ 7
  · have e : hlay m n = hl m.toNat n := by unfold hlay; rw [if_pos h0]
    rw [e]
    obtain ⟨M, rfl⟩ := Int.eq_ofNat_of_zero_le h0.1
    rw [Int.toNat_natCast]
    have h1 := h0.1
    have h2 := h0.2
    have hM : M ≤ 7 := by omega
    clear e h0 hm
    have HN := hide hn
    clear hn
    have hmk := make9
    go_enter Tryz.func189, Tryz.ntmps189
    go_wp2_with fail
    refine (shortest_any n _ HN.out).mono ?_
    rintro e w1 ⟨rfl, rfl⟩
    have hi28 := hinfo_lt n
    have HL : Hid (hl M n = (32 * M + hinfo n) :: be (hwide (hinfo n)) n) := rfl
    generalize hinfo n = i at *
    go_wp2_with fail
    refine (behind_any _ _ (by omega)).mono ?_
    rintro e w2 ⟨rfl, rfl⟩
    rw [first_byte M i hM (by omega)]
    have HO := hide (own_nine w1 (32 * M + i) (.cells #[.int .u8 ((32 * M + i : Nat) : Int)] 5))
    have HBW : Hid (Below w1.heap.size w1 ((w1.alloc (.cells #[.int .u8 ((32 * M + i : Nat) : Int), .int .u8 0, .int .u8 0, .int .u8 0, .int .u8 0, .int .u8 0, .int .u8 0, .int .u8 0, .int .u8 0] 5)).alloc (.cells #[.int .u8 ((32 * M + i : Nat) : Int)] 5))) := ((Below.refl _ _).alloc (Nat.le_refl _) _).alloc (by simp) _
    generalize ((w1.alloc (.cells #[.int .u8 ((32 * M + i : Nat) : Int), .int .u8 0, .int .u8 0, .int .u8 0, .int .u8 0, .int .u8 0, .int .u8 0, .int .u8 0, .int .u8 0] 5)).alloc (.cells #[.int .u8 ((32 * M + i : Nat) : Int)] 5)) = w3 at *
    have hk8 := hwide_le i
    generalize hwide i = k at *
    generalize hB : w1.heap.size = B at *
    have HB := hide hB
    clear hB hmk
    go_wp2
    go_loopw [6, 7] (fun bb q wr => ∃ j : Nat, j ≤ k ∧ q = .int .i64 ((k : Int) - 1 - j) ∧ wr.ownsRow B 5 1 bb (1 + j) (bv ((32 * M + i) :: (be k n).take j)) ∧ Below B w1 wr) (fun _ q _ => (intOf q + 1).toNat)
    case atStart => exact ⟨0, Nat.zero_le _, by simp, by simpa using HO.out, HBW.out⟩
    case round =>
      obtain ⟨j, hj, rfl, hown, hbel⟩ := hrel
      clear HO HBW
      have HO := hide hown
      have HBL := hide hbel
      clear hown hbel
      by_cases hlt : j < k
      · have hlt' : (0 : Int) ≤ (k : Int) - 1 - j := by omega
        have hidx : ((k : Int) - 1 - j) = ((k - 1 - j : Nat) : Int) := by omega
        rw [hidx]
        have hq8 : k - 1 - j < 8 := by omega
        have HTK : Hid ((be k n).take (j + 1) = (be k n).take j ++ [n / 256 ^ (k - 1 - j) % 256]) := by
          show _ = _
          rw [← be_get k n j hlt]
          exact take_snoc _ _ (by rw [be_len]; exact hlt)
        have HID : Hid (((k - 1 - j : Nat) : Int) - 1 = (k : Int) - 1 - ((j + 1 : Nat) : Int)) := by show _ = _; omega
        generalize k - 1 - j = q at *
        clear hidx hlt'
        have hc : ((n / 256 ^ q % 256 : Nat) : Int) = (n : Int) / 2 ^ (8 * q) % 256 := by rw [pow_int8]; omega
        have HSL := hide (one_bsl wr (n / 256 ^ q % 256) (Nat.mod_lt _ (by decide)))
        rw [hc] at HSL
        have HOA := hide (HO.out.alloc (.cells #[.int .u8 ((n : Int) / 2 ^ (8 * q) % 256)] 5))
        clear hc HO
        go_wp2_with (at_builtin; refine append_bsl rfl _ _ rfl B _ (1 + j) _ rfl HOA.out _ [n / 256 ^ q % 256] rfl HSL.out ?b1 ?b2 ?_)
        case b1 => simp; omega
        case b2 => have := HBL.out.size; have := HB.out; simp; omega
        intro v2 w2 hown2 hgr2
        have hlo := fun g (h : _ = some g) => (HOA.out.lt g h).1
        have HB2 : Hid (Below B w1 w2) := (HBL.out.alloc (by have := HBL.out.size; have := HB.out; omega) _).grown hgr2 (by have := HBL.out.size; have := HB.out; simp; omega) (fun g hg => hlo g hg)
        have HO2 : Hid (w2.ownsRow B 5 1 v2 (1 + (j + 1)) (bv ((32 * M + i) :: (be k n).take (j + 1)))) := by
          show World.ownsRow _ _ _ _ _ _ _
          rw [HTK.out]
          have h := hown2
          simpa [Nat.add_assoc] using h
        clear hown2 hgr2 hlo HSL HOA HTK
        go_wp2
        go_roundw
        case rel => exact ⟨j + 1, by omega, by rw [← HID.out], HO2.out, HB2.out⟩
        case measure => simp [intOf]
      · have hjk : j = k := by omega
        subst hjk
        have hlt' : ¬ (0 : Int) ≤ (j : Int) - 1 - j := by omega
        have ho := HO.out
        rw [List.take_of_length_le (by rw [be_len]; exact Nat.le_refl _), ← HL.out] at ho
        have HO2 : Hid _ := hide ho
        clear ho HO
        go_wp2
        go_ret
        have e : (hl M n).length = 1 + j := by rw [HL.out]; simp [be_len]; omega
        rw [e, HB.out]
        exact ⟨_, rfl, HO2.out, HBL.out⟩
  · have e : hlay m n = [] := by unfold hlay; rw [if_neg h0]
    rw [e]
    by_cases hneg : m < 0
    · go_enter Tryz.func189, Tryz.ntmps189
      go_wp2
      go_ret
      exact ⟨_, rfl, World.ownsRow_nil _ _ _ _, Below.refl _ _⟩
    · have h7 : 7 < m := by omega
      have hneg' : ¬ m < 0 := hneg
      go_enter Tryz.func189, Tryz.ntmps189
      go_wp2
      go_ret
      exact ⟨_, rfl, World.ownsRow_nil _ _ _ _, Below.refl _ _⟩
end
section
open Go.RowKit
theorem below_set1 {A : Nat} {w wc : World} (h : Below A w wc) (b j : Nat) (hb : A ≤ b) (v : Value) : Below A w (wc.setCell ⟨b, j, none⟩ v) := h.setCell hb v

def PH (w : World) (P : Nat) (m i n u : Nat) (s : Bool) : Prop := w.heap[P]? = some (.cells #[.int .i64 (m : Nat), .int .i64 (i : Nat), .int .u64 (n : Nat), .int .i64 (u : Nat), .bool s] 66 (0, 0))

theorem ph_used {w : World} {P m i n s : Nat} (h : PH w P m i n 0 false) : PH (w.setCell ⟨P, 3, none⟩ (.int .i64 (1 + (s : Int)))) P m i n (1 + s) false := by
  have h2 := blk_set 3 (.int .i64 (1 + (s : Int))) h
  have e : (1 + (s : Int)) = ((1 + s : Nat) : Int) := by omega
  rw [e] at h2 ⊢
  exact h2
theorem ph_arg {w : World} {b off L cap W P x : Nat} {r : List Nat} (h : BSl w (.slice (some ⟨b, off, none⟩) L cap) (x :: r)) (hl : ¬ r.length < W) (hb : ¬ b = P) (u : Value) : BSl (w.setCell ⟨P, 3, none⟩ u) (.slice (some ⟨b, off + 1, none⟩) W (cap - 1)) (r.take W) := by
  obtain ⟨⟨a, cap', hv, hn, hc⟩, hmax, hby⟩ := h
  injection hv with h1 h2 h3
  subst h1
  subst h3
  have hlen : (x :: r).length = r.length + 1 := rfl
  have ht : (r.take W).length = W := by rw [List.length_take]; omega
  refine ⟨⟨_, cap - 1, by rw [ht], ⟨by rw [ht]; omega, fun h => by cases h⟩, .inr ⟨b, off + 1, rfl, fun j hj => ?_⟩⟩, by rw [ht]; omega, fun z hz => hby z (List.mem_cons_of_mem _ (List.mem_of_mem_take hz))⟩
  rcases hc with hc | ⟨b', off', e, hc⟩
  · cases hc
  · injection e with e
    injection e with e1 e2 e3
    subst e1
    subst e2
    have hq := hc (j + 1) (by omega)
    have e : off + (j + 1) = off + 1 + j := by omega
    rw [e] at hq
    have hg : (x :: r).getD (j + 1) 0 = (r.take W).getD j 0 := by
      simp only [List.getD_eq_getElem?_getD, List.getElem?_cons_succ]
      rw [List.getElem?_take_of_lt (by omega)]
    rw [hg] at hq
    refine (World.cell?_of_block ?_).trans hq
    exact Below.heap_setCell w ⟨P, 3, none⟩ u b hb

def harg (i : Nat) (r : List Nat) : Nat := if i < 24 then i else bnum 0 (r.take (hwide i))
theorem harg_lt (i : Nat) (r : List Nat) (hi : i ≤ 31) (hb : ∀ z ∈ r, z < 256) : harg i r < 18446744073709551616 := by
  unfold harg
  split
  · omega
  · have h1 := bnum_lt (r.take (hwide i)) 0 (fun z hz => hb z (List.mem_of_mem_take hz))
    have h2 : (r.take (hwide i)).length ≤ 8 := by rw [List.length_take]; have := hwide_le i; omega
    have h3 : 256 ^ (r.take (hwide i)).length ≤ 256 ^ 8 := Nat.pow_le_pow_right (by decide) h2
    simp at h1 h3; omega
theorem hsize_small {n : Nat} (h : n < 24) : hsize n = 1 := by
  have := hinfo_cases n
  have e : hinfo n = n := by omega
  unfold hsize
  rw [e, hwide_small h]
theorem hwide31 : hwide 31 = 0 := rfl
theorem hrd_not {x : Nat} {r : List Nat} (h : ¬ hmay (x / 32) (x % 32)) : hrd (x :: r) = .bad 21 := by
  unfold hmay at h
  exact hrd_info (by omega) (by omega)
theorem hrd_few {x : Nat} {r : List Nat} (h : hmay (x / 32) (x % 32)) (hl : r.length < hwide (x % 32)) : hrd (x :: r) = .bad 20 := by
  unfold hmay at h
  have h24 : 24 ≤ x % 32 := by
    by_cases h' : x % 32 < 24
    · rw [hwide_small h'] at hl; omega
    · omega
  have h27 : x % 32 ≤ 27 := by
    by_cases h' : x % 32 = 31
    · rw [h', hwide31] at hl; omega
    · omega
  exact hrd_short h24 h27 hl
theorem hrd_two {x : Nat} {r : List Nat} (hl : ¬ r.length < hwide (x % 32)) (hm : x / 32 = 7) (hi : x % 32 = 24) (hn : harg (x % 32) r < 32) : hrd (x :: r) = .bad 21 := by
  unfold harg at hn
  rw [if_neg (by omega)] at hn
  exact hrd_low hi hl hm hn
theorem hrd_all {x : Nat} {r : List Nat} (h : hmay (x / 32) (x % 32)) (hl : ¬ r.length < hwide (x % 32)) (hn : ¬ (x / 32 = 7 ∧ x % 32 = 24 ∧ harg (x % 32) r < 32)) :
    hrd (x :: r) = ⟨x / 32, x % 32, harg (x % 32) r, 1 + hwide (x % 32), decide (x % 32 = 31) || (decide (x / 32 = 7) || decide (1 + hwide (x % 32) = hsize (harg (x % 32) r))), 0⟩ := by
  unfold hmay at h
  by_cases h24 : x % 32 < 24
  · rw [hrd_small h24]
    have e : harg (x % 32) r = x % 32 := by unfold harg; rw [if_pos h24]
    rw [e, hwide_small h24, hsize_small h24]
    simp
  · by_cases h31 : x % 32 = 31
    · rw [hrd_end h31 (by omega)]
      have e : harg (x % 32) r = 0 := by unfold harg; rw [if_neg h24, h31, hwide31]; rfl
      rw [e, h31, hwide31]
      simp
    · have e : harg (x % 32) r = bnum 0 (r.take (hwide (x % 32))) := by unfold harg; rw [if_neg h24]
      rw [e] at hn ⊢
      rw [hrd_long (by omega) (by omega) hl hn, decide_eq_false h31, Bool.false_or]
end
end Go.Proofs.YtmcamdcgnegmmaaGreatDoor
