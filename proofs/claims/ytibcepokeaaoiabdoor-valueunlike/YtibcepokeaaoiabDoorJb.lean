import Derived.Test.YtibcepokeaaoiabDoorJa
import Derived.Deep.RegionLaw
import Derived.Deep.LoopGhost
import Derived.Deep.DeepCutAuto
namespace Go.Proofs.YtibcepokeaaoiabDoor
section
open Go.RowKit
/-- 'append(l, x...)' at bytes, as one step of a region that draws its order. -/
theorem step_append_bsl {ops : Array Oper} {o : Oper} {a : Act} {w : World} {K : Act → World → Prop} {Q : Exit → Act → World → Prop} {E : Prop} (hgd : o.guard = none) (s x : Operand)
    (ho : o.op = .call { callee := .builtin .append, args := #[s, x], argTypes := #[23, 23] }) (B : Nat) (v : Value) (n : Nat) (ds : List Nat) (hs : a.eval s = v) (hown : w.ownsRow B 5 1 v n (bv ds))
    (u : Value) (xs : List Nat) (hx : a.eval x = u) (hsl : BSl w u xs) (hlen : n + xs.length ≤ 140737488355328) (hbase : B ≤ w.heap.size)
    (hK : ∀ v' w', w'.ownsRow B 5 1 v' (n + xs.length) (bv (ds ++ xs)) → w.grownBy w' v.ownBlock → K (a.put o.dst v') w') :
    if Region.wanted o (yielded ops a.tmps) = true then Oper.wp Tryd.prog o a w K Q else E := by
  have hw : Region.wanted o (yielded ops a.tmps) = true := by simp [Region.wanted, hgd]
  rw [if_pos hw]
  obtain ⟨i5, hi, hz0, hz1, hz2⟩ := info5_ex
  obtain ⟨⟨ad, cap, rfl, hn, hc⟩, hmax, hb⟩ := id hsl
  cases ad with
  | none =>
    rcases hc with rfl | ⟨_, _, e, _⟩
    · have := hn.2 rfl
      subst this
      have hrun := run_append_owned_none (P := Tryd.prog) (w := w) B 23 o.type 5 i5 1 Tryd.underlying23 hi v n (bv ds) hown
      unfold Oper.wp
      simp only [List.length_nil] at hx
      simp [execOp, ho, resolve, invoke, builtin, hs, hx, hrun, Result.andThen]
      exact hK v w (by simpa using hown) ⟨rfl, rfl, rfl, Nat.le_refl _, fun _ _ _ => rfl⟩
    · cases e
  | some ad =>
    obtain ⟨v', w', hrun, r1, r2, _⟩ := run_append_own (P := Tryd.prog) w B 23 o.type 5 i5 (.int .u8 0) 1 1 Tryd.underlying23 hi hz0 hz1 hz2 rfl (by decide) v n (bv ds) hown ad xs.length cap (bv xs) (by simp [bv]) hsl.src.2 (bv_one xs) (by unfold maxLen; omega) (by omega) hbase
    unfold Oper.wp
    simp [execOp, ho, resolve, invoke, builtin, hs, hx, hrun, Result.andThen]
    exact hK v' w' (by rw [bv_app]; exact r1) r2
end
section
open Go.RowKit
theorem zer_spec (n k : Nat) (h : (n + 1 + k) % 64 = 56) (hk : k < 64) : zer n = k := by unfold zer; omega
theorem zer_lt (n : Nat) : zer n < 64 := by unfold zer; omega
theorem zer_mod (n : Nat) : (n + 1 + zer n) % 64 = 56 := by unfold zer; omega

theorem beb_get : ∀ k n j, j < k → (beb k n).getD j 0 = n / 256 ^ (k - 1 - j) % 256
  | 0, _, _, h => by omega
  | k + 1, n, 0, _ => by simp [beb]
  | k + 1, n, j + 1, h => by
    have e : k + 1 - 1 - (j + 1) = k - 1 - j := by omega
    rw [e, ← beb_get k n j (by omega)]
    simp [beb]
theorem pow_int8 (k : Nat) : (2 : Int) ^ (8 * k) = ((256 ^ k : Nat) : Int) := by
  rw [Int.pow_mul, Int.natCast_pow]; rfl
theorem take_snoc3 (l : List Nat) (j : Nat) (h : j < l.length) : l.take (j + 1) = l.take j ++ [l.getD j 0] := by
  rw [List.take_succ_eq_append_getElem h]
  simp [List.getD, h]
def lenOf : Value → Nat
  | .slice _ n _ => n
  | _ => 0
theorem own_lenOf {w : World} {base : Nat} {e : TypeId} {v : Value} {n : Nat} {xs : List Value} (h : w.ownsRow base e 1 v n xs) : lenOf v = n := by
  obtain ⟨a, c, rfl, _⟩ := own_form h
  rfl
end
section
open Go.RowKit
theorem pad_len (b : List Nat) : (pad b).length = b.length + 1 + zer b.length + 8 := by simp [pad, beb_len]; omega
theorem pad_mod (b : List Nat) : (pad b).length % 64 = 0 := by rw [pad_len]; have := zer_mod b.length; omega
theorem pad_byte (b : List Nat) (h : ∀ x ∈ b, x < 256) : ∀ x ∈ pad b, x < 256 := by
  intro x hx
  unfold pad at hx
  rcases List.mem_append.1 hx with hx | hx
  · rcases List.mem_append.1 hx with hx | hx
    · rcases List.mem_append.1 hx with hx | hx
      · exact h x hx
      · simp at hx; omega
    · have := List.eq_of_mem_replicate hx; omega
  · exact beb_byte _ _ _ hx
theorem cmp_lt (b : List Nat) (p : Nat) (s : List Nat) : ∀ x ∈ cmp b p s, x < 4294967296 := by
  intro x hx
  unfold cmp at hx
  obtain ⟨i, hi, e⟩ := List.mem_iff_getElem.1 hx
  rw [List.getElem_zipWith] at e
  rw [← e]
  exact Nat.mod_lt _ (by decide)
theorem abs_lt (b s : List Nat) (h : ∀ x ∈ s, x < 4294967296) : ∀ n, ∀ x ∈ abs b s n, x < 4294967296
  | 0, x, hx => h x hx
  | _ + 1, x, hx => cmp_lt _ _ _ x hx
theorem hh_lt : ∀ x ∈ hh, x < 4294967296 := by decide

/-! ### Whole rows -/
theorem row_same {w : World} {g : Nat} {old cs : Array Value} {t : TypeId} (h : w.heap[g]? = some (.cells old t (0, 0))) : (w.setRow g cs).heap[g]? = some (.cells cs t (0, 0)) := by
  simp [World.setRow, Array.getElem?_modify, h]
theorem row_other {w : World} {g k : Nat} {cs : Array Value} (h : k ≠ g) : (w.setRow g cs).heap[k]? = w.heap[k]? := by
  have h' : ¬ g = k := fun e => h e.symm
  simp [World.setRow, Array.getElem?_modify, h']
theorem row_kp (w : World) (g : Nat) (cs : Array Value) : Kp (fun q => q = g) w (w.setRow g cs) :=
  ⟨rfl, rfl, rfl, by simp [World.setRow], fun _ _ h => row_other h⟩
theorem row_load {w : World} {g n : Nat} {cs : Array Value} {t : TypeId} (h : w.heap[g]? = some (.cells cs t (0, 0))) (hn : cs.size = n) : Sem.run Tryd.prog (loadCellsFrom ⟨g, 0, none⟩ 0 n #[]) w = .ok cs w := by
  subst hn
  have := run_loadCells_list (P := Tryd.prog) (w := w) ⟨g, 0, none⟩ cs.toList (fun j v hv => by
    have hadd : (⟨g, 0, none⟩ : Addr).add j = ⟨g, j, none⟩ := by unfold Addr.add; split <;> simp_all
    rw [hadd]
    exact blk_cell h (by simpa using hv))
  simpa [loadCells] using this
theorem row_store {w : World} {g : Nat} {old cs : Array Value} {t : TypeId} (h : w.heap[g]? = some (.cells old t (0, 0))) (hn : cs.size = old.size) (h1 : ∀ v ∈ cs.toList, v.oneCell' = true) : Sem.run Tryd.prog (storeCells ⟨g, 0, none⟩ cs.toList) w = .ok () (w.setRow g cs) := by
  have := run_storeCells_from (P := Tryd.prog) g t cs.toList 0 old w h (by simp; omega) h1
  simpa using this
/-- A whole array out of its block, by value. -/
theorem wpList_loadRow {ops : Array Oper} {rest : List Oper} {o : Oper} {a : Act} {Q : Exit → Act → World → Prop} {w : World} {T e : TypeId} {p : Operand} (hgd : o.guard = none) (ho : o.op = .load T p) (g n : Nat) (cs : Array Value) (t : TypeId)
    (hp : a.eval p = .pointer (some ⟨g, 0, none⟩)) (hg : w.heap[g]? = some (.cells cs t (0, 0))) (hu : Tryd.prog.underlying T = some (.array n e)) (hi : (Tryd.prog.info? T).map (·.size) = some cs.size)
    (h : wpList Tryd.prog ops Q rest (a.put o.dst (.agg cs)) w) : wpList Tryd.prog ops Q (o :: rest) a w := by
  refine wpList_plain hgd fun K hK => ?_
  unfold Oper.wp execOp
  have hr : (Instr.loadAt T (.pointer (some ⟨g, 0, none⟩))).run Tryd.prog w = .ok (.agg cs) w := by
    simp only [Instr.loadAt, Instr.sureAddr, Sem.run_bind, Sem.run_pure, Result.andThen]
    exact run_loadVar_row (P := Tryd.prog) w g t T cs (0, 0) _ hg hu rfl hi
  simp only [ho, Sem.run_bind, hp, hr, Result.andThen_ok]
  exact hK _ _ h
theorem wpList_storeRow {ops : Array Oper} {rest : List Oper} {o : Oper} {a : Act} {Q : Exit → Act → World → Prop} {w : World} {T : TypeId} {p x : Operand} (hgd : o.guard = none) (ho : o.op = .store T p x) (g : Nat) (old cs : Array Value) (t : TypeId)
    (hp : a.eval p = .pointer (some ⟨g, 0, none⟩)) (hx : a.eval x = .agg cs) (hg : w.heap[g]? = some (.cells old t (0, 0))) (hi : (Tryd.prog.info? T).map (·.size) = some cs.size) (hn : old.size = cs.size) (h1 : cs.all (·.oneCell') = true)
    (h : wpList Tryd.prog ops Q rest (a.put o.dst undef) (w.setRow g cs)) : wpList Tryd.prog ops Q (o :: rest) a w := by
  refine wpList_plain hgd fun K hK => ?_
  unfold Oper.wp execOp
  have hr : (Instr.storeAt T (.pointer (some ⟨g, 0, none⟩)) (.agg cs)).run Tryd.prog w = .ok () (w.setRow g cs) := by
    simp only [Instr.storeAt, Instr.sureAddr, Sem.run_bind, Sem.run_pure, Result.andThen]
    exact run_storeVar_row (P := Tryd.prog) w g t T old cs hg hi hn h1
  simp only [ho, Sem.run_bind, hp, hx, hr, Result.andThen_ok]
  exact hK _ _ h
theorem wv_one (l : List Nat) : ∀ v ∈ wv l, v.oneCell' = true := by
  intro v hv
  simp [wv] at hv
  obtain ⟨x, _, rfl⟩ := hv
  rfl
theorem z32_lit : (bv (List.replicate 32 0)).toArray = #[.int .u8 0, .int .u8 0, .int .u8 0, .int .u8 0, .int .u8 0, .int .u8 0, .int .u8 0, .int .u8 0, .int .u8 0, .int .u8 0, .int .u8 0, .int .u8 0, .int .u8 0, .int .u8 0, .int .u8 0, .int .u8 0, .int .u8 0, .int .u8 0, .int .u8 0, .int .u8 0, .int .u8 0, .int .u8 0, .int .u8 0, .int .u8 0, .int .u8 0, .int .u8 0, .int .u8 0, .int .u8 0, .int .u8 0, .int .u8 0, .int .u8 0, .int .u8 0] := by kernel_rfl
theorem outb_len (s : List Nat) (h : s.length = 8) : (outb s).length = 32 := by
  match s, h with
  | [_, _, _, _, _, _, _, _], _ => rfl
theorem out_set (l : List Nat) (hl : l.length = 32) (j : Nat) (hj : j < 32) : (bv (l.take j ++ List.replicate (32 - j) 0)).toArray.setIfInBounds j (.int .u8 ((l.getD j 0 : Nat) : Int)) = (bv (l.take (j + 1) ++ List.replicate (32 - (j + 1)) 0)).toArray := by
  have e : 32 - j = (32 - (j + 1)) + 1 := by omega
  rw [List.setIfInBounds_toArray, e, List.replicate_succ, take_snoc3 l j (by omega)]
  congr 1
  simp only [bv, List.map_append, List.map_cons]
  rw [List.set_append_right _ _ (by simp [hl]; omega)]
  simp [hl, Nat.min_eq_left (Nat.le_of_lt hj)]
theorem outb_byte (s : List Nat) : ∀ x ∈ outb s, x < 256 := by
  intro x hx
  unfold outb at hx
  obtain ⟨y, _, hy⟩ := List.mem_flatMap.1 hx
  exact beb_byte _ _ _ hy
theorem outb_get (s : List Nat) (h : s.length = 8) (j : Nat) (hj : j < 32) : (outb s).getD j 0 = s.getD (j / 4) 0 / 256 ^ (3 - j % 4) % 256 := by
  match s, h with
  | [_, _, _, _, _, _, _, _], _ =>
    rcases (by omega : j = 0 ∨ j = 1 ∨ j = 2 ∨ j = 3 ∨ j = 4 ∨ j = 5 ∨ j = 6 ∨ j = 7 ∨ j = 8 ∨ j = 9 ∨ j = 10 ∨ j = 11 ∨ j = 12 ∨ j = 13 ∨ j = 14 ∨ j = 15 ∨ j = 16 ∨ j = 17 ∨ j = 18 ∨ j = 19 ∨ j = 20 ∨ j = 21 ∨ j = 22 ∨ j = 23 ∨ j = 24 ∨ j = 25 ∨ j = 26 ∨ j = 27 ∨ j = 28 ∨ j = 29 ∨ j = 30 ∨ j = 31) with rfl | rfl | rfl | rfl | rfl | rfl | rfl | rfl | rfl | rfl | rfl | rfl | rfl | rfl | rfl | rfl | rfl | rfl | rfl | rfl | rfl | rfl | rfl | rfl | rfl | rfl | rfl | rfl | rfl | rfl | rfl | rfl <;> rfl
end
section
open Go.RowKit
/-! ### Eq -/
end
section
open Go.RowKit
set_option maxRecDepth 1000000 in
set_option maxHeartbeats 400000 in
theorem copy_any (w : World) (v : Value) (xs : List Nat) (hsl : BSl w v xs) (hlen : xs.length ≤ 140737488351232) :
    Calls Tryd.prog 37 #[v] w fun e w' => ∃ v', e = .returned v' ∧ w'.ownsRow w.heap.size 5 1 v' xs.length (bv xs) ∧ Below w.heap.size w w' := by
  have HSL := hide hsl
  have HL := hide hlen
  obtain ⟨⟨a, cap, rfl, hn, hc⟩, hmax, hb⟩ := hsl
  clear hn hc hb hlen
  go_enter Tryd.func37, Tryd.ntmps37
  go_wp2_with (at_builtin; refine append_bsl rfl _ _ rfl w.heap.size _ 0 [] rfl (World.ownsRow_nil _ _ _ _) _ xs rfl HSL.out ?b1 ?b2 ?_)
  case b1 => have := HL.out; omega
  case b2 => exact Nat.le_refl _
  intro v1 w1 ho1 hg1
  have hb1 : Below w.heap.size w w1 := (Below.refl _ _).grown hg1 (Nat.le_refl _) (fun q hq => by cases hq)
  have HO1 := hide ho1
  have HB1 := hide hb1
  clear ho1 hb1 hg1
  go_wp2
  go_ret
  exact ⟨_, rfl, by simpa using HO1.out, HB1.out⟩

theorem own_two (w : World) (x y : Nat) : (w.alloc (.cells #[.int .u8 ((x : Nat) : Int), .int .u8 ((y : Nat) : Int)] 5)).ownsRow w.heap.size 5 1 (.slice (some ⟨w.heap.size, 0, none⟩) 2 2) 2 (bv [x, y]) :=
  ⟨rfl, .inr ⟨w.heap.size, 2, _, rfl, Nat.le_refl _, heap_alloc_new w _, Nat.le_refl _, by decide, rfl, rfl⟩⟩
/-- What Lay of the document tells. -/
def dlay (h : Nat) (d : List Nat) : List Nat × Nat :=
  if h ≠ 18 ∧ h ≠ 0 then ([], 30) else if (h = 18 ∧ d.length ≠ 32) ∨ (h = 0 ∧ 64 < d.length) then ([], 31) else (h :: d.length :: d, 0)
end
section
open Go.RowKit Go
/-- The number that digits make, the first one the highest. -/
def valB (b : Nat) (l : List Nat) : Nat := l.foldl (fun r d => r * b + d) 0
theorem valB_nil (b : Nat) : valB b [] = 0 := rfl
theorem valB_snoc (b : Nat) (l : List Nat) (d : Nat) : valB b (l ++ [d]) = valB b l * b + d := by simp [valB]
theorem foldl_shift (b : Nat) : ∀ (l : List Nat) (r : Nat), l.foldl (fun r d => r * b + d) r = r * b ^ l.length + valB b l
  | [], r => by simp [valB]
  | d :: l, r => by
    have h1 := foldl_shift b l (r * b + d)
    have h2 := foldl_shift b l (0 * b + d)
    simp only [List.foldl_cons, List.length_cons, valB] at *
    rw [h1, h2, Nat.zero_mul, Nat.zero_add, Nat.pow_succ, Nat.add_mul]
    have e : r * b * b ^ l.length = r * (b ^ l.length * b) := by rw [Nat.mul_assoc, Nat.mul_comm b]
    omega
theorem valB_cons (b d : Nat) (l : List Nat) : valB b (d :: l) = d * b ^ l.length + valB b l := by
  have h := foldl_shift b l (0 * b + d)
  unfold valB at *
  rw [List.foldl_cons, h, Nat.zero_mul, Nat.zero_add]
theorem valB_app (b : Nat) (l m : List Nat) : valB b (l ++ m) = valB b l * b ^ m.length + valB b m := by
  have h := foldl_shift b m (valB b l)
  unfold valB at *
  rw [List.foldl_append, h]
theorem valB_lt {b : Nat} (hb : 0 < b) : ∀ {l : List Nat}, (∀ d ∈ l, d < b) → valB b l < b ^ l.length
  | [], _ => by simp [valB]
  | d :: l, h => by
    have ih := valB_lt hb (l := l) (fun x hx => h x (List.mem_cons_of_mem _ hx))
    have hd := h d (by simp)
    rw [valB_cons, List.length_cons, Nat.pow_succ]
    have : (d + 1) * b ^ l.length ≤ b * b ^ l.length := Nat.mul_le_mul_right _ hd
    rw [Nat.add_mul, Nat.one_mul] at this
    rw [Nat.mul_comm (b ^ l.length) b]
    omega
/-- A number's digits, the highest first, none of 0. -/
def digB (b n : Nat) : List Nat := if _h : n = 0 ∨ b < 2 then [] else digB b (n / b) ++ [n % b]
termination_by n
decreasing_by exact Nat.div_lt_self (by omega) (by omega)
theorem digB_zero (b : Nat) : digB b 0 = [] := by unfold digB; simp
theorem digB_pos {b n : Nat} (hb : 2 ≤ b) (hn : 0 < n) : digB b n = digB b (n / b) ++ [n % b] := by
  rw [digB, dif_neg (by omega)]
theorem valB_digB {b : Nat} (hb : 2 ≤ b) (n : Nat) : valB b (digB b n) = n := by
  induction n using Nat.strongRecOn with
  | _ n ih =>
    by_cases h : n = 0
    · subst h
      rw [digB_zero]
      rfl
    · rw [digB_pos hb (by omega), valB_snoc, ih (n / b) (Nat.div_lt_self (by omega) (by omega)), Nat.mul_comm]
      exact Nat.div_add_mod n b
theorem digB_lt {b : Nat} (hb : 2 ≤ b) (n : Nat) : ∀ d ∈ digB b n, d < b := by
  induction n using Nat.strongRecOn with
  | _ n ih =>
    by_cases h : n = 0
    · subst h
      rw [digB_zero]
      simp
    · rw [digB_pos hb (by omega)]
      intro d hd
      rcases List.mem_append.1 hd with hd | hd
      · exact ih (n / b) (Nat.div_lt_self (by omega) (by omega)) d hd
      · simp at hd
        subst hd
        exact Nat.mod_lt _ (by omega)
theorem digB_head {b : Nat} (hb : 2 ≤ b) (n : Nat) : (digB b n).head? ≠ some 0 := by
  induction n using Nat.strongRecOn with
  | _ n ih =>
    by_cases h : n = 0
    · subst h
      rw [digB_zero]
      simp
    · rw [digB_pos hb (by omega)]
      by_cases hq : n / b = 0
      · rw [hq, digB_zero]
        have := Nat.div_add_mod n b
        rw [hq] at this
        simp
        omega
      · have ih2 := ih (n / b) (Nat.div_lt_self (by omega) (by omega))
        have hne : digB b (n / b) ≠ [] := by
          intro e
          have := valB_digB hb (n / b)
          rw [e] at this
          simp [valB] at this
          omega
        cases hd : digB b (n / b) with
        | nil => exact absurd hd hne
        | cons x l =>
          rw [hd] at ih2
          simpa using ih2
theorem valB_pos {b : Nat} (hb : 2 ≤ b) {l : List Nat} (hl : l ≠ []) (hh : l.head? ≠ some 0) : 0 < valB b l := by
  cases l with
  | nil => exact absurd rfl hl
  | cons d l =>
    rw [valB_cons]
    have hd : 0 < d := by simp at hh; omega
    have := Nat.mul_pos hd (Nat.pow_pos (n := l.length) (show 0 < b by omega))
    omega
theorem digB_valB {b : Nat} (hb : 2 ≤ b) : ∀ (k : Nat) (l : List Nat), l.length = k → (∀ d ∈ l, d < b) → l.head? ≠ some 0 → digB b (valB b l) = l
  | 0, l, hk, _, _ => by
    have : l = [] := List.eq_nil_of_length_eq_zero hk
    subst this
    exact digB_zero b
  | k + 1, l, hk, hd, hh => by
    have hne : l ≠ [] := by intro e; subst e; simp at hk
    obtain ⟨l0, d, rfl⟩ : ∃ l0 d, l = l0 ++ [d] := ⟨l.dropLast, l.getLast hne, (List.dropLast_concat_getLast hne).symm⟩
    have hdb : d < b := hd d (by simp)
    have hpos := valB_pos hb hne hh
    rw [digB_pos hb hpos, valB_snoc]
    have e1 : (valB b l0 * b + d) / b = valB b l0 := by
      rw [Nat.mul_comm, Nat.mul_add_div (by omega), Nat.div_eq_of_lt hdb, Nat.add_zero]
    have e2 : (valB b l0 * b + d) % b = d := by
      rw [Nat.mul_comm, Nat.mul_add_mod, Nat.mod_eq_of_lt hdb]
    rw [e1, e2]
    congr 1
    refine digB_valB hb k l0 (by simpa using hk) (fun x hx => hd x (by simp [hx])) ?_
    cases l0 with
    | nil => simp
    | cons x l0 => simpa using hh
/-- Digits of one base in another one: a 0 for each 0 at the front, then the number. -/
def conv (a b : Nat) (l : List Nat) : List Nat := List.replicate (l.takeWhile (· == 0)).length 0 ++ digB b (valB a (l.dropWhile (· == 0)))
theorem drop_head (l : List Nat) : (l.dropWhile (· == 0)).head? ≠ some 0 := by
  induction l with
  | nil => simp
  | cons x l ih =>
    by_cases h : x = 0
    · subst h
      simpa [List.dropWhile_cons] using ih
    · simp [h]
theorem zeros_take (l : List Nat) : l.takeWhile (· == 0) = List.replicate (l.takeWhile (· == 0)).length 0 := by
  induction l with
  | nil => rfl
  | cons x l ih =>
    by_cases h : x = 0
    · subst h
      simp only [List.takeWhile_cons, beq_self_eq_true, if_true, List.length_cons, List.replicate_succ]
      rw [← ih]
    · simp [h]
theorem take_zeros (z : Nat) {d : List Nat} (hd : d.head? ≠ some 0) : (List.replicate z 0 ++ d).takeWhile (· == 0) = List.replicate z 0 ∧ (List.replicate z 0 ++ d).dropWhile (· == 0) = d := by
  induction z with
  | zero =>
    cases d with
    | nil => simp
    | cons x d =>
      have : x ≠ 0 := by simpa using hd
      simp [this]
  | succ z ih => simp [List.replicate_succ, ih]
theorem conv_conv {a b : Nat} (ha : 2 ≤ a) (hb : 2 ≤ b) {l : List Nat} (hl : ∀ d ∈ l, d < a) : conv b a (conv a b l) = l := by
  have h1 := take_zeros (l.takeWhile (· == 0)).length (digB_head hb (valB a (l.dropWhile (· == 0))))
  have e : conv a b l = List.replicate (l.takeWhile (· == 0)).length 0 ++ digB b (valB a (l.dropWhile (· == 0))) := rfl
  show List.replicate ((conv a b l).takeWhile (· == 0)).length 0 ++ digB a (valB b ((conv a b l).dropWhile (· == 0))) = l
  rw [e, h1.1, h1.2, List.length_replicate, valB_digB hb, digB_valB ha _ _ rfl (fun d hd => hl d ((List.dropWhile_suffix _).subset hd)) (drop_head l), ← zeros_take]
  exact List.takeWhile_append_dropWhile
theorem conv_lt {a b : Nat} (hb : 2 ≤ b) (l : List Nat) : ∀ d ∈ conv a b l, d < b := by
  intro d hd
  rcases List.mem_append.1 hd with h | h
  · have := List.eq_of_mem_replicate h
    omega
  · exact digB_lt hb _ d h
/-- A number's lowest w bits, the highest first. -/
def bitsW (w x : Nat) : List Nat := (List.range w).map fun k => x / 2 ^ (w - 1 - k) % 2
theorem bitsW_len (w x : Nat) : (bitsW w x).length = w := by simp [bitsW]
theorem bitsW_lt (w x : Nat) : ∀ d ∈ bitsW w x, d < 2 := by
  intro d hd
  obtain ⟨k, _, rfl⟩ := List.mem_map.1 hd
  exact Nat.mod_lt _ (by decide)
theorem bitsW_succ (w x : Nat) : bitsW (w + 1) x = x / 2 ^ w % 2 :: bitsW w x := by
  unfold bitsW
  rw [List.range_succ_eq_map, List.map_cons, List.map_map]
  congr 1
  refine List.map_congr_left fun k hk => ?_
  have := List.mem_range.1 hk
  simp only [Function.comp]
  congr 3
  omega
theorem valB_bitsW : ∀ w x, valB 2 (bitsW w x) = x % 2 ^ w
  | 0, x => by
    rw [Nat.pow_zero, Nat.mod_one]
    rfl
  | w + 1, x => by
    rw [bitsW_succ, valB_cons, bitsW_len, valB_bitsW w x, Nat.pow_succ, Nat.mod_mul]
    rw [Nat.mul_comm]
    omega
theorem bitsW_valB : ∀ (l : List Nat), (∀ d ∈ l, d < 2) → bitsW l.length (valB 2 l) = l
  | [], _ => rfl
  | d :: l, h => by
    have hd := h d (by simp)
    have hl : ∀ x ∈ l, x < 2 := fun x hx => h x (List.mem_cons_of_mem _ hx)
    have hv := valB_lt (b := 2) (by decide) hl
    rw [List.length_cons, bitsW_succ, valB_cons]
    have e1 : (d * 2 ^ l.length + valB 2 l) / 2 ^ l.length % 2 = d := by
      rw [Nat.mul_comm, Nat.mul_add_div (Nat.pow_pos (by decide)), Nat.div_eq_of_lt hv, Nat.add_zero, Nat.mod_eq_of_lt hd]
    have e2 : bitsW l.length (d * 2 ^ l.length + valB 2 l) = bitsW l.length (valB 2 l) := by
      unfold bitsW
      refine List.map_congr_left fun k hk => ?_
      have hk := List.mem_range.1 hk
      have e3 : d * 2 ^ l.length = 2 ^ (l.length - 1 - k) * (2 * (d * 2 ^ k)) := by
        have : 2 ^ l.length = 2 ^ (l.length - 1 - k) * (2 * 2 ^ k) := by
          rw [← Nat.pow_succ', ← Nat.pow_add]
          congr 1
          omega
        rw [this]
        ac_rfl
      rw [e3, Nat.mul_add_div (Nat.pow_pos (by decide)), Nat.add_mod, Nat.mul_mod_right, Nat.zero_add, Nat.mod_mod]
    rw [e1, e2, bitsW_valB l hl]
/-- Whole groups of w bits. -/
def grp (w : Nat) (l : List Nat) : List Nat := if _h : w = 0 ∨ l.length < w then [] else valB 2 (l.take w) :: grp w (l.drop w)
termination_by l.length
decreasing_by rw [List.length_drop]; omega
theorem grp_short {w : Nat} {l : List Nat} (h : l.length < w) : grp w l = [] := by rw [grp, dif_pos (.inr h)]
theorem grp_app {w : Nat} (hw : 0 < w) {a : List Nat} (ha : a.length = w) (l : List Nat) : grp w (a ++ l) = valB 2 a :: grp w l := by
  rw [grp, dif_neg (by rw [List.length_append]; omega), List.take_append_of_le_length (by omega), List.take_of_length_le (by omega), List.drop_append_of_le_length (by omega), List.drop_of_length_le (by omega), List.nil_append]
/-- Bytes read out of their bits, whatever fewer than w bits stand behind. -/
theorem grp_bits {w : Nat} (hw : 0 < w) {z : List Nat} (hz : z.length < w) : ∀ {b : List Nat}, (∀ x ∈ b, x < 2 ^ w) → grp w (b.flatMap (bitsW w) ++ z) = b
  | [], _ => by simpa using grp_short hz
  | x :: b, h => by
    rw [List.flatMap_cons, List.append_assoc, grp_app hw (bitsW_len w x), valB_bitsW, Nat.mod_eq_of_lt (h x (by simp)), grp_bits hw hz (fun y hy => h y (List.mem_cons_of_mem _ hy))]
theorem bits_grp {w : Nat} (hw : 0 < w) : ∀ (k : Nat) (l : List Nat), l.length = k * w → (∀ d ∈ l, d < 2) → (grp w l).flatMap (bitsW w) = l
  | 0, l, hk, _ => by
    have : l = [] := List.eq_nil_of_length_eq_zero (by omega)
    subst this
    rw [grp_short (by simpa using hw)]
    rfl
  | k + 1, l, hk, hd => by
    rw [Nat.add_mul, Nat.one_mul] at hk
    rw [grp, dif_neg (by omega), List.flatMap_cons, bits_grp hw k (l.drop w) (by rw [List.length_drop]; omega) (fun d h => hd d (List.mem_of_mem_drop h))]
    have hl : (l.take w).length = w := by rw [List.length_take]; omega
    have e := bitsW_valB (l.take w) (fun d h => hd d (List.mem_of_mem_take h))
    rw [hl] at e
    rw [e, List.take_append_drop]
/-- The digits, of w bits each, of bytes; the last one is filled with 0. -/
def encW (w : Nat) (b : List Nat) : List Nat := grp w (b.flatMap (bitsW 8) ++ List.replicate ((w - b.length * 8 % w) % w) 0)
/-- The whole bytes of digits. -/
def decW (w : Nat) (ds : List Nat) : List Nat := grp 8 (ds.flatMap (bitsW w))
theorem flat_len (w : Nat) (b : List Nat) : (b.flatMap (bitsW w)).length = b.length * w := by
  induction b with
  | nil => simp
  | cons x b ih => rw [List.flatMap_cons, List.length_append, ih, bitsW_len, List.length_cons, Nat.add_mul, Nat.one_mul]; omega
theorem flat_lt (w : Nat) (b : List Nat) : ∀ d ∈ b.flatMap (bitsW w), d < 2 := by
  intro d hd
  obtain ⟨x, _, h⟩ := List.mem_flatMap.1 hd
  exact bitsW_lt w x d h
theorem dec_enc {w : Nat} (hw : 0 < w) (hw8 : w ≤ 8) {b : List Nat} (hb : ∀ x ∈ b, x < 256) : decW w (encW w b) = b := by
  unfold decW encW
  have hp : (w - b.length * 8 % w) % w < w := Nat.mod_lt _ hw
  have hlen : (b.flatMap (bitsW 8) ++ List.replicate ((w - b.length * 8 % w) % w) 0).length = (b.length * 8 + (w - b.length * 8 % w) % w) := by rw [List.length_append, flat_len, List.length_replicate]
  have hdiv : (b.length * 8 + (w - b.length * 8 % w) % w) % w = 0 := by
    have h1 := Nat.mod_lt (b.length * 8) hw
    by_cases h0 : b.length * 8 % w = 0
    · rw [h0, Nat.sub_zero, Nat.mod_self, Nat.add_zero]
      exact h0
    · rw [Nat.mod_eq_of_lt (a := w - b.length * 8 % w) (by omega)]
      have h2 := Nat.div_add_mod (b.length * 8) w
      have e : b.length * 8 + (w - b.length * 8 % w) = w * (b.length * 8 / w + 1) := by rw [Nat.mul_add, Nat.mul_one]; omega
      rw [e]
      exact Nat.mul_mod_right _ _
  obtain ⟨k, hk⟩ := Nat.dvd_of_mod_eq_zero hdiv
  rw [bits_grp hw k _ (by rw [hlen, hk, Nat.mul_comm]) (fun d hd => by
    rcases List.mem_append.1 hd with h | h
    · exact flat_lt 8 b d h
    · have := List.eq_of_mem_replicate h
      omega)]
  exact grp_bits (by decide) (by rw [List.length_replicate]; omega) hb
end
section
open Go.RowKit
theorem or_low (k a b : Nat) (hb : b < 2 ^ k) (h : 2 ^ k * a + b < 4294967296) (A B : Int) (hA : A = ((2 ^ k * a : Nat) : Int)) (hB : B = (b : Nat)) : bits .or .u32 A B = ((2 ^ k * a + b : Nat) : Int) := by
  subst hA
  subst hB
  rw [u32_or_nat _ _ (by omega) (by omega), ← Nat.two_pow_add_eq_or_of_lt hb]
end
section
open Go.RowKit
/-! ### The landed digest: words -/
theorem rot_or (x n : Nat) (hx : x < 4294967296) (hn : n ≤ 32) (A B : Int) (hA : A = ((x * 2 ^ (32 - n) % 4294967296 : Nat) : Int)) (hB : B = ((x / 2 ^ n : Nat) : Int)) : bits .or .u32 A B = (rt x n : Nat) := by
  subst hA
  subst hB
  have he : 2 ^ n * 2 ^ (32 - n) = 4294967296 := by rw [← Nat.pow_add]; have : n + (32 - n) = 32 := by omega
                                                    rw [this]
  have hp : 0 < 2 ^ n := Nat.pow_pos (by decide)
  have h1 : x / 2 ^ n < 2 ^ (32 - n) := by rw [Nat.div_lt_iff_lt_mul hp, Nat.mul_comm, he]; exact hx
  have h2 : x * 2 ^ (32 - n) % 4294967296 = 2 ^ (32 - n) * (x % 2 ^ n) := by
    rw [← he, Nat.mul_mod_mul_right, Nat.mul_comm]
  have h3 : x * 2 ^ (32 - n) % 4294967296 < 4294967296 := Nat.mod_lt _ (by decide)
  have h4 : x / 2 ^ n < 4294967296 := Nat.lt_of_le_of_lt (Nat.div_le_self _ _) hx
  rw [u32_or_nat _ _ h3 h4, h2, ← Nat.two_pow_add_eq_or_of_lt h1]
  unfold rt
  rw [Nat.add_comm, Nat.mul_comm]
end
section
open Go.RowKit
def digs : Nat → Nat → List Nat
  | 0, _ => []
  | f + 1, n => if n < 128 then [n] else (n % 128 + 128) :: digs f (n / 128)

theorem digs_small {f n : Nat} (h : n < 128) : digs (f + 1) n = [n] := by simp [digs, h]
theorem digs_big {f n : Nat} (h : 128 ≤ n) : digs (f + 1) n = (n % 128 + 128) :: digs f (n / 128) := by
  have : ¬ n < 128 := by omega
  simp [digs, this]
/-- What a step of the loop keeps: the number is 128 or more, so there is fuel for another. -/
theorem fuel_down {f n : Nat} (h : 128 ≤ n) (hf : n < 128 ^ (f + 1)) : ∃ g, f = g + 1 ∧ n / 128 < 128 ^ (g + 1) := by
  match f, hf with
  | 0, hf => simp at hf; omega
  | g + 1, hf => exact ⟨g, rfl, by rw [Nat.pow_succ] at hf; exact Nat.div_lt_of_lt_mul (by omega)⟩
theorem digs_pos {f n : Nat} : 1 ≤ (digs (f + 1) n).length := by
  unfold digs; split <;> simp
theorem digs_len : ∀ f n, (digs f n).length ≤ f
  | 0, _ => by simp [digs]
  | f + 1, n => by
    unfold digs; split
    · simp
    · have := digs_len f (n / 128); simp; omega
end
section
open Go.RowKit
/-! ### Plain -/
/-- What Read tells: k bytes have gone by, m is what they come to. -/
def rd : Nat → Nat → List Nat → Nat × Nat × Nat
  | k, _, [] => if k = 9 then (0, 0, 11) else (0, 0, 10)
  | k, m, x :: r => if k = 9 then (0, 0, 11) else if 128 ≤ x then rd (k + 1) (m + x % 128 * 128 ^ k) r else if x = 0 ∧ 0 < k then (0, 0, 12) else (m + x % 128 * 128 ^ k, k + 1, 0)

theorem and127 (x : Nat) (h : x < 256) : bits .and .u8 (x : Int) 127 = ((x % 128 : Nat) : Int) := by
  have := bits_mask .u8 8 (by decide) wraps_u8 7 (by decide) (x : Int) (by omega) (by omega)
  simpa using this
theorem and128 (x : Nat) (h : x < 256) : bits .and .u8 (x : Int) 128 = if 128 ≤ x then 128 else 0 := by
  have h1 := u8_and_nat x 128 h (by omega)
  have h2 := nat_bit 7 x
  have e : (2 : Nat) ^ 7 = 128 := rfl
  rw [e] at h2
  rw [h2] at h1
  have h3 : bits .and .u8 (x : Int) 128 = ((x / 128 % 2 * 128 : Nat) : Int) := h1
  rw [h3]
  split <;> omega
theorem pow7 (k : Nat) : 2 ^ (7 * k) = 128 ^ k := by rw [Nat.pow_mul]
theorem small_pow (k : Nat) (h : k ≤ 8) : 128 ^ k ≤ 72057594037927936 := by
  have h2 : 128 ^ k ≤ 128 ^ 8 := Nat.pow_le_pow_right (by decide) h
  exact h2
theorem step_val (x m k : Nat) (hx : x < 256) (hk : k ≤ 8) (hm : m < 128 ^ k) :
    bits .or .u64 (m : Int) (IntKind.u64.wrap (IntKind.u64.wrap (bits .and .u8 (x : Int) 127) * 2 ^ (7 * k))) = ((m + x % 128 * 128 ^ k : Nat) : Int) := by
  rw [and127 x hx]
  have hp := small_pow k hk
  have hy : x % 128 * 128 ^ k < 128 * 72057594037927936 := by
    have h1 : x % 128 < 128 := by omega
    have h2 : 0 < 128 ^ k := Nat.pow_pos (by decide)
    calc x % 128 * 128 ^ k < 128 * 128 ^ k := Nat.mul_lt_mul_of_pos_right h1 h2
      _ ≤ 128 * 72057594037927936 := Nat.mul_le_mul_left _ hp
  have e1 : IntKind.u64.wrap (((x % 128 : Nat)) : Int) = ((x % 128 : Nat) : Int) := by rw [IntKind.wrap_u64]; omega
  have e2 : ((x % 128 : Nat) : Int) * 2 ^ (7 * k) = ((x % 128 * 128 ^ k : Nat) : Int) := by
    rw [Int.natCast_mul, ← pow7, Int.natCast_pow]; rfl
  rw [e1, e2]
  generalize hY : x % 128 * 128 ^ k = y at *
  have e3 : IntKind.u64.wrap ((y : Nat) : Int) = ((y : Nat) : Int) := by rw [IntKind.wrap_u64]; omega
  rw [e3, u64_or_nat m y (by omega) (by omega)]
  rw [Nat.or_comm, nat_join (7 * k) y m (by rw [pow7, ← hY]; exact Nat.mul_mod_left _ _) (by rw [pow7]; exact hm), Nat.add_comm]
theorem next_small (x m k : Nat) (hm : m < 128 ^ k) : m + x % 128 * 128 ^ k < 128 ^ (k + 1) := by
  have h1 : x % 128 ≤ 127 := by omega
  have h2 : x % 128 * 128 ^ k ≤ 127 * 128 ^ k := Nat.mul_le_mul_right _ h1
  rw [Nat.pow_succ]
  omega
theorem drop_at (xs : List Nat) (k : Nat) (h : k < xs.length) : xs.drop k = xs.getD k 0 :: xs.drop (k + 1) := by
  rw [List.drop_eq_getElem_cons h]
  simp [List.getD, h]

/-! ### The walk -/
end
section
open Go.RowKit
/-- What Number of the document tells. -/
def dnum (xs : List Nat) : Nat × Nat × Nat := if (rd 0 0 xs).2.2 = 0 then rd 0 0 xs else (0, 0, if (rd 0 0 xs).2.2 = 10 then 32 else 33)
def dnumR (r : Nat × Nat × Nat) : Value := .tuple #[.int .u64 (r.1 : Nat), .int .i64 (r.2.1 : Nat), .int .i64 (r.2.2 : Nat)]

theorem num_val (x m k : Nat) (hk : k ≤ 8) (hm : m < 128 ^ k) : IntKind.u64.wrap ((m : Int) + IntKind.u64.wrap ((x : Int) % 128 * 2 ^ (7 * k))) = ((m + x % 128 * 128 ^ k : Nat) : Int) := by
  have hp := small_pow k hk
  have hy : x % 128 * 128 ^ k ≤ 127 * 128 ^ k := Nat.mul_le_mul_right _ (by omega)
  have e2 : (x : Int) % 128 * 2 ^ (7 * k) = ((x % 128 * 128 ^ k : Nat) : Int) := by
    rw [Int.natCast_mul, ← pow7, Int.natCast_pow]; rfl
  rw [e2]
  generalize x % 128 * 128 ^ k = y at *
  have e3 : IntKind.u64.wrap ((y : Nat) : Int) = ((y : Nat) : Int) := by rw [IntKind.wrap_u64]; omega
  rw [e3, IntKind.wrap_u64]
  omega
end
section
open Go.RowKit
theorem rd_bound : ∀ (xs : List Nat) (k m : Nat), k ≤ 9 → m < 128 ^ k → (rd k m xs).2.2 = 0 → (rd k m xs).1 < 9223372036854775808 ∧ (rd k m xs).2.1 ≤ k + xs.length ∧ (rd k m xs).2.1 ≤ 9
  | [], k, m, hk, hm, h => by
    rw [rd] at h
    split at h <;> simp at h
  | x :: r, k, m, hk, hm, h => by
    rw [rd] at h ⊢
    by_cases h9 : k = 9
    · rw [if_pos h9] at h; simp at h
    · rw [if_neg h9] at h ⊢
      have hn := next_small x m k hm
      by_cases hx : 128 ≤ x
      · rw [if_pos hx] at h ⊢
        have := rd_bound r (k + 1) _ (by omega) hn h
        simp only [List.length_cons]
        omega
      · rw [if_neg hx] at h ⊢
        by_cases hz : x = 0 ∧ 0 < k
        · rw [if_pos hz] at h; simp at h
        · rw [if_neg hz]
          have hp : 128 ^ (k + 1) ≤ 128 ^ 9 := Nat.pow_le_pow_right (by decide) (by omega)
          have e9 : 128 ^ 9 = 9223372036854775808 := rfl
          simp only [List.length_cons]
          omega
theorem dnum_bound (xs : List Nat) (h : (dnum xs).2.2 = 0) : (dnum xs).1 < 9223372036854775808 ∧ (dnum xs).2.1 ≤ xs.length ∧ (dnum xs).2.1 ≤ 9 := by
  unfold dnum at h ⊢
  by_cases h0 : (rd 0 0 xs).2.2 = 0
  · rw [if_pos h0]
    have := rd_bound xs 0 0 (by omega) (by simp) h0
    omega
  · rw [if_neg h0] at h
    simp only at h
    split at h <;> simp at h
theorem dnum_bad (xs : List Nat) (h : (dnum xs).2.2 ≠ 0) : (dnum xs).2.2 = 32 ∨ (dnum xs).2.2 = 33 := by
  unfold dnum at h ⊢
  by_cases h0 : (rd 0 0 xs).2.2 = 0
  · rw [if_pos h0] at h; exact absurd h0 h
  · rw [if_neg h0]
    simp only
    split
    · exact .inl rfl
    · exact .inr rfl
/-- What Read of the document tells. -/
def dread (xs : List Nat) : Nat × List Nat × Nat × Nat :=
  if (dnum xs).2.2 ≠ 0 then (0, [], 0, (dnum xs).2.2)
  else if (dnum (xs.drop (dnum xs).2.1)).2.2 ≠ 0 then (0, [], 0, (dnum (xs.drop (dnum xs).2.1)).2.2)
  else if (dnum xs).1 ≠ 18 ∧ (dnum xs).1 ≠ 0 then (0, [], 0, 30)
  else if ((dnum xs).1 = 18 ∧ (dnum (xs.drop (dnum xs).2.1)).1 ≠ 32) ∨ ((dnum xs).1 = 0 ∧ 64 < (dnum (xs.drop (dnum xs).2.1)).1) then (0, [], 0, 31)
  else if xs.length - ((dnum xs).2.1 + (dnum (xs.drop (dnum xs).2.1)).2.1) < (dnum (xs.drop (dnum xs).2.1)).1 then (0, [], 0, 32)
  else ((dnum xs).1, (xs.drop ((dnum xs).2.1 + (dnum (xs.drop (dnum xs).2.1)).2.1)).take (dnum (xs.drop (dnum xs).2.1)).1, (dnum xs).2.1 + (dnum (xs.drop (dnum xs).2.1)).2.1 + (dnum (xs.drop (dnum xs).2.1)).1, 0)

theorem dread_one {xs : List Nat} (h : (dnum xs).2.2 ≠ 0) : dread xs = (0, [], 0, (dnum xs).2.2) := by unfold dread; rw [if_pos h]
theorem dread_rest {xs : List Nat} {hn u : Nat} (h : dnum xs = (hn, u, 0)) : 
    ((dnum (xs.drop u)).2.2 ≠ 0 → dread xs = (0, [], 0, (dnum (xs.drop u)).2.2)) ∧
    ∀ n m, dnum (xs.drop u) = (n, m, 0) →
      (hn ≠ 18 ∧ hn ≠ 0 → dread xs = (0, [], 0, 30)) ∧ (¬ (hn ≠ 18 ∧ hn ≠ 0) →
      ((hn = 18 ∧ n ≠ 32) ∨ (hn = 0 ∧ 64 < n) → dread xs = (0, [], 0, 31)) ∧ (¬ ((hn = 18 ∧ n ≠ 32) ∨ (hn = 0 ∧ 64 < n)) →
      (xs.length - (u + m) < n → dread xs = (0, [], 0, 32)) ∧ (¬ xs.length - (u + m) < n → dread xs = (hn, (xs.drop (u + m)).take n, u + m + n, 0)))) := by
  have e1 : (dnum xs).1 = hn := by rw [h]
  have e2 : (dnum xs).2.1 = u := by rw [h]
  have e3 : ¬ (dnum xs).2.2 ≠ 0 := by rw [h]; simp
  unfold dread
  rw [if_neg e3, e1, e2]
  refine ⟨fun hb => by rw [if_pos hb], fun n m hq => ?_⟩
  have q1 : (dnum (xs.drop u)).1 = n := by rw [hq]
  have q2 : (dnum (xs.drop u)).2.1 = m := by rw [hq]
  have q3 : ¬ (dnum (xs.drop u)).2.2 ≠ 0 := by rw [hq]; simp
  rw [if_neg q3, q1, q2]
  refine ⟨fun h1 => by rw [if_pos h1], fun h1 => ?_⟩
  rw [if_neg h1]
  refine ⟨fun h2 => by rw [if_pos h2], fun h2 => ?_⟩
  rw [if_neg h2]
  exact ⟨fun h3 => by rw [if_pos h3], fun h3 => by rw [if_neg h3]⟩
/-- The bytes from a place on, where something is left behind it. -/
theorem BSl.drop {w : World} {b off n cap : Nat} {xs : List Nat} (h : BSl w (.slice (some ⟨b, off, none⟩) n cap) xs) (k : Nat) (hk : k ≤ xs.length) : BSl w (.slice (some ⟨b, off + k, none⟩) (n - k) (cap - k)) (xs.drop k) := by
  obtain ⟨⟨a, cap', hv, hn, hc⟩, hmax, hby⟩ := h
  injection hv with h1 h2 h3
  subst h1
  subst h3
  subst h2
  refine ⟨⟨_, cap - k, by rw [List.length_drop], ⟨by rw [List.length_drop]; omega, fun h => by cases h⟩, ?_⟩, by rw [List.length_drop]; omega, fun z hz => hby z (List.mem_of_mem_drop hz)⟩
  rcases hc with hc | ⟨b', off', e, hc⟩
  · exact .inl (by subst hc; simp)
  · injection e with e
    injection e with e1 e2 e3
    subst e1
    subst e2
    refine .inr ⟨b, off + k, rfl, fun j hj => ?_⟩
    rw [List.length_drop] at hj
    have hq := hc (k + j) (by omega)
    have e : off + (k + j) = off + k + j := by omega
    rw [e] at hq
    rw [hq]
    simp [List.getD]

theorem results_four {fn : Func} {p q r s : Tmp} (h : fn.results = #[.tmp p, .tmp q, .tmp r, .tmp s]) (tmps : Array Value) (P : Program) (w : World) :
    (results fn tmps).run P w = .ok (.tuple #[tmps.getD p undef, tmps.getD q undef, tmps.getD r undef, tmps.getD s undef]) w := by
  simp only [results, h]
  simp
theorem dnum_nil : dnum [] = (0, 0, 32) := rfl
end
section
open Go.RowKit
theorem wrd_cut (l : List Nat) (p : Nat) : wrd ((l.drop p).take 4) 0 = wrd l p := by
  unfold wrd
  have h : ∀ j, j < 4 → ((l.drop p).take 4).getD j 0 = l.getD (p + j) 0 := by
    intro j hj
    simp [List.getD, hj]
  rw [h 0 (by omega), h (0 + 1) (by omega), h (0 + 2) (by omega), h (0 + 3) (by omega)]
  simp
theorem one_w (l : List Nat) : (wv l).toArray.all (·.oneCell') = true := by
  rw [Array.all_eq_true_iff_forall_mem]
  intro u hu
  exact wv_one _ u (by simpa using hu)
end
section
open Go.RowKit

end
section
open Go.RowKit
/-! ### A hash under way -/
/-- The cells of a hash. -/
def hc (s r : List Nat) (c : Nat) : List Value := wv s ++ (bv r ++ [.int .u64 ((c : Nat) : Int)])
theorem hc_len {s r : List Nat} {c : Nat} (hs : s.length = 8) (hr : r.length = 64) : (hc s r c).length = 73 := by simp [hc, wv, bv, hs, hr]
/-- What has not gone into the state. -/
def tl (xs : List Nat) : List Nat := xs.drop (64 * (xs.length / 64))
theorem tl_len (xs : List Nat) : (tl xs).length = xs.length % 64 := by simp [tl]; omega
def fillz (l : List Nat) : List Nat := l ++ List.replicate (64 - l.length) 0
theorem fillz_len {l : List Nat} (h : l.length ≤ 64) : (fillz l).length = 64 := by simp [fillz]; omega
end
end Go.Proofs.YtibcepokeaaoiabDoor
