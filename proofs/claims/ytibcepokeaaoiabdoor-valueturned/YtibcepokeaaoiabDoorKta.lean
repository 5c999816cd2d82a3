import Derived.Test.YtibcepokeaaoiabDoorJj
import Derived.LaidLaws
import Derived.Handed
import Derived.Lib.LaidTab
import Derived.Great.BuildSlice
import Derived.Great.FillDense
import Derived.Maps.AppendAt
namespace Go.Proofs.YtibcepokeaaoiabDoor
section
open Go.ChangeShapes Go.WideShapes Go.ChangeAt Go.RowKit Go
/-- What the rows lay. -/
def kki : List Int := kk.map fun n => ((n : Nat) : Int)
theorem cellsU32 : Tryd.prog.cellsOf 94 = 1 := by kernel_rfl
end
section
open Go.ChangeShapes Go.WideShapes Go.ChangeAt Go.RowKit Go.Deep Go.Joins Go

end
section
open Go.ChangeShapes Go.WideShapes Go.ChangeAt Go.RowKit Go.Deep Go.Joins Go
/-- A slice of uint64. -/
structure U64In (w : World) (v : Value) (hs : List Nat) : Prop where
  form : ∃ a c, v = .slice a hs.length c ∧ (hs = [] ∨ ∃ b off, a = some ⟨b, off, none⟩ ∧ ∀ j, j < hs.length → w.cell? ⟨b, off + j, none⟩ = some (.int .u64 ((hs.getD j 0 : Nat) : Int)))
  lt : ∀ x ∈ hs, x < 18446744073709551616
  max : hs.length ≤ 9223372036854775807
theorem U64In.move {w w' : World} {v : Value} {hs : List Nat} (h : U64In w v hs) (hm : ∀ p u, w.cell? p = some u → w'.cell? p = some u) : U64In w' v hs := by
  obtain ⟨⟨a, c, hv, hc⟩, h1, h2⟩ := h
  refine ⟨⟨a, c, hv, ?_⟩, h1, h2⟩
  rcases hc with hc | ⟨b, off, ha, hc⟩
  · exact .inl hc
  · exact .inr ⟨b, off, ha, fun j hj => hm _ _ (hc j hj)⟩
/-- The cells of links in a row. -/
def fcl (rs : List Lk) : List Value := rs.flatMap fun l => (lcs l).toList
theorem fcl_app (a b : List Lk) : fcl (a ++ b) = fcl a ++ fcl b := by simp [fcl]
theorem fcl_len : ∀ rs : List Lk, (fcl rs).length = rs.length * 4
  | [] => rfl
  | r :: rs => by
    have h := fcl_len rs
    have e : fcl (r :: rs) = (lcs r).toList ++ fcl rs := by simp [fcl]
    rw [e, List.length_append, h, List.length_cons]
    have : (lcs r).toList.length = 4 := rfl
    omega
theorem fcl_get : ∀ (rs : List Lk) (k : Nat) (l : Lk) (j : Nat) (u : Value), rs[k]? = some l → (lcs l)[j]? = some u → (fcl rs)[k * 4 + j]? = some u
  | [], k, l, j, u, h, _ => by simp at h
  | r :: rs, 0, l, j, u, h, hu => by
    simp at h
    subst h
    have e : fcl (r :: rs) = (lcs r).toList ++ fcl rs := by simp [fcl]
    have hj : j < (lcs r).size := by
      rcases Array.getElem?_eq_some_iff.1 hu with ⟨hj, _⟩
      exact hj
    rw [e, List.getElem?_append_left (by simpa using hj)]
    simpa using hu
  | r :: rs, k + 1, l, j, u, h, hu => by
    simp at h
    have e : fcl (r :: rs) = (lcs r).toList ++ fcl rs := by simp [fcl]
    have h4 : (lcs r).toList.length = 4 := rfl
    rw [e, List.getElem?_append_right (by omega)]
    have e2 : (k + 1) * 4 + j - (lcs r).toList.length = k * 4 + j := by omega
    rw [e2]
    exact fcl_get rs k l j u h hu
theorem fcl_one (rs : List Lk) : ∀ u ∈ fcl rs, u.oneCell' = true := by
  intro u hu
  simp only [fcl, List.mem_flatMap] at hu
  obtain ⟨l, _, hl⟩ := hu
  simp only [lcs, List.mem_cons, List.not_mem_nil, or_false] at hl
  rcases hl with rfl | rfl | rfl | rfl <;> rfl
theorem infoLk_ex : ∃ i, Tryd.prog.info? 25 = some i ∧ i.zero = some (.agg zlk) ∧ i.size = 4 ∧ i.bytes = 40 := by
  have h : (Tryd.prog.info? 25).map (fun i => (i.zero, i.size, i.bytes)) = some (some (.agg zlk), 4, 40) := by kernel_rfl
  cases hi : Tryd.prog.info? 25 with
  | none => rw [hi] at h; cases h
  | some i =>
    rw [hi] at h
    injection h with h
    injection h with h1 h2
    injection h2 with h2 h3
    exact ⟨i, rfl, h1, h2, h3⟩
theorem zip_parts (rs : List Lk) (i0 : Nat) : (rs.map lkv).zipIdx i0 = (rs.zipIdx i0).map fun x => (lkv x.1, x.2) := by
  rw [List.zipIdx_map]
  rfl
theorem fill_lks (rs : List Lk) (cells : Array Value) (hc : cells.size = rs.length * 4) : Instr.fill (fun i => some (i * 4, 4)) cells ((rs.zipIdx 0).map fun x => (x.2, lkv x.1)) = some (fcl rs).toArray := by
  obtain ⟨r, hr, hsz, hk⟩ := Great.fill_dense (s := 4) (by decide) (rs.map lkv) 0 cells (by
    intro v hv
    simp only [List.mem_map] at hv
    obtain ⟨l, _, rfl⟩ := hv
    rfl) (by rw [List.length_map, hc]; omega)
  have e : r = (fcl rs).toArray := by
    apply Array.ext_getElem?
    intro k
    have et : (fcl rs).toArray[k]? = (fcl rs)[k]? := List.getElem?_toArray
    rw [hk k, List.length_map, et]
    by_cases h : k < rs.length * 4
    · rw [if_pos ⟨by omega, by omega⟩, Nat.sub_zero, List.getElem?_map]
      have h4 : k / 4 < rs.length := by omega
      rw [List.getElem?_eq_getElem h4]
      simp only [Option.map_some, Option.bind_some]
      have hx : ∃ u, (lcs rs[k / 4])[k % 4]? = some u := by
        have : k % 4 < (lcs rs[k / 4]).size := by show k % 4 < 4; omega
        exact ⟨_, Array.getElem?_eq_getElem this⟩
      obtain ⟨u, hu⟩ := hx
      have hg := fcl_get rs (k / 4) rs[k / 4] (k % 4) u (List.getElem?_eq_getElem h4) hu
      have ek : k / 4 * 4 + k % 4 = k := by omega
      rw [ek] at hg
      rw [hg]
      exact hu
    · rw [if_neg (by omega), Array.getElem?_eq_none (by omega), List.getElem?_eq_none (by rw [fcl_len]; omega)]
  rw [e] at hr
  rw [zip_parts, List.map_map] at hr
  exact hr
theorem big24 {n : Nat} (h : n ≤ 1000) : ¬ n * 4 > 2 ^ 24 := by
  have : (2 : Nat) ^ 24 = 16777216 := by decide
  omega
theorem wpList_lks {ops : Array Oper} {rest : List Oper} {o : Oper} {a : Act} {w : World} {Q : Exit → Act → World → Prop} (hg : o.guard = none) (n : Nat) (parts : Array (Nat × Operand)) (ho : o.op = .buildSlice 43 n parts) (rs : List Lk) (hn : rs.length = n) (h0 : 0 < n) (h8 : n ≤ 1000)
    (hx : (parts.map fun (i, x) => (i, a.eval x)).toList = (rs.zipIdx 0).map fun x => (x.2, lkv x.1))
    (h : wpList Tryd.prog ops Q rest (a.put o.dst (.slice (some ⟨w.heap.size, 0, none⟩) n n)) (w.alloc (.cells (fcl rs).toArray 25))) : wpList Tryd.prog ops Q (o :: rest) a w := by
  obtain ⟨i, hi, hz, hs, _⟩ := infoLk_ex
  refine wpList_buildSlice hg 43 25 n _ ho (fcl rs).toArray i _ Tryd.underlying43 hi hz (by rw [hs]; exact big24 h8) (by rw [hs]; omega) ?_ h
  rw [hs, hx]
  exact fill_lks rs _ (by simp [hn])
/-- append of one link. -/
theorem append_lk {ops : Array Oper} {rest : List Oper} {o : Oper} {a : Act} {Q : Exit → Act → World → Prop} {w : World} (hgd : o.guard = none) (s x : Operand)
    (ho : o.op = .call { callee := .builtin .append, args := #[s, x], argTypes := #[43, 43] }) (B : Nat) (v : Value) (n : Nat) (rs : List Lk) (hs : a.eval s = v) (hown : w.ownsRow B 25 4 v n (fcl rs))
    (g : Nat) (l : Lk) (hx : a.eval x = .slice (some ⟨g, 0, none⟩) 1 1) (hg : w.heap[g]? = some (.cells (fcl [l]).toArray 25 (0, 0))) (hlen : n < 1099511627776) (hbase : B ≤ w.heap.size)
    (h : ∀ v' w', w'.ownsRow B 25 4 v' (n + 1) (fcl (rs ++ [l])) → w.grownBy w' v.ownBlock → wpList Tryd.prog ops Q rest (a.put o.dst v') w') : wpList Tryd.prog ops Q (o :: rest) a w := by
  obtain ⟨i, hi, hz0, hz1, hz2⟩ := infoLk_ex
  refine wpList_append_own_at w hgd s x 43 ho B 25 i _ 4 40 Tryd.underlying43 hi hz0 hz1 hz2 rfl (by decide) v n (fcl rs) hs hown ⟨g, 0, none⟩ 1 1 (fcl [l]) hx (by rw [fcl_len]; rfl) (fun j u hu => ?_) (fcl_one [l]) (by unfold maxLen; omega) (by omega) hbase fun v' w' h1 h2 _ _ => h v' w' (by rw [fcl_app]; exact h1) h2
  have hadd : (⟨g, 0, none⟩ : Addr).add j = ⟨g, j, none⟩ := by unfold Addr.add; split <;> simp_all
  rw [hadd]
  exact blk_cell hg (by rw [List.getElem?_toArray]; exact hu)
theorem own_form4 {w : World} {B : Nat} {e : TypeId} {v : Value} {n : Nat} {xs : List Value} (h : w.ownsRow B e 4 v n xs) : ∃ a cap, v = .slice a n cap ∧ (0 < n → ∃ g, a = some ⟨g, 0, none⟩) := by
  rcases h.2 with ⟨rfl, h0⟩ | ⟨g, cap, cur, rfl, _⟩
  · exact ⟨none, 0, by rw [h0], fun hp => by omega⟩
  · exact ⟨_, cap, rfl, fun _ => ⟨g, rfl⟩⟩
theorem own_lk {w : World} {B g n cap k : Nat} {rs : List Lk} {l : Lk} (h : w.ownsRow B 25 4 (.slice (some ⟨g, 0, none⟩) n cap) n (fcl rs)) (hk : rs[k]? = some l) : ∀ j u, (lcs l)[j]? = some u → w.cell? ⟨g, k * 4 + j, none⟩ = some u := fun j u hu => by
  have := h.cells (g := g) rfl (k * 4 + j) u (fcl_get rs k l j u hk hu)
  have hadd : (⟨g, 0, none⟩ : Addr).add (k * 4 + j) = ⟨g, k * 4 + j, none⟩ := by unfold Addr.add; split <;> simp_all
  rw [hadd] at this
  exact this
theorem own_lks (w : World) (rs : List Lk) (hn : 0 < rs.length) (hx : rs.length ≤ 1000) : (w.alloc (.cells (fcl rs).toArray 25)).ownsRow w.heap.size 25 4 (.slice (some ⟨w.heap.size, 0, none⟩) rs.length rs.length) rs.length (fcl rs) :=
  ⟨fcl_len rs, .inr ⟨w.heap.size, rs.length, _, rfl, Nat.le_refl _, heap_alloc_new w _, Nat.le_refl _, by unfold maxLen; omega, by simp [fcl_len], by
    show (fcl rs).toArray.toList.take (rs.length * 4) = fcl rs
    rw [List.toList_toArray, ← fcl_len, List.take_length]⟩⟩
end
section
open Go.RowKit Go

end
section
open Go.RowKit Go
theorem cells_of {w : World} {d : Nat} {l : List Value} {t : TypeId} (h : w.heap[d]? = some (.cells l.toArray t (0, 0))) : w.rangeAt d 0 l := fun j v hv => by
  rw [Nat.zero_add]
  exact blk_cell h (by rw [List.getElem?_toArray]; exact hv)
theorem bslD_of {w : World} {d : Nat} {D : List Nat} {t : TypeId} (h : w.heap[d]? = some (.cells (bv D).toArray t (0, 0))) (hb : ∀ x ∈ D, x < 256) (hl : D.length = 32) : BSl w (.slice (some ⟨d, 0, none⟩) 32 32) D := by
  have h2 := bsl_block h hb (by rw [hl]; decide)
  rw [hl] at h2
  exact h2
theorem exec_text {o : Oper} {a : Act} {x : Operand} {xs : List Nat} {w : World} {v : Value} (ho : o.op = .convert 23 9 x) (hx : a.eval x = v) (h : BSl w v xs) : (execOp a.eval o).run Tryd.prog w = .ok (.value (.string (nstr xs))) w := by
  unfold execOp
  simp only [ho, Sem.run_bind, hx, h.text, Result.andThen_ok]
  rfl
theorem exec_loadLk {o : Oper} {a : Act} {p : Operand} {g : Nat} {cs : Array Value} {w : World} (ho : o.op = .load 25 p) (hp : a.eval p = .pointer (some ⟨g, 0, none⟩)) (hn : cs.size = 4) (hg : w.heap[g]? = some (.cells cs 25 (0, 0))) : (execOp a.eval o).run Tryd.prog w = .ok (.value (.agg cs)) w := by
  unfold execOp
  have hr : (Instr.loadAt 25 (.pointer (some ⟨g, 0, none⟩))).run Tryd.prog w = .ok (.agg cs) w := by
    simp only [Instr.loadAt, Instr.sureAddr, Sem.run_bind, Sem.run_pure, Result.andThen]
    exact run_loadVar_row (P := Tryd.prog) w g 25 25 cs (0, 0) _ hg Tryd.underlying25 rfl (by rw [hn]; exact info61)
  simp only [ho, Sem.run_bind, hp, hr, Result.andThen_ok]
  rfl
theorem bv_set2 (l : List Nat) (j x : Nat) : (bv l).set j (.int .u8 ((x : Nat) : Int)) = bv (l.set j x) := by simp [bv, List.map_set]
theorem flip_bit (q j : Nat) (hq : q < 256) (hj : j < 8) : ∃ z : Nat, bits .xor .u8 (q : Int) (2 ^ j % 256) = (z : Int) ∧ z < 256 ∧ z ≠ q := by
  have h2 : 2 ^ j < 256 := by
    have : 2 ^ j ≤ 2 ^ 7 := Nat.pow_le_pow_right (by decide) (by omega)
    have e : 2 ^ 7 = 128 := rfl
    omega
  have e : (2 : Int) ^ j % 256 = ((2 ^ j : Nat) : Int) := by
    rw [Int.emod_eq_of_lt (Int.pow_nonneg (by decide))]
    · rw [Int.natCast_pow]; rfl
    · have : ((2 ^ j : Nat) : Int) < 256 := by omega
      rw [Int.natCast_pow] at this
      exact this
  refine ⟨q ^^^ 2 ^ j, by rw [e, u8_xor_nat _ _ hq h2], Nat.xor_lt_two_pow (n := 8) hq h2, fun h => ?_⟩
  have h3 : q ^^^ 2 ^ j ^^^ q = 0 := by rw [h, Nat.xor_self]
  rw [Nat.xor_comm, ← Nat.xor_assoc, Nat.xor_self, Nat.zero_xor] at h3
  have : 0 < 2 ^ j := Nat.pow_pos (by decide)
  omega
theorem set_ne {D : List Nat} {k z q : Nat} (hk : k < D.length) (hq : D.getD k 0 = q) (hz : z ≠ q) : D.set k z ≠ D := fun e => hz (by
  have h2 := congrArg (fun l => l.getD k 0) e
  have h3 : (D.set k z).getD k 0 = z := by rw [List.getD_eq_getElem?_getD, List.getElem?_set_self hk, Option.getD_some]
  rw [← h3, ← hq]
  exact h2)
theorem mod256 (i : Nat) : (i : Int) % 256 = ((i % 256 : Nat) : Int) := by omega
theorem own_ok {xs : List Nat} : lok ⟨1, 85, 0, xs⟩ ↔ xs.length ≤ 64 := by
  constructor
  · rintro (⟨h, _⟩ | ⟨_, _, h | h⟩)
    · exact absurd (show (1 : Int) = 0 from h) (by decide)
    · exact absurd (show (0 : Nat) = 18 from h.1) (by decide)
    · exact h.2
  · exact fun h => .inr ⟨rfl, (by decide : 85 < 9223372036854775808), .inr ⟨rfl, h⟩⟩
theorem own_holds {xs ys : List Nat} : (decide (lok ⟨1, 85, 0, xs⟩) && dholds 0 xs ys) = (decide (xs.length ≤ 64) && decide (xs = ys)) := by
  unfold dholds
  by_cases h : xs.length ≤ 64
  · have h1 : lok ⟨1, 85, 0, xs⟩ := own_ok.2 h
    simp [h, h1]
  · have h1 : ¬ lok ⟨1, 85, 0, xs⟩ := fun e => h (own_ok.1 e)
    simp [h, h1]
end
section
open Go.RowKit Go
theorem Lnt.below4 {w w' : World} {base g cap : Nat} {xs : List Nat} (h : Lnt w base g cap xs) (hb : Below w.heap.size w w') : Lnt w' base g cap xs := h.kp (Kp.of_below (S := fun _ => False) hb) (fun h => h)
/-- A load of a link in a region that draws and then makes memory. -/
theorem still_loadLk {ops : Array Oper} {o : Oper} {a : Act} {K : Act → Prop} {p : Operand} {w : World} (hgd : Region.wanted o (yielded ops a.tmps) = true) (ho : o.op = .load 25 p) (g : Nat) (cs : Array Value)
    (hp : a.eval p = .pointer (some ⟨g, 0, none⟩)) (hn : cs.size = 4) (hg : w.heap[g]? = some (.cells cs 25 (0, 0)))
    (h : K (a.put o.dst (.agg cs))) : if Region.wanted o (yielded ops a.tmps) = true then o.still Tryd.prog a w K else K (a.put o.dst undef) := by
  rw [if_pos hgd]
  unfold Oper.still
  rw [exec_loadLk ho hp hn hg, Oper.stillUpon_value]
  exact h

theorem wpList_lks4 {ops : Array Oper} {rest : List Oper} {o : Oper} {a : Act} {w : World} {Q : Exit → Act → World → Prop} {x0 x1 x2 x3 : Operand} (hg : o.guard = none) (ho : o.op = .buildSlice 43 4 #[(0, x0), (1, x1), (2, x2), (3, x3)]) (r0 r1 r2 r3 : Lk)
    (h0 : a.eval x0 = lkv r0) (h1 : a.eval x1 = lkv r1) (h2 : a.eval x2 = lkv r2) (h3 : a.eval x3 = lkv r3)
    (h : wpList Tryd.prog ops Q rest (a.put o.dst (.slice (some ⟨w.heap.size, 0, none⟩) 4 4)) (w.alloc (.cells (fcl [r0, r1, r2, r3]).toArray 25))) : wpList Tryd.prog ops Q (o :: rest) a w :=
  wpList_lks hg 4 _ ho [r0, r1, r2, r3] rfl (by decide) (by decide) (by simp [h0, h1, h2, h3]) h
theorem wpList_lks1 {ops : Array Oper} {rest : List Oper} {o : Oper} {a : Act} {w : World} {Q : Exit → Act → World → Prop} {x0 : Operand} (hg : o.guard = none) (ho : o.op = .buildSlice 43 1 #[(0, x0)]) (r0 : Lk)
    (h0 : a.eval x0 = lkv r0)
    (h : wpList Tryd.prog ops Q rest (a.put o.dst (.slice (some ⟨w.heap.size, 0, none⟩) 1 1)) (w.alloc (.cells (fcl [r0]).toArray 25))) : wpList Tryd.prog ops Q (o :: rest) a w :=
  wpList_lks hg 1 _ ho [r0] rfl (by decide) (by decide) (by simp [h0]) h
end
section
open Go.RowKit Go
/-- The places of a value's items, in the form's order. -/
def pls (t : Tv) : List Nat := if t.k = 8 then List.range t.is.length else ordp t.ks (min t.ks.length t.is.length)
/-- A value's links, in the form's order. -/
def lnkf (t : Tv) : List Lk :=
  if t.k = 7 then [t.l]
  else if t.k = 8 ∨ t.k = 9 then (pls t).flatMap fun p => if h : p < t.is.length then lnkf (t.is[p]'h) else []
  else []
termination_by SizeOf.sizeOf t
decreasing_by exact Tv.is_lt (List.getElem_mem _)
def lnx (t : Tv) (p : Nat) : List Lk := if h : p < t.is.length then lnkf (t.is[p]'h) else []
theorem lnx_at {t u : Tv} {p : Nat} (h : t.is[p]? = some u) : lnx t p = lnkf u := by
  have h1 := (List.getElem?_eq_some_iff.1 h).1
  unfold lnx
  rw [dif_pos h1]
  rw [List.getElem?_eq_getElem h1] at h
  injection h with h
  rw [h]
theorem lnkf_7 {t : Tv} (h : t.k = 7) : lnkf t = [t.l] := by rw [lnkf, if_pos h]
theorem lnkf_n {t : Tv} (h7 : t.k ≠ 7) (h : t.k = 8 ∨ t.k = 9) : lnkf t = (pls t).flatMap (lnx t) := by
  rw [lnkf, if_neg h7, if_pos h]
  rfl
theorem lnkf_0 {t : Tv} (h7 : t.k ≠ 7) (h : ¬ (t.k = 8 ∨ t.k = 9)) : lnkf t = [] := by rw [lnkf, if_neg h7, if_neg h]
theorem flat_take {t : Tv} {ps : List Nat} {i p : Nat} (hp : ps[i]? = some p) : (ps.take (i + 1)).flatMap (lnx t) = (ps.take i).flatMap (lnx t) ++ lnx t p := by
  have hi := (List.getElem?_eq_some_iff.1 hp).1
  rw [List.take_succ_eq_append_getElem hi, List.flatMap_append]
  rw [List.getElem?_eq_getElem hi] at hp
  injection hp with hp
  simp [hp]
theorem flat_le {t : Tv} {ps : List Nat} (i : Nat) : ((ps.take i).flatMap (lnx t)).length ≤ (ps.flatMap (lnx t)).length := by
  have h : ps.flatMap (lnx t) = (ps.take i).flatMap (lnx t) ++ (ps.drop i).flatMap (lnx t) := by rw [← List.flatMap_append, List.take_append_drop]
  rw [h, List.length_append]
  omega
/-- What gathered does: links and, behind them, those of a value that lies in an older world. -/
def GatC (t : Tv) : Prop := ∀ (w0 : World) (cs : Array Value), Tin w0 t cs → tmuch t ≤ 100000 → ∀ (w : World) (v : Value) (rs : List Lk), Below w0.heap.size w0 w → w.ownsRow w0.heap.size 25 4 v rs.length (fcl rs) → (rs ++ lnkf t).length ≤ 1000000 →
  Calls Tryd.prog 34 #[v, .agg cs] w fun e w' => ∃ v', e = .returned v' ∧ w'.ownsRow w0.heap.size 25 4 v' (rs ++ lnkf t).length (fcl (rs ++ lnkf t)) ∧ Kp (fun q => v.ownBlock = some q) w w' ∧ (v'.ownBlock = v.ownBlock ∨ ∃ q, v'.ownBlock = some q ∧ w.heap.size ≤ q)
/-- What gathered has in hand within its loop; g: its argument's block. -/
structure Gth (w wx : World) (g : Nat) (cs : Array Value) (B : Nat) (v vx : Value) (rs : List Lk) : Prop where
  o : wx.ownsRow B 25 4 vx rs.length (fcl rs)
  k : Kp (fun q => v.ownBlock = some q) w wx
  r : wx.heap[g]? = some (.cells cs 29 (0, 0))
  q : vx.ownBlock = v.ownBlock ∨ ∃ q, vx.ownBlock = some q ∧ w.heap.size ≤ q
theorem Gth.below {w wx : World} {g : Nat} {cs : Array Value} {B : Nat} {v vx : Value} {rs : List Lk} {w0 : World} (h : Gth w wx g cs B v vx rs) (h0 : Below w0.heap.size w0 w) (hv : ∀ q, v.ownBlock = some q → w0.heap.size ≤ q) : Below w0.heap.size w0 wx := h0.trans (h.k.below h0.size hv)
theorem Gth.step {w wx wy : World} {g : Nat} {cs : Array Value} {B : Nat} {v vx vy : Value} {rs rs' : List Lk} (h : Gth w wx g cs B v vx rs) (hg : g < w.heap.size) (hv : ∀ q, v.ownBlock = some q → q ≠ g) (ho : wy.ownsRow B 25 4 vy rs'.length (fcl rs')) (hk : Kp (fun q => vx.ownBlock = some q) wx wy) (hq : vy.ownBlock = vx.ownBlock ∨ ∃ q, vy.ownBlock = some q ∧ wx.heap.size ≤ q) : Gth w wy g cs B v vy rs' := by
  have hg2 : ¬ vx.ownBlock = some g := fun e => by
    rcases h.q with h1 | ⟨q, h1, h2⟩
    · rw [h1] at e
      exact hv _ e rfl
    · rw [h1] at e
      injection e with e
      omega
  have hz := h.k.size
  refine ⟨ho, h.k.trans hk (fun k hkk e => ?_), (hk.block _ (blk_lt h.r) hg2).trans h.r, ?_⟩
  · rcases h.q with h1 | ⟨q, h1, h2⟩
    · rw [← h1]
      exact e
    · rw [h1] at e
      injection e with e
      omega
  · rcases hq with h1 | ⟨q, h1, h2⟩
    · rw [h1]
      exact h.q
    · exact .inr ⟨q, h1, by omega⟩
end
section
open Go.RowKit Go
theorem append_lkq {ops : Array Oper} {rest : List Oper} {o : Oper} {a : Act} {Q : Exit → Act → World → Prop} {w : World} (hgd : o.guard = none) (s x : Operand)
    (ho : o.op = .call { callee := .builtin .append, args := #[s, x], argTypes := #[43, 43] }) (B : Nat) (v : Value) (n : Nat) (rs : List Lk) (hs : a.eval s = v) (hown : w.ownsRow B 25 4 v n (fcl rs))
    (g : Nat) (l : Lk) (hx : a.eval x = .slice (some ⟨g, 0, none⟩) 1 1) (hg : w.heap[g]? = some (.cells (fcl [l]).toArray 25 (0, 0))) (hlen : n < 1099511627776) (hbase : B ≤ w.heap.size)
    (h : ∀ v' w', w'.ownsRow B 25 4 v' (n + 1) (fcl (rs ++ [l])) → w.grownBy w' v.ownBlock → (v'.ownBlock = v.ownBlock ∨ v'.ownBlock = some w.heap.size) → wpList Tryd.prog ops Q rest (a.put o.dst v') w') : wpList Tryd.prog ops Q (o :: rest) a w := by
  obtain ⟨i, hi, hz0, hz1, hz2⟩ := infoLk_ex
  refine wpList_append_own_at w hgd s x 43 ho B 25 i _ 4 40 Tryd.underlying43 hi hz0 hz1 hz2 rfl (by decide) v n (fcl rs) hs hown ⟨g, 0, none⟩ 1 1 (fcl [l]) hx (by rw [fcl_len]; rfl) (fun j u hu => ?_) (fcl_one [l]) (by unfold maxLen; omega) (by omega) hbase fun v' w' h1 h2 _ h4 => h v' w' (by rw [fcl_app]; exact h1) h2 h4
  have hadd : (⟨g, 0, none⟩ : Addr).add j = ⟨g, j, none⟩ := by unfold Addr.add; split <;> simp_all
  rw [hadd]
  exact blk_cell hg (by rw [List.getElem?_toArray]; exact hu)
set_option maxRecDepth 1000000 in
set_option maxHeartbeats 1000000 in
theorem gathered_step (t : Tv) (ih : ∀ u ∈ t.is, GatC u) : GatC t := by
  intro w0 cs ht hm w v rs hb0 hown hlen
  have HIH := hide ih
  have HT0 := hide ht
  have HSZ := hide ht.size13
  have hme := tmuch_eq t
  have HML : Hid (tmuchL t.is ≤ 100000 ∧ t.ks.length ≤ 100000) := ⟨by omega, by omega⟩
  have HB0 := hide hb0
  have HO0 := hide hown
  have HLN := hide hlen
  have HVB : Hid (∀ q, v.ownBlock = some q → w0.heap.size ≤ q ∧ q < w.heap.size) := fun q hq => hown.lt q hq
  clear ih hm hme hb0 hlen
  obtain ⟨ax, cx, hvx⟩ : ∃ ax cx, v = .slice ax rs.length cx := own_slice hown
  subst hvx
  clear hown
  obtain ⟨vy, vk, vi, rfl, hy, hk, hv, hb⟩ := ht.parts
  have HLB := hide hb.l
  obtain ⟨⟨ai, ci, rfl, _, hform⟩, hmax⟩ := hv
  have HF := hide hform
  have HC0 : Hid ((vcs t vy vk (.slice ai t.is.length ci))[0]? = some (.int .i64 t.k)) := rfl
  have HC12 : Hid ((vcs t vy vk (.slice ai t.is.length ci))[12]? = some (.slice ai t.is.length ci)) := rfl
  have HLK : Hid (∀ (wx : World) (g : Nat), wx.heap[g]? = some (.cells (vcs t vy vk (.slice ai t.is.length ci)) 29 (0, 0)) → ∀ j x, (lcs t.l)[j]? = some x → wx.cell? ⟨g, 7 + j, none⟩ = some x) := fun wx g h j x hx => lk_in h hx
  generalize vcs t vy vk (.slice ai t.is.length ci) = cs at *
  clear ht hy hk hb hform
  have HG0 : Hid (Gth w (w.alloc (.cells cs 29)) w.heap.size cs w0.heap.size (.slice ax rs.length cx) (.slice ax rs.length cx) rs) := ⟨HO0.out.alloc _, Kp.of_below (below_alloc4 w _), heap_alloc_new w _, .inl rfl⟩
  have q0 := blk_cell HG0.out.r HC0.out
  by_cases h7 : t.k = 7
  · as_aux_lemma =>
    have g7 : (t.k == 7) = true := beq_iff_eq.2 h7
    have HE : Hid (lnkf t = [t.l]) := lnkf_7 h7
    have HLA := hide (HLK.out _ _ HG0.out.r)
    have HL1 := hide (heap_alloc_new (w.alloc (.cells cs 29)) (.cells (fcl [t.l]).toArray 25))
    have HLE : Hid (rs.length ≤ 1000000) := by have := HLN.out; rw [List.length_append] at this; show _ ≤ _; omega
    have HBZ : Hid (w0.heap.size ≤ w.heap.size) := HB0.out.size
    clear h7
    go_enter Tryd.func34, Tryd.ntmps34
    go_wp2_with (first
      | (refine wpList_lkAt rfl rfl w.heap.size 7 t.l rfl HLA.out ?_)
      | (refine wpList_lks1 rfl rfl t.l rfl ?_)
      | (at_builtin; refine append_lkq rfl _ _ rfl w0.heap.size _ rs.length rs rfl (HG0.out.o.alloc _) (w.alloc (.cells cs 29)).heap.size t.l rfl HL1.out ?b1 ?b2 ?_))
    case b1 => have := HLE.out; omega
    case b2 => have := HBZ.out; simp; omega
    intro v2 w2 ho2 hg2 hv2
    have hk2 : Kp (fun q => (Value.slice ax rs.length cx).ownBlock = some q) w w2 := ((Kp.of_below (below_alloc4 w _)).trans (Kp.of_below (below_alloc4 (w.alloc (.cells cs 29)) _)) (fun _ _ h => h)).grown hg2 (fun _ _ h => h)
    have HO2 : Hid (w2.ownsRow w0.heap.size 25 4 v2 (rs ++ lnkf t).length (fcl (rs ++ lnkf t))) := by
      show World.ownsRow _ _ _ _ _ _ _
      rw [HE.out, List.length_append]
      exact ho2
    have HK2 := hide hk2
    have HQ2 : Hid (v2.ownBlock = (Value.slice ax rs.length cx).ownBlock ∨ ∃ q, v2.ownBlock = some q ∧ w.heap.size ≤ q) := hv2.imp id (fun h => ⟨_, h, by first | omega | (simp; omega) | simp⟩)
    clear ho2 hg2 hk2 hv2
    go_wp2_with fail
    go_ret
    exact ⟨_, rfl, HO2.out, HK2.out, HQ2.out⟩
  have g7 : (t.k == 7) = false := beq_eq_false_iff_ne.2 h7
  by_cases h8 : t.k = 8
  · have g8 : (t.k == 8) = true := beq_iff_eq.2 h8
    have HE : Hid (lnkf t = (List.range t.is.length).flatMap (lnx t)) := by
      show _ = _
      rw [lnkf_n h7 (.inl h8)]
      unfold pls
      rw [if_pos h8]
    have q12 := blk_cell HG0.out.r HC12.out
    have HB1 : Hid (Below w0.heap.size w0 (w.alloc (.cells cs 29))) := HB0.out.trans ((below_alloc4 w _).mono HB0.out.size)
    have HG1 : Hid (Gth (w.alloc (.cells cs 29)) (w.alloc (.cells cs 29)) w.heap.size cs w0.heap.size (.slice ax rs.length cx) (.slice ax rs.length cx) rs) := ⟨HG0.out.o, Kp.refl _ _, HG0.out.r, .inl rfl⟩
    have HK1 : Hid (Kp (fun q => (Value.slice ax rs.length cx).ownBlock = some q) w (w.alloc (.cells cs 29)) ∧ (w.alloc (.cells cs 29)).heap.size = w.heap.size + 1) := ⟨Kp.of_below (below_alloc4 w _), by simp⟩
    clear h7 h8 HG0
    go_enter Tryd.func34, Tryd.ntmps34
    go_wp2_with fail
    clear q0 q12
    generalize w.alloc (.cells cs 29) = w1 at *
    go_loopw [0, 23] (fun vv ii wx => ∃ i : Nat, i ≤ t.is.length ∧ ii = .int .i64 (i : Nat) ∧ Hid (Gth w1 wx w.heap.size cs w0.heap.size (.slice ax rs.length cx) vv (rs ++ ((List.range t.is.length).take i).flatMap (lnx t)))) (fun _ ii _ => t.is.length - (intOf ii).toNat)
    case atStart => exact ⟨0, by omega, rfl, by simpa using HG1⟩
    case round =>
      obtain ⟨i, hi, rfl, HG⟩ := hrel
      clear HG1
      obtain ⟨bx, dx, hux⟩ := own_slice HG.out.o
      subst hux
      have HBW := hide (HG.out.below HB1.out (fun q hq => (HVB.out q hq).1))
      by_cases hlt : i < t.is.length
      · as_aux_lemma =>
        have g1 : (i : Int) < (t.is.length : Int) := by omega
        obtain ⟨u, hu⟩ : ∃ u, t.is[i]? = some u := ⟨t.is[i], List.getElem?_eq_getElem hlt⟩
        obtain ⟨b, off, rfl, hcells⟩ := HF.out.resolve_left (fun h => by rw [h] at hlt; simp at hlt)
        obtain ⟨cu, hcu, hcc⟩ := hcells i u hu
        have HCC : Hid (∀ j x, cu[j]? = some x → wr.cell? ⟨b, off + i * 13 + j, none⟩ = some x) := fun j x hx => keep_below HBW.out _ _ (hcc j x hx)
        have hmem := List.mem_of_getElem? hu
        have HZ1 := hide hcu.size13
        have HA1 := hide hcu.all1
        have HIT := hide (itm_mk wr cu)
        have HGN := hide (heap_alloc_new wr (.cells zv 29))
        have HIN : Hid ((Tryd.prog.info? 29).map (·.size) = some cu.size) := by show _ = _; rw [HZ1.out]; exact infoV
        have HZV : Hid (zv.size = cu.size) := by show _ = _; rw [HZ1.out]; rfl
        have HCX := hide HIT.out.cells
        have hfl : ((List.range t.is.length).take (i + 1)).flatMap (lnx t) = ((List.range t.is.length).take i).flatMap (lnx t) ++ lnkf u := by rw [flat_take (List.getElem?_range hlt), lnx_at hu]
        have hle := flat_le (t := t) (ps := List.range t.is.length) (i + 1)
        have HGI : Hid (Gth w1 ((wr.alloc (.cells zv 29)).setRow wr.heap.size cu) w.heap.size cs w0.heap.size (.slice ax rs.length cx) (.slice bx (rs ++ ((List.range t.is.length).take i).flatMap (lnx t)).length dx) (rs ++ ((List.range t.is.length).take i).flatMap (lnx t))) := HG.out.step (by have := HK1.out.2; omega) (fun q hq e => by have := HVB.out q hq; omega) ((Kp.of_below (S := fun _ => False) HIT.out.b).owns HG.out.o (fun _ _ h => h)) (Kp.of_below HIT.out.b) (.inl rfl)
        have HCA := hide (HIH.out u hmem w0 cu hcu (Nat.le_trans (tmuchL_mem hmem) HML.out.1) _ _ _ (HBW.out.trans (HIT.out.b.mono HBW.out.size)) HGI.out.o (by
          have h1 := HLN.out
          rw [HE.out, List.length_append] at h1
          rw [List.append_assoc, ← hfl, List.length_append]
          omega))
        rw [List.append_assoc, ← hfl] at HCA
        clear hu hcells hcu hcc hmem hfl hle
        generalize hnn : (rs ++ ((List.range t.is.length).take i).flatMap (lnx t)).length = nn at *
        clear hnn
        go_wp2_with (first
          | (refine wpList_valAt rfl rfl b (off + i * 13) cu rfl HZ1.out HCC.out ?_)
          | (refine wpList_storeRow rfl rfl wr.heap.size zv cu 29 rfl rfl HGN.out HIN.out HZV.out HA1.out ?_)
          | (refine wpList_valAt rfl rfl wr.heap.size 0 cu rfl HZ1.out HCX.out ?_))
        refine HCA.out.mono ?_
        rintro e w5 ⟨v5, rfl, ho5, hk5, hq5⟩
        have HG5 := hide (HGI.out.step (by have := HK1.out.2; omega) (fun q hq e => by have := HVB.out q hq; omega) ho5 hk5 hq5)
        clear ho5 hk5 hq5 HCA HGI HCX HIT HGN HCC
        go_wp2_with fail
        go_roundw
        case rel => exact ⟨i + 1, by omega, by go_num, HG5⟩
        case measure => simp [intOf]; omega
      · as_aux_lemma =>
        have g1 : ¬ (i : Int) < (t.is.length : Int) := by omega
        have hL : i = t.is.length := by omega
        have HGE : Hid (Gth w1 wr w.heap.size cs w0.heap.size (.slice ax rs.length cx) (.slice bx (rs ++ ((List.range t.is.length).take i).flatMap (lnx t)).length dx) (rs ++ lnkf t)) := by
          have h := HG.out
          rw [HE.out]
          have e : (List.range t.is.length).take i = (List.range t.is.length) := List.take_of_length_le (by simp; omega)
          rw [e] at h ⊢
          exact h
        clear HG
        generalize (rs ++ ((List.range t.is.length).take i).flatMap (lnx t)).length = nn at *
        go_wp2_with fail
        go_ret
        exact ⟨_, rfl, by first | exact HGE.out.o | (have h := HGE.out.o; rw [List.length_append] at h; exact h), HK1.out.1.trans HGE.out.k (fun _ _ h => h), HGE.out.q.imp id (fun ⟨q, h1, h2⟩ => ⟨q, h1, by have := HK1.out.2; omega⟩)⟩
  have g8 : (t.k == 8) = false := beq_eq_false_iff_ne.2 h8
  by_cases h9 : t.k = 9
  · have g9 : (t.k == 9) = true := beq_iff_eq.2 h9
    have HE0 : Hid (lnkf t = (ordp t.ks (min t.ks.length t.is.length)).flatMap (lnx t)) := by
      show _ = _
      rw [lnkf_n h7 (.inr h9)]
      unfold pls
      rw [if_neg h8]
    have HV0 : Hid (∀ j u, cs[j]? = some u → (w.alloc (.cells cs 29)).cell? ⟨w.heap.size, 0 + j, none⟩ = some u) := fun j u hu => by rw [Nat.zero_add]; exact blk_cell HG0.out.r hu
    clear h7 h8 h9
    go_enter Tryd.func34, Tryd.ntmps34
    go_wp2_with (refine wpList_valAt rfl rfl w.heap.size 0 cs rfl HSZ.out HV0.out ?_)
    refine (order6_any t _ cs ((HT0.out.move (keep_below HB0.out)).move (keep_below (below_alloc4 w _))) (by have := HML.out; omega)).mono ?_
    rintro e w2 ⟨vp, ps, rfl, hpo, hsp, hop, hb2⟩
    have HE : Hid (lnkf t = ps.flatMap (lnx t)) := by show _ = _; rw [HE0.out, hpo]
    clear hpo HE0
    have HSP := hide hsp
    have hpl : ps.length ≤ 100000 := by have := hsp.len; have := HML.out; omega
    have hi2 := ISl.own hop rfl (by omega)
    have e1 : (w.alloc (.cells cs 29)).heap.size = w.heap.size + 1 := by simp
    have HK1 : Hid (Kp (fun q => (Value.slice ax rs.length cx).ownBlock = some q) w w2 ∧ w.heap.size < w2.heap.size) := ⟨(Kp.of_below (below_alloc4 w _)).trans (Kp.of_below hb2) (fun _ _ h => h), by have := hb2.size; omega⟩
    have HB1 : Hid (Below w0.heap.size w0 w2) := (HB0.out.trans ((below_alloc4 w _).mono HB0.out.size)).trans (hb2.mono (by have := HB0.out.size; omega))
    have hpg : ∀ q, vp.ownBlock = some q → w.heap.size < q := fun q hq => by
      have := hop.lt q hq
      omega
    obtain ⟨⟨pa, pc, rfl, _, hpf⟩, _⟩ := hi2
    have HPG : Hid (∀ q, (Value.slice pa ps.length pc).ownBlock = some q → w.heap.size < q) := hpg
    have HPF := hide hpf
    have HG1 : Hid (Gth w2 w2 w.heap.size cs w0.heap.size (.slice ax rs.length cx) (.slice ax rs.length cx) rs) := ⟨(Kp.of_below (S := fun _ => False) hb2).owns HG0.out.o (fun _ _ h => h), Kp.refl _ _, (hb2.block _ (by omega)).trans HG0.out.r, .inl rfl⟩
    clear hsp hop hb2 hpf hpg e1 HG0 HV0 q0
    go_wp2_with fail
    go_loopw [0, 36] (fun vv ii wx => ∃ i : Nat, i ≤ ps.length ∧ ii = .int .i64 (i : Nat) ∧ Hid (Gth w2 wx w.heap.size cs w0.heap.size (.slice ax rs.length cx) vv (rs ++ (ps.take i).flatMap (lnx t)))) (fun _ ii _ => ps.length - (intOf ii).toNat)
    case atStart => exact ⟨0, by omega, rfl, by simpa using HG1⟩
    case round =>
      obtain ⟨i, hi, rfl, HG⟩ := hrel
      clear HG1
      obtain ⟨bx, dx, hux⟩ := own_slice HG.out.o
      subst hux
      have HBW := hide (HG.out.below HB1.out (fun q hq => (HVB.out q hq).1))
      by_cases hlt : i < ps.length
      · as_aux_lemma =>
        have g1 : (i : Int) < (ps.length : Int) := by omega
        obtain ⟨p, hp⟩ : ∃ p, ps[i]? = some p := ⟨ps[i], List.getElem?_eq_getElem hlt⟩
        have hpl := HSP.out.lt p (List.mem_of_getElem? hp)
        have hp2 : p < t.is.length := by omega
        obtain ⟨u, hu⟩ : ∃ u, t.is[p]? = some u := ⟨t.is[p], List.getElem?_eq_getElem hp2⟩
        obtain ⟨b, off, rfl, hcells⟩ := HF.out.resolve_left (fun h => by rw [h] at hp2; simp at hp2)
        obtain ⟨cu, hcu, hcc⟩ := hcells p u hu
        obtain ⟨b1, off1, rfl, hc1⟩ := HPF.out.resolve_left (fun h => by rw [h] at hlt; simp at hlt)
        have HCC : Hid (∀ j x, cu[j]? = some x → wr.cell? ⟨b, off + p * 13 + j, none⟩ = some x) := fun j x hx => keep_below HBW.out _ _ (hcc j x hx)
        have hmem := List.mem_of_getElem? hu
        have HZ1 := hide hcu.size13
        have c1 : wr.cell? ⟨b1, off1 + i, none⟩ = some (.int .i64 (p : Nat)) := HG.out.k.cell (hc1 i p hp) (fun e => by have h1 := HVB.out b1 e; have h2 := HPG.out b1 rfl; omega)
        have c12 : wr.cell? ⟨w.heap.size, 12, none⟩ = some (.slice (some ⟨b, off, none⟩) t.is.length ci) := blk_cell HG.out.r HC12.out
        have g2 : (p : Int) < (t.is.length : Int) := by omega
        have hfl : (ps.take (i + 1)).flatMap (lnx t) = (ps.take i).flatMap (lnx t) ++ lnkf u := by rw [flat_take hp, lnx_at hu]
        have hle := flat_le (t := t) (ps := ps) (i + 1)
        have HCA := hide (HIH.out u hmem w0 cu hcu (Nat.le_trans (tmuchL_mem hmem) HML.out.1) wr _ _ HBW.out HG.out.o (by
          have h1 := HLN.out
          rw [HE.out, List.length_append] at h1
          rw [List.append_assoc, ← hfl, List.length_append]
          omega))
        rw [List.append_assoc, ← hfl] at HCA
        have HGI := hide HG.out
        clear hu hcells hcu hcc hmem hfl hle hc1 hp HG
        generalize hnn : (rs ++ (ps.take i).flatMap (lnx t)).length = nn at *
        clear hnn
        go_wp2_with (refine wpList_valAt rfl rfl b (off + p * 13) cu rfl HZ1.out HCC.out ?_)
        refine HCA.out.mono ?_
        rintro e w5 ⟨v5, rfl, ho5, hk5, hq5⟩
        have HG5 := hide (HGI.out.step (by have := HK1.out.2; omega) (fun q hq e => by have := HVB.out q hq; omega) ho5 hk5 hq5)
        clear ho5 hk5 hq5 HCA HGI HCC c1 c12
        go_wp2_with fail
        go_roundw
        case rel => exact ⟨i + 1, by omega, by go_num, HG5⟩
        case measure => simp [intOf]; omega
      · as_aux_lemma =>
        have g1 : ¬ (i : Int) < (ps.length : Int) := by omega
        have hL : i = ps.length := by omega
        have HGE : Hid (Gth w2 wr w.heap.size cs w0.heap.size (.slice ax rs.length cx) (.slice bx (rs ++ (ps.take i).flatMap (lnx t)).length dx) (rs ++ lnkf t)) := by
          have h := HG.out
          rw [HE.out]
          have e : ps.take i = ps := List.take_of_length_le (by omega)
          rw [e] at h ⊢
          exact h
        clear HG
        generalize (rs ++ (ps.take i).flatMap (lnx t)).length = nn at *
        go_wp2_with fail
        go_ret
        exact ⟨_, rfl, by first | exact HGE.out.o | (have h := HGE.out.o; rw [List.length_append] at h; exact h), HK1.out.1.trans HGE.out.k (fun _ _ h => h), HGE.out.q.imp id (fun ⟨q, h1, h2⟩ => ⟨q, h1, by have := HK1.out.2; omega⟩)⟩
  · as_aux_lemma =>
    have g9 : (t.k == 9) = false := beq_eq_false_iff_ne.2 h9
    have HE : Hid (lnkf t = []) := lnkf_0 h7 (fun h => h.elim h8 h9)
    clear h7 h8 h9
    go_enter Tryd.func34, Tryd.ntmps34
    go_wp2_with fail
    go_ret
    exact ⟨_, rfl, by rw [HE.out, List.append_nil]; exact HG0.out.o, HG0.out.k, .inl rfl⟩
theorem gathered_any (t : Tv) : GatC t := by
  have h : ∀ N, ∀ t : Tv, SizeOf.sizeOf t = N → GatC t := by
    intro N
    induction N using Nat.strongRecOn with
    | _ N ih => exact fun t hN => gathered_step t (fun u hu => ih _ (by rw [← hN]; exact Tv.is_lt hu) u rfl)
  exact h _ t rfl
end
section
open Go.RowKit Go
theorem sum_range (is : List Tv) (g : Nat → Nat) (hg : ∀ p u, is[p]? = some u → g p ≤ tmuch u) : ∀ n, n ≤ is.length → ((List.range n).map g).sum ≤ tmuchL (is.take n)
  | 0, _ => by simp
  | n + 1, h => by
    have ih := sum_range is g hg n (by omega)
    have hu := List.getElem?_eq_getElem (show n < is.length by omega)
    have h1 := hg n _ hu
    rw [List.range_succ, List.map_append, List.sum_append, takeT _ _ _ hu, tmuchL_app]
    have e : tmuchL [is[n]] = tmuch is[n] := by rw [tmuchL, tmuchL]; omega
    rw [e]
    simp
    omega
theorem tmuchL_take (is : List Tv) (n : Nat) : tmuchL (is.take n) ≤ tmuchL is := by
  have h : tmuchL is = tmuchL (is.take n) + tmuchL (is.drop n) := by rw [← tmuchL_app, List.take_append_drop]
  omega
theorem pls_perm (t : Tv) : ∃ n, n ≤ t.is.length ∧ (pls t).Perm (List.range n) := by
  unfold pls
  by_cases h : t.k = 8
  · rw [if_pos h]
    exact ⟨_, Nat.le_refl _, List.Perm.refl _⟩
  · rw [if_neg h]
    exact ⟨_, by omega, (ordp_srp t.ks (min t.ks.length t.is.length)).p⟩
/-- No more links than parts. -/
theorem lnkf_le (t : Tv) : (lnkf t).length ≤ tmuch t := by
  have h : ∀ N, ∀ t : Tv, SizeOf.sizeOf t = N → (lnkf t).length ≤ tmuch t := by
    intro N
    induction N using Nat.strongRecOn with
    | _ N ih =>
      intro t hN
      have hme := tmuch_eq t
      by_cases h7 : t.k = 7
      · rw [lnkf_7 h7]
        simp
        omega
      · by_cases h8 : t.k = 8 ∨ t.k = 9
        · rw [lnkf_n h7 h8]
          obtain ⟨n, hn, hp⟩ := pls_perm t
          have e : ((pls t).flatMap (lnx t)).length = ((pls t).map (fun p => (lnx t p).length)).sum := by rw [List.length_flatMap]
          have e2 : ((pls t).map (fun p => (lnx t p).length)).sum = ((List.range n).map (fun p => (lnx t p).length)).sum := (hp.map _).sum_nat
          rw [e, e2]
          have h1 := sum_range t.is (fun p => (lnx t p).length) (fun p u hu => by
            rw [lnx_at hu]
            exact ih _ (by rw [← hN]; exact Tv.is_lt (List.mem_of_getElem? hu)) u rfl) n hn
          have h2 := tmuchL_take t.is n
          omega
        · rw [lnkf_0 h7 h8]
          simp
  exact h _ t rfl
set_option maxRecDepth 1000000 in
theorem links6_any (t : Tv) (w : World) (cs : Array Value) (ht : Tin w t cs) (hm : tmuch t ≤ 100000) : Calls Tryd.prog 15 #[.agg cs] w fun e w' => ∃ v', e = .returned v' ∧ w'.ownsRow w.heap.size 25 4 v' (lnkf t).length (fcl (lnkf t)) ∧ Below w.heap.size w w' := by
  have HTN := hide ht
  have HSZ := hide ht.size13
  have HQ0 : Hid (Aln w (w.alloc (.cells cs 29)) cs) := box_mk0 w _
  have HV0 := hide HQ0.out.va
  have HLE := hide (Nat.le_trans (lnkf_le t) hm)
  have HMM := hide hm
  clear ht hm
  have HCA := hide (gathered_any t w cs HTN.out HMM.out (w.alloc (.cells cs 29)) (.slice none 0 0) [] HQ0.out.1 (World.ownsRow_nil _ _ _ _) (by have := HLE.out; rw [List.nil_append]; omega))
  go_enter Tryd.func15, Tryd.ntmps15
  go_wp2_with (refine wpList_valAt rfl rfl w.heap.size 0 cs rfl HSZ.out HV0.out ?_)
  refine HCA.out.mono ?_
  rintro e w1 ⟨v1, rfl, ho, hk, _⟩
  rw [List.nil_append] at ho
  have HO := hide ho
  have HB1 : Hid (Below w.heap.size w w1) := HQ0.out.1.trans ((hk.below (Nat.le_refl _) (fun q h => by cases h)).mono HQ0.out.1.size)
  clear ho hk HCA HQ0 HV0
  go_wp2_with fail
  go_ret
  exact ⟨_, rfl, HO.out, HB1.out⟩
end
section
open Go.RowKit Go
/-! Sorted values once more: one sorted value, its depth, its links; values with maps' entries in another order. -/
theorem tv_ext {a b : Tv} (h : Top a b) (hk : a.ks = b.ks) (hi : a.is = b.is) : a = b := by
  obtain ⟨k, f, g, n, c, s, y, l, ks, is⟩ := a
  obtain ⟨k', f', g', n', c', s', y', l', ks', is'⟩ := b
  obtain ⟨h1, h2, h3, h4, h5, h6, h7, h8⟩ := h
  simp only [Tv.k, Tv.f, Tv.g, Tv.n, Tv.b, Tv.s, Tv.y, Tv.l, Tv.ks, Tv.is] at *
  subst h1 h2 h3 h4 h5 h6 h7 h8 hk hi
  rfl
theorem Top.both {t a b : Tv} (h : Top t a) (h' : Top t b) : Top a b := ⟨h'.k.trans h.k.symm, h'.f.trans h.f.symm, h'.g.trans h.g.symm, h'.n.trans h.n.symm, h'.b.trans h.b.symm, h'.s.trans h.s.symm, h'.y.trans h.y.symm, h'.l.trans h.l.symm⟩
theorem srt_len {t s : Tv} (h : SrtR t s) (ht : Trk t) : s.is.length = t.is.length := by
  cases h with
  | rest _ _ h9 _ _ hn _ => exact hn
  | map _ _ ps h9 _ hp _ hn _ =>
    have h1 := (ht.m h9).1
    rw [hn, hp.len]
    omega
/-- There is one sorted value. -/
theorem srt_one {t s : Tv} (h : SrtR t s) : ∀ {s' : Tv}, Trk t → SrtR t s' → s = s' := by
  induction h with
  | rest t s h9 hT hk hn hi ih =>
    intro s' ht h'
    cases h' with
    | map _ _ _ h9' => exact absurd h9' h9
    | rest _ _ _ hT' hk' hn' hi' =>
      refine tv_ext (hT.both hT') (hk.trans hk'.symm) (List.ext_getElem? fun i => ?_)
      by_cases hl : i < t.is.length
      · have e1 := List.getElem?_eq_getElem hl
        have e2 := List.getElem?_eq_getElem (show i < s.is.length by omega)
        have e3 := List.getElem?_eq_getElem (show i < s'.is.length by omega)
        rw [e2, e3, ih i _ _ e1 e2 (ht.i _ (List.getElem_mem hl)) (hi' i _ _ e1 e3)]
      · rw [List.getElem?_eq_none (by omega), List.getElem?_eq_none (by omega)]
  | map t s ps h9 hT hp hk hn hi ih =>
    intro s' ht h'
    cases h' with
    | rest _ _ h9' => exact absurd h9 h9'
    | map _ _ ps' _ hT' hp' hk' hn' hi' =>
      obtain ⟨hlen, hnd, _⟩ := ht.m h9
      have e := srp_one hnd (by omega) hp hp'
      subst e
      refine tv_ext (hT.both hT') (hk.trans hk'.symm) (List.ext_getElem? fun i => ?_)
      by_cases hl : i < ps.length
      · have e0 := List.getElem?_eq_getElem hl
        have hpl := hp.lt ps[i] (List.getElem_mem hl)
        have e1 := List.getElem?_eq_getElem (show ps[i] < t.is.length by omega)
        have e2 := List.getElem?_eq_getElem (show i < s.is.length by omega)
        have e3 := List.getElem?_eq_getElem (show i < s'.is.length by omega)
        rw [e2, e3, ih i _ _ _ e0 e1 e2 (ht.i _ (List.getElem_mem _)) (hi' i _ _ _ e0 e1 e3)]
      · rw [List.getElem?_eq_none (by omega), List.getElem?_eq_none (by omega)]
theorem depthL_le {l : List Tv} {N : Nat} : tdepthL l ≤ N ↔ ∀ (i : Nat) (u : Tv), l[i]? = some u → tdepth u ≤ N := by
  induction l with
  | nil => simp [tdepthL]
  | cons a r ih =>
    rw [tdepthL, Nat.max_le, ih]
    constructor
    · rintro ⟨h1, h2⟩ i u hu
      rcases i with _ | i
      · simp at hu
        rw [← hu]
        exact h1
      · exact h2 i u (by simpa using hu)
    · intro h
      exact ⟨h 0 a rfl, fun i u hu => h (i + 1) u (by simpa using hu)⟩
theorem depth_eq (t : Tv) : tdepth t = if t.k = 8 ∨ t.k = 9 then tdepthL t.is + 1 else 0 := by
  obtain ⟨k, f, g, n, b, s, y, l, ks, is⟩ := t
  rw [tdepth]
  rfl
theorem eq_of_le {a b : Nat} (h : ∀ N, a ≤ N ↔ b ≤ N) : a = b := Nat.le_antisymm ((h b).2 (Nat.le_refl _)) ((h a).1 (Nat.le_refl _))
theorem perm_at {n : Nat} {ps : List Nat} (h : ps.Perm (List.range n)) {p : Nat} (hp : p < n) : ∃ i : Nat, ps[i]? = some p := by
  have h1 : p ∈ ps := h.mem_iff.2 (by simpa using hp)
  exact List.getElem?_of_mem h1
theorem perm_len {n : Nat} {ps : List Nat} (h : ps.Perm (List.range n)) : ps.length = n := by rw [h.length_eq, List.length_range]
theorem perm_lt {n : Nat} {ps : List Nat} (h : ps.Perm (List.range n)) {i p : Nat} (hp : ps[i]? = some p) : p < n := by simpa using h.mem_iff.1 (List.mem_of_getElem? hp)
theorem srt_depth {t s : Tv} (h : SrtR t s) : Trk t → tdepth s = tdepth t := by
  induction h with
  | rest t s h9 hT hk hn hi ih =>
    intro ht
    rw [depth_eq, depth_eq, hT.k]
    have e : tdepthL s.is = tdepthL t.is := by
      refine eq_of_le fun N => ?_
      rw [depthL_le, depthL_le]
      constructor
      · intro h i u hu
        have hl := (List.getElem?_eq_some_iff.1 hu).1
        have e2 := List.getElem?_eq_getElem (show i < s.is.length by omega)
        rw [← ih i _ _ hu e2 (ht.i _ (List.mem_of_getElem? hu))]
        exact h i _ e2
      · intro h i v hv
        have hl := (List.getElem?_eq_some_iff.1 hv).1
        have e2 := List.getElem?_eq_getElem (show i < t.is.length by omega)
        rw [ih i _ _ e2 hv (ht.i _ (List.mem_of_getElem? e2))]
        exact h i _ e2
    rw [e]
  | map t s ps h9 hT hp hk hn hi ih =>
    intro ht
    obtain ⟨hlen, _⟩ := ht.m h9
    have hpl := hp.len
    rw [depth_eq, depth_eq, hT.k]
    have e : tdepthL s.is = tdepthL t.is := by
      refine eq_of_le fun N => ?_
      rw [depthL_le, depthL_le]
      constructor
      · intro h p u hu
        have hl := (List.getElem?_eq_some_iff.1 hu).1
        obtain ⟨i, hi2⟩ := perm_at hp.p (show p < min t.ks.length t.is.length by omega)
        have hil := (List.getElem?_eq_some_iff.1 hi2).1
        have e2 := List.getElem?_eq_getElem (show i < s.is.length by omega)
        rw [← ih i p _ _ hi2 hu e2 (ht.i _ (List.mem_of_getElem? hu))]
        exact h i _ e2
      · intro h i v hv
        have hl := (List.getElem?_eq_some_iff.1 hv).1
        have hil := List.getElem?_eq_getElem (show i < ps.length by omega)
        have hlt := perm_lt hp.p hil
        have e2 := List.getElem?_eq_getElem (show ps[i] < t.is.length by omega)
        rw [ih i _ _ _ hil e2 hv (ht.i _ (List.mem_of_getElem? e2))]
        exact h _ _ e2
    rw [e]
theorem flat_eq {a b : Tv} {ps qs : List Nat} (hn : ps.length = qs.length) (h : ∀ (i p q : Nat), ps[i]? = some p → qs[i]? = some q → lnx a p = lnx b q) : ps.flatMap (lnx a) = qs.flatMap (lnx b) := by
  rw [List.flatMap, List.flatMap]
  congr 1
  refine List.ext_getElem? fun i => ?_
  rw [List.getElem?_map, List.getElem?_map]
  by_cases hl : i < ps.length
  · have e1 := List.getElem?_eq_getElem hl
    have e2 := List.getElem?_eq_getElem (show i < qs.length by omega)
    rw [e1, e2, Option.map_some, Option.map_some, h i _ _ e1 e2]
  · rw [List.getElem?_eq_none (by omega), List.getElem?_eq_none (by omega)]
    rfl
theorem srp_sorted {ks : List ByteArray} {n : Nat} (h : ∀ (i j : Nat), i < j → j < n → bfr (sl (ks.getD j ⟨#[]⟩)) (sl (ks.getD i ⟨#[]⟩)) = false) : Srp ks n (List.range n) := by
  refine ⟨List.Perm.refl _, ?_⟩
  intro i j p q hij hp hq
  have h1 := (List.getElem?_eq_some_iff.1 hq).1
  rw [List.length_range] at h1
  rw [List.getElem?_range (by omega)] at hp hq
  injection hp with hp
  injection hq with hq
  subst hp hq
  exact h _ _ hij h1
theorem range_at {n i p : Nat} (h : (List.range n)[i]? = some p) : p = i := by
  have h1 := (List.getElem?_eq_some_iff.1 h).1
  rw [List.length_range] at h1
  rw [List.getElem?_range h1] at h
  injection h with h
  exact h.symm
theorem pls_srp {t : Tv} (h8 : t.k ≠ 8) : Srp t.ks (min t.ks.length t.is.length) (pls t) := by
  unfold pls
  rw [if_neg h8]
  exact ordp_srp _ _
theorem srt_links {t s : Tv} (h : SrtR t s) : Trk t → lnkf s = lnkf t := by
  induction h with
  | rest t s h9 hT hk hn hi ih =>
    intro ht
    by_cases h7 : t.k = 7
    · rw [lnkf_7 h7, lnkf_7 (hT.k.trans h7), hT.l]
    · by_cases h8 : t.k = 8
      · rw [lnkf_n h7 (.inl h8), lnkf_n (by rw [hT.k]; exact h7) (.inl (hT.k.trans h8))]
        unfold pls
        rw [if_pos h8, if_pos (hT.k.trans h8)]
        refine flat_eq (by simp [hn]) fun i p q hp hq => ?_
        rw [range_at hp, range_at hq]
        have h1 := (List.getElem?_eq_some_iff.1 hp).1
        rw [List.length_range] at h1
        have e1 := List.getElem?_eq_getElem h1
        have e2 := List.getElem?_eq_getElem (show i < t.is.length by omega)
        rw [lnx_at e1, lnx_at e2]
        exact ih i _ _ e2 e1 (ht.i _ (List.mem_of_getElem? e2))
      · rw [lnkf_0 h7 (by omega), lnkf_0 (by rw [hT.k]; exact h7) (by rw [hT.k]; omega)]
  | map t s ps h9 hT hp hk hn hi ih =>
    intro ht
    obtain ⟨hlen, hnd, _⟩ := ht.m h9
    have hpl := hp.len
    have hs := trk_srt (SrtR.map t s ps h9 hT hp hk hn hi) ht
    obtain ⟨slen, snd, _⟩ := hs.m (hT.k.trans h9)
    rw [lnkf_n (by omega) (.inr h9), lnkf_n (by rw [hT.k]; omega) (.inr (hT.k.trans h9))]
    have e1 : pls t = ps := srp_one hnd (by omega) (pls_srp (by omega)) hp
    have e2 : pls s = List.range s.is.length := by
      refine srp_one snd (by rw [slen]; omega) (pls_srp (by rw [hT.k]; omega)) ?_
      rw [show min s.ks.length s.is.length = s.is.length by omega]
      refine srp_sorted fun i j hij hj => ?_
      have a1 := List.getElem?_eq_getElem (show i < ps.length by omega)
      have a2 := List.getElem?_eq_getElem (show j < ps.length by omega)
      have b1 : s.ks.getD i ⟨#[]⟩ = t.ks.getD ps[i] ⟨#[]⟩ := by rw [hk, List.getD_eq_getElem?_getD, pickS_at a1]; rfl
      have b2 : s.ks.getD j ⟨#[]⟩ = t.ks.getD ps[j] ⟨#[]⟩ := by rw [hk, List.getD_eq_getElem?_getD, pickS_at a2]; rfl
      rw [b1, b2]
      exact hp.s i j _ _ hij a1 a2
    rw [e1, e2]
    refine flat_eq (by simp [hn]) fun i p q h1 h2 => ?_
    rw [range_at h1]
    have hil := (List.getElem?_eq_some_iff.1 h2).1
    have hlt := perm_lt hp.p h2
    have c1 := List.getElem?_eq_getElem (show i < s.is.length by omega)
    have c2 := List.getElem?_eq_getElem (show q < t.is.length by omega)
    rw [lnx_at c1, lnx_at c2]
    exact ih i q _ _ h2 c2 c1 (ht.i _ (List.mem_of_getElem? c2))
end
section
open Go.RowKit Go
/-- A value that passes is a tree. -/
theorem onef_0 {t : Tv} {a : Nat} (h : onef t a = 0) : ¬ ((t.k = 8 ∨ t.k = 9) ∧ 1024 ≤ a) ∧ tidyf t = true ∧ finb t.b = true ∧ (badb t.s || t.ks.any badb) = false ∧ ¬ (t.k = 7 ∧ ¬ lok t.l) ∧ ¬ (t.k = 9 ∧ ¬ (t.ks.length = t.is.length ∧ t.ks.Nodup)) := by
  unfold onef at h
  split at h
  · cases h
  · rename_i h1
    split at h
    · cases h
    · rename_i h2
      split at h
      · cases h
      · rename_i h3
        split at h
        · cases h
        · rename_i h4
          split at h
          · cases h
          · rename_i h5
            split at h
            · cases h
            · rename_i h6
              exact ⟨h1, by simpa using h2, by simpa using h3, by simpa using h4, h5, h6⟩
theorem chkL_all {l : List Tv} {a : Nat} (h : chkL l a = 0) : ∀ u ∈ l, chkf u a = 0 := by
  intro u hu
  obtain ⟨i, hi⟩ := List.getElem?_of_mem hu
  have key : ∀ N i : Nat, i < N → ∀ v, l[i]? = some v → chkf v a = 0 := by
    intro N
    induction N with
    | zero => intro i hi; omega
    | succ N ih =>
      intro i hi v hv
      rcases Nat.lt_or_ge i N with h1 | h1
      · exact ih i h1 v hv
      · rcases Nat.eq_zero_or_pos (chkf v a) with e | e
        · exact e
        · have := chkL_at (i := i) (fun j w hj hw => ih j (by omega) w hw) hv (by omega)
          omega
  exact key (i + 1) i (by omega) u hi
theorem chkf_0 {t : Tv} {a : Nat} (h : chkf t a = 0) : onef t a = 0 ∧ ∀ u ∈ t.is, chkf u (a + 1) = 0 := by
  rw [chkf_eq] at h
  split at h
  · rename_i h1
    exact ⟨h1, chkL_all h⟩
  · rename_i h1
    exact absurd h h1
theorem tidy_k {t : Tv} (h : tidyf t = true) : 1 ≤ t.k ∧ t.k ≤ 9 ∧ t.zr.cl = true := by
  unfold tidyf at h
  rw [Bool.and_eq_true, decide_eq_true_eq] at h
  exact ⟨h.1.1, h.1.2, h.2⟩
theorem cl_all {t : Tv} (h : t.cl = true) : t.f = false ∧ t.g = false ∧ t.n = 0 ∧ t.b = 0 ∧ t.s = ⟨#[]⟩ ∧ t.l = ⟨0, 0, 0, []⟩ ∧ t.y = [] ∧ t.ks = [] ∧ t.is = [] := by
  unfold Tv.cl at h
  simp only [Bool.and_eq_true, Bool.not_eq_true', decide_eq_true_eq, List.isEmpty_iff] at h
  exact h
theorem tidy_9 {t : Tv} (h : tidyf t = true) (h9 : t.k = 9) : t.f = false ∧ t.g = false ∧ t.n = 0 ∧ t.b = 0 ∧ t.s = ⟨#[]⟩ ∧ t.y = [] ∧ t.l = ⟨0, 0, 0, []⟩ := by
  have h1 := (tidy_k h).2.2
  have e : t.zr = .mk t.k t.f t.g t.n t.b t.s t.y t.l [] [] := by unfold Tv.zr; simp [h9]
  rw [e] at h1
  obtain ⟨a1, a2, a3, a4, a5, a6, a7, _⟩ := cl_all h1
  exact ⟨a1, a2, a3, a4, a5, a7, a6⟩
theorem tidy_ks {t : Tv} (h : tidyf t = true) (h9 : t.k ≠ 9) : t.ks = [] := by
  have h1 := (cl_all (tidy_k h).2.2).2.2.2.2.2.2.2.1
  have e : t.zr.ks = t.ks := by
    unfold Tv.zr
    rw [if_neg h9]
    repeat' split
    all_goals rfl
  rw [e] at h1
  exact h1
theorem tidy_is {t : Tv} (h : tidyf t = true) (h8 : t.k ≠ 8) (h9 : t.k ≠ 9) : t.is = [] := by
  have h1 := (cl_all (tidy_k h).2.2).2.2.2.2.2.2.2.2
  have e : t.zr.is = t.is := by
    unfold Tv.zr
    rw [if_neg h9, if_neg h8]
    repeat' split
    all_goals rfl
  rw [e] at h1
  exact h1
theorem chk_trk {t : Tv} {a : Nat} (h : chkf t a = 0) : Trk t := by
  have key : ∀ N, ∀ t : Tv, SizeOf.sizeOf t = N → ∀ a, chkf t a = 0 → Trk t := by
    intro N
    induction N using Nat.strongRecOn with
    | _ N ih =>
      intro t hN a h
      obtain ⟨h1, h2⟩ := chkf_0 h
      obtain ⟨_, htd, _, _, _, hks⟩ := onef_0 h1
      refine Trk.mk t (fun h9 => ?_) (fun h9 => tidy_ks htd h9) fun u hu => ih _ (by have := Tv.is_lt hu; omega) u rfl _ (h2 u hu)
      have h3 : t.ks.length = t.is.length ∧ t.ks.Nodup := by
        apply Classical.byContradiction
        intro hh
        exact hks ⟨h9, hh⟩
      exact ⟨h3.1, h3.2, tidy_9 htd h9⟩
  exact key _ t rfl a h

theorem cl_is {k : Int} {f g : Bool} {n b : Nat} {s : ByteArray} {y : List Nat} {l : Lk} {ks : List ByteArray} {is is' : List Tv} (he : is'.isEmpty = is.isEmpty) : (Tv.mk k f g n b s y l ks is').cl = (Tv.mk k f g n b s y l ks is).cl := by
  show (!f && (!g && (decide (n = 0) && (decide (b = 0) && (decide (s = ⟨#[]⟩) && (decide (l = ⟨0, 0, 0, []⟩) && (decide (y = []) && (decide (ks = []) && is'.isEmpty)))))))) = (!f && (!g && (decide (n = 0) && (decide (b = 0) && (decide (s = ⟨#[]⟩) && (decide (l = ⟨0, 0, 0, []⟩) && (decide (y = []) && (decide (ks = []) && is.isEmpty))))))))
  rw [he]
theorem tidy_top {t w : Tv} (hT : Top t w) (hk : w.ks = t.ks) (he : w.is.isEmpty = t.is.isEmpty) : tidyf w = tidyf t := by
  obtain ⟨k, f, g, n, b, s, y, l, ks, is⟩ := t
  obtain ⟨k', f', g', n', b', s', y', l', ks', is'⟩ := w
  obtain ⟨h1, h2, h3, h4, h5, h6, h7, h8⟩ := hT
  simp only [Tv.k, Tv.f, Tv.g, Tv.n, Tv.b, Tv.s, Tv.y, Tv.l, Tv.ks, Tv.is] at *
  subst h1 h2 h3 h4 h5 h6 h7 h8 hk
  have hz : (Tv.mk k' f' g' n' b' s' y' l' ks' is').zr.cl = (Tv.mk k' f' g' n' b' s' y' l' ks' is).zr.cl := by
    by_cases e2 : k' = 2
    · have z1 : (Tv.mk k' f' g' n' b' s' y' l' ks' is').zr = .mk k' false g' n' b' s' y' l' ks' is' := by unfold Tv.zr; simp [Tv.k, Tv.g, Tv.n, Tv.b, Tv.s, Tv.y, Tv.l, Tv.ks, Tv.is, e2]
      have z2 : (Tv.mk k' f' g' n' b' s' y' l' ks' is).zr = .mk k' false g' n' b' s' y' l' ks' is := by unfold Tv.zr; simp [Tv.k, Tv.g, Tv.n, Tv.b, Tv.s, Tv.y, Tv.l, Tv.ks, Tv.is, e2]
      rw [z1, z2, cl_is he]
    by_cases e3 : k' = 3
    · have z1 : (Tv.mk k' f' g' n' b' s' y' l' ks' is').zr = .mk k' f' false 0 b' s' y' l' ks' is' := by unfold Tv.zr; simp [Tv.k, Tv.f, Tv.b, Tv.s, Tv.y, Tv.l, Tv.ks, Tv.is, e3]
      have z2 : (Tv.mk k' f' g' n' b' s' y' l' ks' is).zr = .mk k' f' false 0 b' s' y' l' ks' is := by unfold Tv.zr; simp [Tv.k, Tv.f, Tv.b, Tv.s, Tv.y, Tv.l, Tv.ks, Tv.is, e3]
      rw [z1, z2, cl_is he]
    by_cases e4 : k' = 4
    · have z1 : (Tv.mk k' f' g' n' b' s' y' l' ks' is').zr = .mk k' f' g' n' 0 s' y' l' ks' is' := by unfold Tv.zr; simp [Tv.k, Tv.f, Tv.g, Tv.n, Tv.s, Tv.y, Tv.l, Tv.ks, Tv.is, e4]
      have z2 : (Tv.mk k' f' g' n' b' s' y' l' ks' is).zr = .mk k' f' g' n' 0 s' y' l' ks' is := by unfold Tv.zr; simp [Tv.k, Tv.f, Tv.g, Tv.n, Tv.s, Tv.y, Tv.l, Tv.ks, Tv.is, e4]
      rw [z1, z2, cl_is he]
    by_cases e5 : k' = 5
    · have z1 : (Tv.mk k' f' g' n' b' s' y' l' ks' is').zr = .mk k' f' g' n' b' ⟨#[]⟩ y' l' ks' is' := by unfold Tv.zr; simp [Tv.k, Tv.f, Tv.g, Tv.n, Tv.b, Tv.y, Tv.l, Tv.ks, Tv.is, e5]
      have z2 : (Tv.mk k' f' g' n' b' s' y' l' ks' is).zr = .mk k' f' g' n' b' ⟨#[]⟩ y' l' ks' is := by unfold Tv.zr; simp [Tv.k, Tv.f, Tv.g, Tv.n, Tv.b, Tv.y, Tv.l, Tv.ks, Tv.is, e5]
      rw [z1, z2, cl_is he]
    by_cases e6 : k' = 6
    · have z1 : (Tv.mk k' f' g' n' b' s' y' l' ks' is').zr = .mk k' f' g' n' b' s' [] l' ks' is' := by unfold Tv.zr; simp [Tv.k, Tv.f, Tv.g, Tv.n, Tv.b, Tv.s, Tv.l, Tv.ks, Tv.is, e6]
      have z2 : (Tv.mk k' f' g' n' b' s' y' l' ks' is).zr = .mk k' f' g' n' b' s' [] l' ks' is := by unfold Tv.zr; simp [Tv.k, Tv.f, Tv.g, Tv.n, Tv.b, Tv.s, Tv.l, Tv.ks, Tv.is, e6]
      rw [z1, z2, cl_is he]
    by_cases e7 : k' = 7
    · have z1 : (Tv.mk k' f' g' n' b' s' y' l' ks' is').zr = .mk k' f' g' n' b' s' y' ⟨0, 0, 0, []⟩ ks' is' := by unfold Tv.zr; simp [Tv.k, Tv.f, Tv.g, Tv.n, Tv.b, Tv.s, Tv.y, Tv.ks, Tv.is, e7]
      have z2 : (Tv.mk k' f' g' n' b' s' y' l' ks' is).zr = .mk k' f' g' n' b' s' y' ⟨0, 0, 0, []⟩ ks' is := by unfold Tv.zr; simp [Tv.k, Tv.f, Tv.g, Tv.n, Tv.b, Tv.s, Tv.y, Tv.ks, Tv.is, e7]
      rw [z1, z2, cl_is he]
    by_cases e8 : k' = 8
    · have z1 : (Tv.mk k' f' g' n' b' s' y' l' ks' is').zr = .mk k' f' g' n' b' s' y' l' ks' [] := by unfold Tv.zr; simp [Tv.k, Tv.f, Tv.g, Tv.n, Tv.b, Tv.s, Tv.y, Tv.l, Tv.ks, e8]
      have z2 : (Tv.mk k' f' g' n' b' s' y' l' ks' is).zr = .mk k' f' g' n' b' s' y' l' ks' [] := by unfold Tv.zr; simp [Tv.k, Tv.f, Tv.g, Tv.n, Tv.b, Tv.s, Tv.y, Tv.l, Tv.ks, e8]
      rw [z1, z2]
    by_cases e9 : k' = 9
    · have z1 : (Tv.mk k' f' g' n' b' s' y' l' ks' is').zr = .mk k' f' g' n' b' s' y' l' [] [] := by unfold Tv.zr; simp [Tv.k, Tv.f, Tv.g, Tv.n, Tv.b, Tv.s, Tv.y, Tv.l, e9]
      have z2 : (Tv.mk k' f' g' n' b' s' y' l' ks' is).zr = .mk k' f' g' n' b' s' y' l' [] [] := by unfold Tv.zr; simp [Tv.k, Tv.f, Tv.g, Tv.n, Tv.b, Tv.s, Tv.y, Tv.l, e9]
      rw [z1, z2]
    have z1 : (Tv.mk k' f' g' n' b' s' y' l' ks' is').zr = .mk k' f' g' n' b' s' y' l' ks' is' := by unfold Tv.zr; simp [Tv.k, e2, e3, e4, e5, e6, e7, e8, e9]
    have z2 : (Tv.mk k' f' g' n' b' s' y' l' ks' is).zr = .mk k' f' g' n' b' s' y' l' ks' is := by unfold Tv.zr; simp [Tv.k, e2, e3, e4, e5, e6, e7, e8, e9]
    rw [z1, z2, cl_is he]
  unfold tidyf
  rw [hz]
  rfl
/-! Maps' entries in another order. -/
inductive Trn : Tv → Tv → Prop
  | rest (t w : Tv) (h9 : t.k ≠ 9) (ht : Top t w) (hk : w.ks = t.ks) (hn : w.is.length = t.is.length) (hi : ∀ (i : Nat) (u v : Tv), t.is[i]? = some u → w.is[i]? = some v → Trn u v) : Trn t w
  | map (t w : Tv) (ps : List Nat) (h9 : t.k = 9) (ht : Top t w) (hp : ps.Perm (List.range t.is.length)) (hk : w.ks = pickS t.ks ps) (hn : w.is.length = t.is.length) (hi : ∀ (i p : Nat) (u v : Tv), ps[i]? = some p → t.is[p]? = some u → w.is[i]? = some v → Trn u v) : Trn t w
theorem pickS_perm {ks : List ByteArray} {ps : List Nat} {n : Nat} (hn : ks.length = n) (hp : ps.Perm (List.range n)) : (pickS ks ps).Perm ks := by
  have h1 : (pickS ks ps).Perm (pickS ks (List.range ks.length)) := by
    unfold pickS
    rw [hn]
    exact hp.map _
  rw [pickS_range] at h1
  exact h1
theorem trn_trk {t w : Tv} (h : Trn t w) : Trk t → Trk w := by
  induction h with
  | rest t w h9 hT hk hn hi ih =>
    intro ht
    refine Trk.mk w (fun h => absurd (hT.k.symm.trans h) h9) (fun _ => hk.trans (ht.e h9)) fun v hv => ?_
    obtain ⟨i, hv⟩ := List.getElem?_of_mem hv
    have hl := (List.getElem?_eq_some_iff.1 hv).1
    have e := List.getElem?_eq_getElem (show i < t.is.length by omega)
    exact ih i _ _ e hv (ht.i _ (List.mem_of_getElem? e))
  | map t w ps h9 hT hp hk hn hi ih =>
    intro ht
    obtain ⟨hlen, hnd, h1, h2, h3, h4, h5, h6, h7⟩ := ht.m h9
    refine Trk.mk w (fun _ => ⟨?_, ?_, hT.f.trans h1, hT.g.trans h2, hT.n.trans h3, hT.b.trans h4, hT.s.trans h5, hT.y.trans h6, hT.l.trans h7⟩) (fun h => absurd (hT.k.trans h9) h) fun v hv => ?_
    · rw [hk, pickS_len, perm_len hp, hn]
    · rw [hk]
      exact (pickS_perm hlen hp).nodup_iff.2 hnd
    · obtain ⟨i, hv⟩ := List.getElem?_of_mem hv
      have hl := (List.getElem?_eq_some_iff.1 hv).1
      have hpl := perm_len hp
      have e0 := List.getElem?_eq_getElem (show i < ps.length by omega)
      have hlt := perm_lt hp e0
      have e := List.getElem?_eq_getElem hlt
      exact ih i _ _ _ e0 e hv (ht.i _ (List.mem_of_getElem? e))
theorem trn_chk {t w : Tv} (h : Trn t w) : ∀ {a : Nat}, chkf t a = 0 → chkf w a = 0 := by
  induction h with
  | rest t w h9 hT hk hn hi ih =>
    intro a h
    obtain ⟨h1, h2⟩ := chkf_0 h
    obtain ⟨c1, c2, c3, c4, c5, c6⟩ := onef_0 h1
    rw [chkf_eq]
    have e : onef w a = 0 := by
      have hz : tidyf w = true := by
        have he : w.is = [] ↔ t.is = [] := by
          rw [← List.length_eq_zero_iff, ← List.length_eq_zero_iff, hn]
        have hie : w.is.isEmpty = t.is.isEmpty := by rw [Bool.eq_iff_iff, List.isEmpty_iff, List.isEmpty_iff, he]
        exact (tidy_top hT hk hie).trans c2
      unfold onef
      rw [hT.k, hz, hT.b, c3, hT.s, hk, c4, hT.l, if_neg c1, if_neg (by simp), if_neg (by simp), if_neg (by simp), if_neg c5, if_neg (fun h => h9 h.1)]
    rw [if_pos e]
    refine chkL_none fun v hv => ?_
    obtain ⟨i, hv⟩ := List.getElem?_of_mem hv
    have hl := (List.getElem?_eq_some_iff.1 hv).1
    have e2 := List.getElem?_eq_getElem (show i < t.is.length by omega)
    exact ih i _ _ e2 hv (h2 _ (List.mem_of_getElem? e2))
  | map t w ps h9 hT hp hk hn hi ih =>
    intro a h
    obtain ⟨h1, h2⟩ := chkf_0 h
    obtain ⟨c1, c2, c3, c4, c5, c6⟩ := onef_0 h1
    have htk := chk_trk h
    obtain ⟨hlen, hnd, _⟩ := htk.m h9
    have hpm := pickS_perm hlen hp
    rw [chkf_eq]
    have e : onef w a = 0 := by
      have hz : tidyf w = true := by
        obtain ⟨b1, b2, b3, b4, b5, b6, b7⟩ := tidy_9 c2 h9
        have ez : w.zr = .mk w.k w.f w.g w.n w.b w.s w.y w.l [] [] := by unfold Tv.zr; simp [hT.k, h9]
        unfold tidyf
        rw [ez, hT.k, hT.f, hT.g, hT.n, hT.b, hT.s, hT.y, hT.l, b1, b2, b3, b4, b5, b6, b7, h9]
        decide
      have hb : w.ks.any badb = t.ks.any badb := by rw [hk]; exact hpm.any_eq
      unfold onef
      rw [hT.k, hz, hT.b, c3, hT.s, hb, c4, hT.l, if_neg c1, if_neg (by simp), if_neg (by simp), if_neg (by simp), if_neg c5, if_neg (fun h => h.2 ⟨by rw [hk, pickS_len, perm_len hp, hn], by rw [hk]; exact hpm.nodup_iff.2 hnd⟩)]
    rw [if_pos e]
    refine chkL_none fun v hv => ?_
    obtain ⟨i, hv⟩ := List.getElem?_of_mem hv
    have hl := (List.getElem?_eq_some_iff.1 hv).1
    have hpl := perm_len hp
    have e0 := List.getElem?_eq_getElem (show i < ps.length by omega)
    have hlt := perm_lt hp e0
    have e2 := List.getElem?_eq_getElem hlt
    exact ih i _ _ _ e0 e2 hv (h2 _ (List.mem_of_getElem? e2))
/-- Turned values are sorted alike. -/
theorem trn_srt {t s : Tv} (h : SrtR t s) : ∀ {w : Tv}, Trk t → Trn t w → SrtR w s := by
  induction h with
  | rest t s h9 hT hk hn hi ih =>
    intro w ht h'
    cases h' with
    | map _ _ _ h9' => exact absurd h9' h9
    | rest _ _ _ hT' hk' hn' hi' =>
      refine SrtR.rest w s (by rw [hT'.k]; exact h9) (hT'.both hT) (hk.trans hk'.symm) (hn.trans hn'.symm) fun i u v hu hv => ?_
      have hl := (List.getElem?_eq_some_iff.1 hu).1
      have e := List.getElem?_eq_getElem (show i < t.is.length by omega)
      exact ih i _ _ e hv (ht.i _ (List.mem_of_getElem? e)) (hi' i _ _ e hu)
  | map t s ps h9 hT hp hk hn hi ih =>
    intro w ht h'
    cases h' with
    | rest _ _ h9' => exact absurd h9 h9'
    | map _ _ pt _ hT' hp' hk' hn' hi' =>
      obtain ⟨hlen, hnd, _⟩ := ht.m h9
      have hmin : min t.ks.length t.is.length = t.is.length := by omega
      rw [hmin] at hp
      have hpl := hp.len
      have hptl := perm_len hp'
      have hwk : w.ks.length = w.is.length := by rw [hk', pickS_len, hptl, hn']
      have hat : ∀ {p}, p < t.is.length → pt[pt.idxOf p]? = some p := fun {p} hpp => by
        have hm : p ∈ pt := hp'.mem_iff.2 (by simpa using hpp)
        rw [List.getElem?_eq_getElem (List.idxOf_lt_length_of_mem hm)]
        simp
      have hkey : ∀ {p}, p < t.is.length → w.ks.getD (pt.idxOf p) ⟨#[]⟩ = t.ks.getD p ⟨#[]⟩ := fun {p} hpp => by
        rw [hk', List.getD_eq_getElem?_getD, pickS_at (hat hpp)]
        rfl
      have hlt : ∀ {p}, p < t.is.length → pt.idxOf p < t.is.length := fun {p} hpp => by
        have := (List.getElem?_eq_some_iff.1 (hat hpp)).1
        omega
      have hnp : ps.Nodup := hp.p.nodup_iff.2 List.nodup_range
      have hqs : (ps.map fun p => pt.idxOf p).Perm (List.range t.is.length) := by
        have hnq : (ps.map fun p => pt.idxOf p).Nodup := by
          rw [List.nodup_iff_pairwise_ne, List.pairwise_map]
          refine hnp.imp_of_mem ?_
          intro a b ha hb hab e
          have e1 := hat (hp.lt a ha)
          have e2 := hat (hp.lt b hb)
          rw [e, e2] at e1
          injection e1 with e1
          exact hab e1.symm
        refine (List.perm_ext_iff_of_nodup hnq List.nodup_range).2 fun q => ?_
        rw [List.mem_range, List.mem_map]
        constructor
        · rintro ⟨p, hpm, rfl⟩
          exact hlt (hp.lt p hpm)
        · intro hq
          have hq2 : q < pt.length := by omega
          have hpp := perm_lt hp' (List.getElem?_eq_getElem hq2)
          refine ⟨pt[q], hp.p.mem_iff.2 (by simpa using hpp), ?_⟩
          exact (hp'.nodup_iff.2 List.nodup_range).idxOf_getElem q hq2
      refine SrtR.map w s (ps.map fun p => pt.idxOf p) (hT'.k.trans h9) (hT'.both hT) ?_ ?_ ?_ ?_
      · rw [show min w.ks.length w.is.length = t.is.length by omega]
        refine ⟨hqs, ?_⟩
        intro i j p q hij hpi hqj
        rw [List.getElem?_map] at hpi hqj
        obtain ⟨a, ha, rfl⟩ := Option.map_eq_some_iff.1 hpi
        obtain ⟨b, hb, rfl⟩ := Option.map_eq_some_iff.1 hqj
        rw [hkey (hp.lt a (List.mem_of_getElem? ha)), hkey (hp.lt b (List.mem_of_getElem? hb))]
        exact hp.s i j a b hij ha hb
      · rw [hk]
        unfold pickS
        rw [List.map_map]
        refine List.map_congr_left fun p hpm => ?_
        exact (hkey (hp.lt p hpm)).symm
      · rw [hn, List.length_map]
      · intro i q u v hq hu hv
        rw [List.getElem?_map] at hq
        obtain ⟨p, hpi, rfl⟩ := Option.map_eq_some_iff.1 hq
        have hpp := hp.lt p (List.mem_of_getElem? hpi)
        have e := List.getElem?_eq_getElem hpp
        exact ih i p _ v hpi e hv (ht.i _ (List.mem_of_getElem? e)) (hi' _ p _ u (hat hpp) e hu)
end
section
open Go.RowKit Go
theorem cell_lt6 {w : World} {a : Addr} {v : Value} (h : w.cell? a = some v) : a.block < w.heap.size := by
  rcases Nat.lt_or_ge a.block w.heap.size with h1 | h1
  · exact h1
  · unfold World.cell? at h
    rw [Array.getElem?_eq_none h1] at h
    cases h
/-! A value in memory that does not lie in a set of blocks. -/
inductive Tis (w : World) (S : Nat → Prop) : Tv → Array Value → Prop
  | mk (t : Tv) (vy vk vi : Value) (hb : Tbd t) (hy : BSl w vy t.y) (hys : t.y ≠ [] → ∀ q, vy.ownBlock = some q → ¬ S q) (hk : SSl w vk t.ks) (hks : t.ks ≠ [] → ∀ q, vk.ownBlock = some q → ¬ S q)
      (cs : Nat → Array Value) (a : Option Addr) (cap : Nat) (hv : vi = .slice a t.is.length cap) (hc : t.is.length ≤ cap ∧ (a = none → cap = 0)) (hm : t.is.length ≤ 140737488351232) (hi : ∀ i u, t.is[i]? = some u → Tis w S u (cs i))
      (ha : t.is = [] ∨ ∃ b off, a = some ⟨b, off, none⟩ ∧ ¬ S b ∧ ∀ i, i < t.is.length → ∀ j u, (cs i)[j]? = some u → w.cell? ⟨b, off + i * 13 + j, none⟩ = some u) : Tis w S t (vcs t vy vk vi)
theorem Tis.tin {w : World} {S : Nat → Prop} {t : Tv} {c : Array Value} (h : Tis w S t c) : Tin w t c := by
  induction h with
  | mk t vy vk vi hb hy hys hk hks cs a cap hv hc hm hi ha ih =>
    subst hv
    refine Tin.mk t vy vk a cap cs hb.n hb.b hb.s hy hb.y hb.l hb.d hk hc hm ih ?_
    rcases ha with ha | ⟨b, off, e, _, ha⟩
    · exact .inl ha
    · exact .inr ⟨b, off, e, ha⟩
theorem bsl_nil6 {w w' : World} {v : Value} (h : BSl w v []) : BSl w' v [] := by
  obtain ⟨⟨a, c, hv, hn, hc⟩, h1, h2⟩ := h
  exact ⟨⟨a, c, hv, hn, .inl rfl⟩, h1, h2⟩
theorem ssl_nil6 {w w' : World} {v : Value} (h : SSl w v []) : SSl w' v [] := by
  obtain ⟨⟨a, c, hv, hn, hc⟩, h1, h2⟩ := h
  exact ⟨⟨a, c, hv, hn, .inl rfl⟩, h1, h2⟩
theorem Kp.ssl {S : Nat → Prop} {w w' : World} (h : Kp S w w') {v : Value} {ks : List ByteArray} (hb : SSl w v ks) (hs : ∀ k, v.ownBlock = some k → ¬ S k) : SSl w' v ks := by
  obtain ⟨⟨a, c, hv, hn, hc⟩, h1, h2⟩ := hb
  refine ⟨⟨a, c, hv, hn, ?_⟩, h1, h2⟩
  rcases hc with hc | ⟨b, off, ha, hc⟩
  · exact .inl hc
  · refine .inr ⟨b, off, ha, fun j s hj => h.cell (hc j s hj) (hs b ?_)⟩
    rw [hv, ha]
    rfl
theorem Tis.kp {w w' : World} {S : Nat → Prop} {t : Tv} {c : Array Value} (h : Tis w S t c) (hk : Kp S w w') : Tis w' S t c := by
  induction h with
  | mk t vy vk vi hb hy hys hkk hks cs a cap hv hc hm hi ha ih =>
    refine Tis.mk t vy vk vi hb ?_ hys ?_ hks cs a cap hv hc hm ih ?_
    · by_cases e : t.y = []
      · rw [e] at hy ⊢
        exact bsl_nil6 hy
      · exact hk.bsl hy (hys e)
    · by_cases e : t.ks = []
      · rw [e] at hkk ⊢
        exact ssl_nil6 hkk
      · exact hk.ssl hkk (hks e)
    · rcases ha with ha | ⟨b, off, e, hs, ha⟩
      · exact .inl ha
      · exact .inr ⟨b, off, e, hs, fun i hi j u hu => hk.cell (ha i hi j u hu) hs⟩
theorem Tis.mono {w : World} {S T : Nat → Prop} {t : Tv} {c : Array Value} (h : Tis w S t c) (hs : ∀ q, T q → S q) : Tis w T t c := by
  induction h with
  | mk t vy vk vi hb hy hys hk hks cs a cap hv hc hm hi ha ih =>
    refine Tis.mk t vy vk vi hb hy (fun e q hq h => hys e q hq (hs q h)) hk (fun e q hq h => hks e q hq (hs q h)) cs a cap hv hc hm ih ?_
    rcases ha with ha | ⟨b, off, e, h1, ha⟩
    · exact .inl ha
    · exact .inr ⟨b, off, e, fun h => h1 (hs b h), ha⟩
theorem Tis.of_tin {w : World} {S : Nat → Prop} {t : Tv} {c : Array Value} (h : Tin w t c) (hs : ∀ q, S q → w.heap.size ≤ q) : Tis w S t c := by
  induction h with
  | mk t vy vk a cap cs hn hb hsz hy hyl hl hld hk hc hm hi ha ih =>
    refine Tis.mk t vy vk _ ⟨hn, hb, hsz, hyl, hl, hld⟩ hy ?_ hk ?_ cs a cap rfl hc hm ih ?_
    · intro e q hq h
      obtain ⟨⟨a', c', hv, _, hcc⟩, _, _⟩ := hy
      obtain ⟨b, off, ha', hcd⟩ := hcc.resolve_left e
      subst hv
      subst ha'
      have e3 : b = q := by simpa [Value.ownBlock] using hq
      subst e3
      have hl : 0 < t.y.length := List.length_pos_iff.2 e
      have h1 := cell_lt6 (hcd 0 hl)
      have := hs _ h
      simp only at h1
      omega
    · intro e q hq h
      obtain ⟨⟨a', c', hv, _, hcc⟩, _, _⟩ := hk
      obtain ⟨b, off, ha', hcd⟩ := hcc.resolve_left e
      subst hv
      subst ha'
      have e3 : b = q := by simpa [Value.ownBlock] using hq
      subst e3
      obtain ⟨s, hs0⟩ : ∃ s, t.ks[0]? = some s := by
        cases hks : t.ks with
        | nil => exact absurd hks e
        | cons s r => exact ⟨s, rfl⟩
      have h1 := cell_lt6 (hcd 0 s hs0)
      have := hs _ h
      simp only at h1
      omega
    · rcases ha with ha | ⟨b, off, e, ha⟩
      · exact .inl ha
      · by_cases e2 : t.is = []
        · exact .inl e2
        · refine .inr ⟨b, off, e, fun h => ?_, ha⟩
          have hl : 0 < t.is.length := List.length_pos_iff.2 e2
          have hz := (hi 0 _ (List.getElem?_eq_getElem hl)).size13
          have h1 := cell_lt6 (ha 0 hl 0 ((cs 0)[0]'(by omega)) (Array.getElem?_eq_getElem (by omega)))
          have := hs _ h
          simp only at h1
          omega
/-- Nor does it lie in what is made later. -/
theorem Tis.widen {w : World} {S : Nat → Prop} {t : Tv} {c : Array Value} (h : Tis w S t c) : Tis w (fun q => S q ∨ w.heap.size ≤ q) t c := by
  induction h with
  | mk t vy vk vi hb hy hys hk hks cs a cap hv hc hm hi ha ih =>
    have hi2 := hi
    refine Tis.mk t vy vk vi hb hy ?_ hk ?_ cs a cap hv hc hm ih ?_
    · intro e q hq h
      rcases h with h | h
      · exact hys e q hq h
      · obtain ⟨⟨a', c', hv', _, hcc⟩, _, _⟩ := hy
        obtain ⟨b, off, ha', hcd⟩ := hcc.resolve_left e
        subst hv'
        subst ha'
        have e3 : b = q := by simpa [Value.ownBlock] using hq
        subst e3
        have hl : 0 < t.y.length := List.length_pos_iff.2 e
        have h1 := cell_lt6 (hcd 0 hl)
        simp only at h1
        omega
    · intro e q hq h
      rcases h with h | h
      · exact hks e q hq h
      · obtain ⟨⟨a', c', hv', _, hcc⟩, _, _⟩ := hk
        obtain ⟨b, off, ha', hcd⟩ := hcc.resolve_left e
        subst hv'
        subst ha'
        have e3 : b = q := by simpa [Value.ownBlock] using hq
        subst e3
        obtain ⟨s, hs0⟩ : ∃ s, t.ks[0]? = some s := by
          cases hks' : t.ks with
          | nil => exact absurd hks' e
          | cons s r => exact ⟨s, rfl⟩
        have h1 := cell_lt6 (hcd 0 s hs0)
        simp only at h1
        omega
    · rcases ha with ha | ⟨b, off, e, hs, ha⟩
      · exact .inl ha
      · by_cases e2 : t.is = []
        · exact .inl e2
        · refine .inr ⟨b, off, e, fun h => ?_, ha⟩
          rcases h with h | h
          · exact hs h
          · have hl : 0 < t.is.length := List.length_pos_iff.2 e2
            have hz := (hi2 0 _ (List.getElem?_eq_getElem hl)).tin.size13
            have h1 := cell_lt6 (ha 0 hl 0 ((cs 0)[0]'(by omega)) (Array.getElem?_eq_getElem (by omega)))
            simp only at h1
            omega
end
section
open Go.RowKit Go
/-- The place that stands at i, turned by n. -/
def trk (n m i : Nat) : Nat := if n % 2 = 1 then m - 1 - (i + n) % m else (i + n) % m
def trp (n m : Nat) : List Nat := (List.range m).map (trk n m)
theorem turn_mod (n m i : Nat) (hi : i < m) : (i + n) % m = if i + n % m < m then i + n % m else i + n % m - m := by
  have hr : n % m < m := Nat.mod_lt _ (by omega)
  rw [← Nat.add_mod_mod]
  split
  · rename_i h
    exact Nat.mod_eq_of_lt h
  · rename_i h
    rw [Nat.mod_eq_sub_mod (by omega)]
    exact Nat.mod_eq_of_lt (by omega)
theorem trk_lt (n m i : Nat) (hi : i < m) : trk n m i < m := by
  have h := turn_mod n m i hi
  have hr : n % m < m := Nat.mod_lt _ (by omega)
  unfold trk
  rw [h]
  split <;> split <;> omega
theorem trk_inj (n m i j : Nat) (hi : i < m) (hj : j < m) (h : trk n m i = trk n m j) : i = j := by
  have h1 := turn_mod n m i hi
  have h2 := turn_mod n m j hj
  have hr : n % m < m := Nat.mod_lt _ (by omega)
  unfold trk at h
  rw [h1, h2] at h
  split at h <;> split at h <;> split at h <;> omega
theorem trk_sur (n m q : Nat) (hq : q < m) : ∃ i, i < m ∧ trk n m i = q := by
  have hr : n % m < m := Nat.mod_lt _ (by omega)
  have key : ∀ q, q < m → ∃ i, i < m ∧ (i + n) % m = q := fun q hq => by
    by_cases h : n % m ≤ q
    · refine ⟨q - n % m, by omega, ?_⟩
      rw [turn_mod n m _ (by omega)]
      rw [if_pos (by omega)]
      omega
    · refine ⟨q + m - n % m, by omega, ?_⟩
      rw [turn_mod n m _ (by omega)]
      rw [if_neg (by omega)]
      omega
  unfold trk
  by_cases ho : n % 2 = 1
  · obtain ⟨i, hi, e⟩ := key (m - 1 - q) (by omega)
    exact ⟨i, hi, by rw [if_pos ho, e]; omega⟩
  · obtain ⟨i, hi, e⟩ := key q hq
    exact ⟨i, hi, by rw [if_neg ho, e]⟩
theorem trp_perm (n m : Nat) : (trp n m).Perm (List.range m) := by
  have hnd : (trp n m).Nodup := by
    unfold trp
    rw [List.nodup_iff_pairwise_ne, List.pairwise_map]
    refine List.nodup_range.imp_of_mem ?_
    intro a b ha hb hab e
    exact hab (trk_inj n m a b (by simpa using ha) (by simpa using hb) e)
  refine (List.perm_ext_iff_of_nodup hnd List.nodup_range).2 fun q => ?_
  unfold trp
  rw [List.mem_range, List.mem_map]
  constructor
  · rintro ⟨i, hi, rfl⟩
    exact trk_lt n m i (by simpa using hi)
  · intro hq
    obtain ⟨i, hi, e⟩ := trk_sur n m q hq
    exact ⟨i, by simpa using hi, e⟩
theorem trp_at {n m i : Nat} (hi : i < m) : (trp n m)[i]? = some (trk n m i) := by
  unfold trp
  rw [List.getElem?_map, List.getElem?_range hi]
  rfl
end
section
open Go.RowKit Go
/-- What turned has in hand. -/
structure Tur (w wx : World) (S : Nat → Prop) (cs : Array Value) (t : Tv) (vy vK vI : Value) (kk : List ByteArray) (ms : List Tv) (L : List (Array Value)) : Prop where
  b : Below w.heap.size w wx
  p : wx.heap[w.heap.size]? = some (.cells cs 29 (0, 0))
  r : wx.heap[w.heap.size + 1]? = some (.cells zv 29 (0, 0))
  x : wx.heap[w.heap.size + 2]? = some (.cells (vcs t vy vK vI) 29 (0, 0))
  k : wx.ownsRow (w.heap.size + 3) 9 1 vK kk.length (sv kk)
  o : wx.ownsRow (w.heap.size + 3) 29 13 vI L.length (vfl L)
  d : ∀ q, vK.ownBlock = some q → vI.ownBlock = some q → False
  n : L.length = ms.length
  h : ∀ c ∈ L, one13 c
  t : ∀ (j : Nat) (u : Tv) (c : Array Value), ms[j]? = some u → L[j]? = some c → Tis wx (fun q => S q ∨ (w.heap.size ≤ q ∧ q ≤ w.heap.size + 2) ∨ vK.ownBlock = some q ∨ vI.ownBlock = some q) u c
theorem Tur.next {w wx wy : World} {S : Nat → Prop} {cs : Array Value} {t : Tv} {vy vK vI : Value} {kk : List ByteArray} {ms : List Tv} {L : List (Array Value)} (h : Tur w wx S cs t vy vK vI kk ms L) (hb : Below wx.heap.size wx wy) : Tur w wy S cs t vy vK vI kk ms L :=
  ⟨h.b.trans (hb.mono h.b.size), (hb.block _ (blk_lt h.p)).trans h.p, (hb.block _ (blk_lt h.r)).trans h.r, (hb.block _ (blk_lt h.x)).trans h.x, (Kp.of_below (S := fun _ => False) hb).owns h.k (fun _ _ e => e), (Kp.of_below (S := fun _ => False) hb).owns h.o (fun _ _ e => e), h.d, h.n, h.h, fun j u c hu hc => (h.t j u c hu hc).kp (Kp.of_below hb)⟩
theorem setK (t : Tv) (vy vK vI v : Value) : (vcs t vy vK vI).setIfInBounds 11 v = vcs t vy v vI := rfl
theorem setI (t : Tv) (vy vK vI v : Value) : (vcs t vy vK vI).setIfInBounds 12 v = vcs t vy vK v := rfl
/-- A key more. -/
theorem Tur.addk {w wx wy : World} {S : Nat → Prop} {cs : Array Value} {t : Tv} {vy vK vI vK2 : Value} {kk kk2 : List ByteArray} {ms : List Tv} {L : List (Array Value)} (h : Tur w wx S cs t vy vK vI kk ms L) (ho : wy.ownsRow (w.heap.size + 3) 9 1 vK2 kk2.length (sv kk2)) (hg : wx.grownBy wy vK.ownBlock) (hq : vK2.ownBlock = vK.ownBlock ∨ vK2.ownBlock = some wx.heap.size) : Tur w (wy.setCell ⟨w.heap.size + 2, 11, none⟩ vK2) S cs t vy vK2 vI kk2 ms L := by
  have hk1 : Kp (fun q => vK.ownBlock = some q) wx wy := (Kp.refl _ _).grown hg (fun k _ e => e)
  have hlt := fun q hq => h.k.lt q hq
  have hli := fun q hq => h.o.lt q hq
  have hxl := blk_lt h.x
  have hx2 : wy.heap[w.heap.size + 2]? = some (.cells (vcs t vy vK vI) 29 (0, 0)) := (hk1.block _ hxl (fun e => by have := hlt _ e; omega)).trans h.x
  have hk2 : Kp (fun q => q = w.heap.size + 2) wy (wy.setCell ⟨w.heap.size + 2, 11, none⟩ vK2) := (Kp.refl _ _).setCell _ _ (fun _ => rfl)
  have hkA : Kp (fun q => vK.ownBlock = some q ∨ q = w.heap.size + 2) wx (wy.setCell ⟨w.heap.size + 2, 11, none⟩ vK2) := (hk1.mono (fun _ _ e => .inl e)).trans hk2 (fun _ _ e => .inr e)
  have hb := h.b.size
  have hl2 := fun q hq => ho.lt q hq
  refine ⟨h.b.trans (hkA.below hb (fun q e => by rcases e with e | e; have := hlt _ e; omega; omega)), ?_, ?_, ?_, ?_, ?_, ?_, h.n, h.h, ?_⟩
  · exact (hkA.block _ (blk_lt h.p) (fun e => by rcases e with e | e; have := hlt _ e; omega; omega)).trans h.p
  · exact (hkA.block _ (blk_lt h.r) (fun e => by rcases e with e | e; have := hlt _ e; omega; omega)).trans h.r
  · rw [blk_set 11 _ hx2, setK]
  · exact hk2.owns ho (fun q hq e => by have := hl2 q hq; omega)
  · refine hkA.owns h.o (fun q hq e => ?_)
    rcases e with e | e
    · exact h.d q e hq
    · have := hli q hq
      omega
  · intro q h1 h2
    rcases hq with e | e
    · exact h.d q (e.symm.trans h1) h2
    · rw [e] at h1
      injection h1 with h1
      have := hli q h2
      omega
  · intro j u c hu hc
    refine ((h.t j u c hu hc).widen.kp (hkA.mono (fun q _ e => ?_))).mono (fun q e => ?_)
    · rcases e with e | e
      · exact .inl (.inr (.inr (.inl e)))
      · exact .inl (.inr (.inl ⟨by omega, by omega⟩))
    · rcases e with e | e | e | e
      · exact .inl (.inl e)
      · exact .inl (.inr (.inl e))
      · rcases hq with e2 | e2
        · exact .inl (.inr (.inr (.inl (e2.symm.trans e))))
        · rw [e2] at e
          injection e with e
          exact .inr (by omega)
      · exact .inl (.inr (.inr (.inr e)))
/-- An item more. -/
theorem Tur.addi {w wx wy : World} {S : Nat → Prop} {cs : Array Value} {t : Tv} {vy vK vI vI2 : Value} {kk : List ByteArray} {ms : List Tv} {L : List (Array Value)} {u : Tv} {c : Array Value} (h : Tur w wx S cs t vy vK vI kk ms L) (hc1 : one13 c) (hu : Tis wx (fun q => S q ∨ (w.heap.size ≤ q ∧ q ≤ w.heap.size + 2) ∨ vK.ownBlock = some q ∨ vI.ownBlock = some q) u c) (ho : wy.ownsRow (w.heap.size + 3) 29 13 vI2 (L.length + 1) (vfl L ++ c.toList)) (hg : wx.grownBy wy vI.ownBlock) (hq : vI2.ownBlock = vI.ownBlock ∨ vI2.ownBlock = some wx.heap.size) : Tur w (wy.setCell ⟨w.heap.size + 2, 12, none⟩ vI2) S cs t vy vK vI2 kk (ms ++ [u]) (L ++ [c]) := by
  have hk1 : Kp (fun q => vI.ownBlock = some q) wx wy := (Kp.refl _ _).grown hg (fun k _ e => e)
  have hlt := fun q hq => h.k.lt q hq
  have hli := fun q hq => h.o.lt q hq
  have hxl := blk_lt h.x
  have hx2 : wy.heap[w.heap.size + 2]? = some (.cells (vcs t vy vK vI) 29 (0, 0)) := (hk1.block _ hxl (fun e => by have := hli _ e; omega)).trans h.x
  have hk2 : Kp (fun q => q = w.heap.size + 2) wy (wy.setCell ⟨w.heap.size + 2, 12, none⟩ vI2) := (Kp.refl _ _).setCell _ _ (fun _ => rfl)
  have hkA : Kp (fun q => vI.ownBlock = some q ∨ q = w.heap.size + 2) wx (wy.setCell ⟨w.heap.size + 2, 12, none⟩ vI2) := (hk1.mono (fun _ _ e => .inl e)).trans hk2 (fun _ _ e => .inr e)
  have hb := h.b.size
  have hl2 := fun q hq => ho.lt q hq
  have hT : ∀ (x : Tv) (d : Array Value), Tis wx (fun q => S q ∨ (w.heap.size ≤ q ∧ q ≤ w.heap.size + 2) ∨ vK.ownBlock = some q ∨ vI.ownBlock = some q) x d → Tis (wy.setCell ⟨w.heap.size + 2, 12, none⟩ vI2) (fun q => S q ∨ (w.heap.size ≤ q ∧ q ≤ w.heap.size + 2) ∨ vK.ownBlock = some q ∨ vI2.ownBlock = some q) x d := fun x d hx => by
    refine (hx.widen.kp (hkA.mono (fun q _ e => ?_))).mono (fun q e => ?_)
    · rcases e with e | e
      · exact .inl (.inr (.inr (.inr e)))
      · exact .inl (.inr (.inl ⟨by omega, by omega⟩))
    · rcases e with e | e | e | e
      · exact .inl (.inl e)
      · exact .inl (.inr (.inl e))
      · exact .inl (.inr (.inr (.inl e)))
      · rcases hq with e2 | e2
        · exact .inl (.inr (.inr (.inr (e2.symm.trans e))))
        · rw [e2] at e
          injection e with e
          exact .inr (by omega)
  refine ⟨h.b.trans (hkA.below hb (fun q e => by rcases e with e | e; have := hli _ e; omega; omega)), ?_, ?_, ?_, ?_, ?_, ?_, by simp [h.n], ?_, ?_⟩
  · exact (hkA.block _ (blk_lt h.p) (fun e => by rcases e with e | e; have := hli _ e; omega; omega)).trans h.p
  · exact (hkA.block _ (blk_lt h.r) (fun e => by rcases e with e | e; have := hli _ e; omega; omega)).trans h.r
  · rw [blk_set 12 _ hx2, setI]
  · refine hkA.owns h.k (fun q hq e => ?_)
    rcases e with e | e
    · exact h.d q hq e
    · have := hlt q hq
      omega
  · have h2 := hk2.owns ho (fun q hq e => by have := hl2 q hq; omega)
    rw [List.length_append, vfl_app]
    have e : vfl [c] = c.toList := by simp [vfl]
    rw [e]
    exact h2
  · intro q h1 h2
    rcases hq with e | e
    · exact h.d q h1 (e.symm.trans h2)
    · rw [e] at h2
      injection h2 with h2
      have := hlt q h1
      omega
  · intro d hd
    rcases List.mem_append.1 hd with hd | hd
    · exact h.h d hd
    · rw [List.mem_singleton.1 hd]
      exact hc1
  · intro j x d hx hd
    have hn := h.n
    rcases Nat.lt_or_ge j ms.length with h1 | h1
    · rw [List.getElem?_append_left h1] at hx
      rw [List.getElem?_append_left (by omega)] at hd
      exact hT x d (h.t j x d hx hd)
    · rw [List.getElem?_append_right h1] at hx
      rw [List.getElem?_append_right (by omega)] at hd
      have e1 := (List.getElem?_eq_some_iff.1 hx).1
      simp at e1
      have e2 : j - ms.length = 0 := by omega
      have e3 : j - L.length = 0 := by omega
      rw [e2] at hx
      rw [e3] at hd
      simp at hx hd
      rw [← hx, ← hd]
      exact hT u c hu
theorem Tur.tis {w wx wz : World} {S : Nat → Prop} {cs : Array Value} {t : Tv} {vy vK vI : Value} {kk : List ByteArray} {ms : List Tv} {L : List (Array Value)} (h : Tur w wx S cs t vy vK vI kk ms L) (hb : Tbd t) (hy : BSl w vy t.y) (hys : t.y ≠ [] → ∀ q, vy.ownBlock = some q → ¬ S q) (hS : ∀ q, S q → q < w.heap.size) (hkp : Kp (fun q => q = w.heap.size + 1) wx wz) (hkz : ∀ s ∈ kk, s.size ≤ 140737488351232) (hkl : kk.length ≤ 140737488351232) (hml : ms.length ≤ 140737488351232) : Tis wz S (Tv.mk t.k t.f t.g t.n t.b t.s t.y t.l kk ms) (vcs t vy vK vI) := by
  have hz := h.b.size
  have hbz : Below w.heap.size w wz := h.b.trans (hkp.below hz (fun q e => by omega))
  have hkz2 := hkp.owns h.k (fun q hq e => by have := h.k.lt q hq; omega)
  have hoz := hkp.owns h.o (fun q hq e => by have := h.o.lt q hq; omega)
  have hn := h.n
  have hbig : ∀ c ∈ L, c.size = 13 := fun c hc => (h.h c hc).1
  obtain ⟨a, cap, hvI, hcap, hform⟩ : ∃ a cap, vI = .slice a ms.length cap ∧ (ms.length ≤ cap ∧ (a = none → cap = 0)) ∧ (ms = [] ∨ ∃ b off, a = some ⟨b, off, none⟩ ∧ ¬ S b ∧ ∀ i, i < ms.length → ∀ j u, (L.getD i #[])[j]? = some u → wz.cell? ⟨b, off + i * 13 + j, none⟩ = some u) := by
    rcases id hoz.2 with ⟨e, h0⟩ | ⟨g, cap, cur, e, _, _, h1, _⟩
    · have e2 : ms = [] := List.length_eq_zero_iff.1 (by omega)
      subst e2
      exact ⟨none, 0, e, ⟨by simp, fun _ => rfl⟩, .inl rfl⟩
    · refine ⟨_, cap, by rw [e, hn], ⟨by omega, fun h => by cases h⟩, .inr ⟨g, 0, rfl, fun hs => ?_, fun i hi j u hu => ?_⟩⟩
      · have h1 := hS g hs
        have h2 := hoz.lt g (by rw [e]; rfl)
        omega
      · rw [Nat.zero_add]
        have hc : L[i]? = some (L[i]'(by omega)) := List.getElem?_eq_getElem (by omega)
        have hoz2 := hoz
        rw [e] at hoz2
        refine own_val hoz2 hbig hc j u ?_
        rw [List.getD_eq_getElem?_getD, hc] at hu
        exact hu
  refine Tis.mk (Tv.mk t.k t.f t.g t.n t.b t.s t.y t.l kk ms) vy vK vI ⟨hb.n, hb.b, hb.s, hb.y, hb.l, hb.d⟩ (hy.move (keep_below hbz)) hys (SSl.own hkz2 rfl hkl hkz) (fun _ q hq hs => by have := hS q hs; have := h.k.lt q hq; omega) (fun i => L.getD i #[]) a cap hvI hcap hml (fun i u hu => ?_) hform
  have hil := (List.getElem?_eq_some_iff.1 hu).1
  have hil2 : i < ms.length := hil
  have hc : L[i]? = some (L[i]'(by omega)) := List.getElem?_eq_getElem (by omega)
  have h1 := (h.t i u _ hu hc).kp (hkp.mono (fun q _ e => .inr (.inl ⟨by omega, by omega⟩)))
  have h2 := h1.mono (fun q (e : S q) => .inl e)
  rw [List.getD_eq_getElem?_getD, hc]
  exact h2
end
section
open Go.RowKit Go
/-- Where a key stands first, or -1. -/
def Fnd (ks : List ByteArray) (key : ByteArray) (r : Int) : Prop := (r = -1 ∧ key ∉ ks) ∨ ∃ i : Nat, r = i ∧ ks[i]? = some key ∧ ∀ j s, j < i → ks[j]? = some s → s ≠ key
/-- What Find answers. -/
def Fdd (t : Tv) (key : ByteArray) (lo : Nat) (e : Ending) (w' : World) : Prop :=
  ∃ r : Int, Fnd t.ks key r ∧ ((∃ (i : Nat) (u : Tv) (c : Array Value), r = i ∧ t.k = 9 ∧ t.is[i]? = some u ∧ e = .returned (.tuple #[.agg c, .bool true]) ∧ Ntv w' lo w'.heap.size u c) ∨ ((t.k ≠ 9 ∨ r < 0 ∨ (t.is.length : Int) ≤ r) ∧ e = .returned (.tuple #[.agg zv, .bool false])))
end
section
open Go.RowKit Go
/-- A variable that holds a lent value. -/
structure Vr (wx : World) (g : Nat) (c : Array Value) (u : Tv) : Prop where
  x : wx.heap[g]? = some (.cells c 29 (0, 0))
  l : ∃ lo hi, Ltv wx lo hi u c
theorem Vr.next {wx wy : World} {g : Nat} {c : Array Value} {u : Tv} (h : Vr wx g c u) (hb : Below wx.heap.size wx wy) : Vr wy g c u :=
  ⟨(hb.block _ (blk_lt h.x)).trans h.x, by obtain ⟨lo, hi, hl⟩ := h.l; exact ⟨lo, hi, hl.kept hb⟩⟩
theorem Vr.start {w : World} {lo hi : Nat} {c : Array Value} {u : Tv} (h : Ltv w lo hi u c) : Vr ((w.alloc (.cells zv 29)).setRow w.heap.size c) w.heap.size c u :=
  ⟨(itm_mk w c).r, lo, hi, h.kept (itm_mk w c).b⟩
theorem Vr.size {wx : World} {g : Nat} {c : Array Value} {u : Tv} (h : Vr wx g c u) : c.size = 13 := by obtain ⟨lo, hi, hl⟩ := h.l; exact hl.size
theorem Vr.tin {wx : World} {g : Nat} {c : Array Value} {u : Tv} (h : Vr wx g c u) : Tin wx u c := by obtain ⟨lo, hi, hl⟩ := h.l; exact hl.tin
theorem Vr.cells {wx : World} {g : Nat} {c : Array Value} {u : Tv} (h : Vr wx g c u) : ∀ j x, c[j]? = some x → wx.cell? ⟨g, 0 + j, none⟩ = some x := fun j x hx => by rw [Nat.zero_add]; exact blk_cell h.x hx
theorem exec_valAt {o : Oper} {a : Act} {p : Operand} {g off : Nat} {cs : Array Value} {w : World} (ho : o.op = .load 29 p) (hp : a.eval p = .pointer (some ⟨g, off, none⟩)) (hn : cs.size = 13) (hc : ∀ j u, cs[j]? = some u → w.cell? ⟨g, off + j, none⟩ = some u) : (execOp a.eval o).run Tryd.prog w = .ok (.value (.agg cs)) w := by
  unfold execOp
  have hr := load_val (w := w) g off cs hn hc
  simp only [ho, Sem.run_bind, hp, hr, Result.andThen_ok]
  rfl
theorem wp_storeRow {o : Oper} {a : Act} {K : Act → World → Prop} {Q : Exit → Act → World → Prop} {w : World} {T : TypeId} {p x : Operand} (ho : o.op = .store T p x) (g : Nat) (old cs : Array Value) (t : TypeId)
    (hp : a.eval p = .pointer (some ⟨g, 0, none⟩)) (hx : a.eval x = .agg cs) (hg : w.heap[g]? = some (.cells old t (0, 0))) (hi : (Tryd.prog.info? T).map (·.size) = some cs.size) (hn : old.size = cs.size) (h1 : cs.all (·.oneCell') = true)
    (h : K (a.put o.dst undef) (w.setRow g cs)) : Oper.wp Tryd.prog o a w K Q := by
  unfold Oper.wp execOp
  have hr : (Instr.storeAt T (.pointer (some ⟨g, 0, none⟩)) (.agg cs)).run Tryd.prog w = .ok () (w.setRow g cs) := by
    simp only [Instr.storeAt, Instr.sureAddr, Sem.run_bind, Sem.run_pure, Result.andThen]
    exact run_storeVar_row (P := Tryd.prog) w g t T old cs hg hi hn h1
  simp only [ho, Sem.run_bind, hp, hx, hr, Result.andThen_ok]
  exact h
theorem step_storeRow {ops : Array Oper} {o : Oper} {a : Act} {K : Act → World → Prop} {Q : Exit → Act → World → Prop} {w : World} {T : TypeId} {p x : Operand} (hw : Region.wanted o (yielded ops a.tmps) = true) (ho : o.op = .store T p x) (g : Nat) (old cs : Array Value) (t : TypeId)
    (hp : a.eval p = .pointer (some ⟨g, 0, none⟩)) (hx : a.eval x = .agg cs) (hg : w.heap[g]? = some (.cells old t (0, 0))) (hi : (Tryd.prog.info? T).map (·.size) = some cs.size) (hn : old.size = cs.size) (h1 : cs.all (·.oneCell') = true)
    (h : K (a.put o.dst undef) (w.setRow g cs)) : if Region.wanted o (yielded ops a.tmps) = true then Oper.wp Tryd.prog o a w K Q else K (a.put o.dst undef) w := by
  rw [if_pos hw]
  exact wp_storeRow ho g old cs t hp hx hg hi hn h1 h
theorem tdepthL_much : ∀ (l : List Tv), (∀ u ∈ l, tdepth u ≤ tmuch u) → tdepthL l ≤ tmuchL l
  | [], _ => by simp [tdepthL]
  | t :: r, h => by
    have h1 := h t (List.mem_cons_self ..)
    have h2 := tdepthL_much r (fun u hu => h u (List.mem_cons_of_mem _ hu))
    rw [tdepthL, tmuchL]
    omega
theorem tdepth_much (t : Tv) : tdepth t ≤ tmuch t := by
  have h : ∀ N, ∀ t : Tv, SizeOf.sizeOf t = N → tdepth t ≤ tmuch t := by
    intro N
    induction N using Nat.strongRecOn with
    | _ N ih =>
      intro t hN
      have h1 := tdepthL_much t.is (fun u hu => ih _ (by rw [← hN]; exact Tv.is_lt hu) u rfl)
      have h2 := tmuch_eq t
      rw [tdepth_eq]
      split <;> omega
  exact h _ t rfl
end
section
open Go.RowKit Go
theorem wp_append_at {o : Oper} {a : Act} {K : Act → World → Prop} {Q : Exit → Act → World → Prop} {w : World} (s x : Operand) (t : TypeId) (ho : o.op = .call { callee := .builtin .append, args := #[s, x], argTypes := #[t, t] })
    (base : Nat) (e : TypeId) (i : TypeInfo) (z : Value) (size bytes : Nat) (ht : Tryd.prog.underlying t = some (.slice e)) (hi : Tryd.prog.info? e = some i) (hz : i.zero = some z) (hsize : i.size = size) (hby : i.bytes = bytes) (hzs : z.cells.size = size) (hsz : 0 < size)
    (v : Value) (n : Nat) (xs : List Value) (hs : a.eval s = v) (hown : w.ownsRow base e size v n xs) (ad : Addr) (m c : Nat) (news : List Value) (hx : a.eval x = .slice (some ad) m c) (hl : news.length = m * size) (hnews : ∀ j u, news[j]? = some u → w.cell? (ad.add j) = some u) (h1 : ∀ u ∈ news, u.oneCell' = true)
    (h63 : n + m ≤ maxLen) (hbytes : (n + m) * bytes ≤ 140737488355328) (hbase : base ≤ w.heap.size)
    (h : ∀ v' w', w'.ownsRow base e size v' (n + m) (xs ++ news) → w.grownBy w' v.ownBlock → (v'.ownBlock = v.ownBlock ∨ v'.ownBlock = some w.heap.size) → K (a.put o.dst v') w') : Oper.wp Tryd.prog o a w K Q := by
  obtain ⟨v', w', hr, h2, h3, _, h5⟩ := run_append_own_at (P := Tryd.prog) w base t o.type e i z size bytes ht hi hz hsize hby hzs hsz v n xs hown ad m c news hl hnews h1 h63 hbytes hbase
  unfold Oper.wp execOp
  simp only [ho, resolve, invoke, builtin, Sem.run_bind, Sem.run_pure, Result.andThen_ok, List.map_toArray, List.map_cons, List.map_nil, hs, hx, hr]
  exact h v' w' h2 h3 h5
theorem add0 (g j : Nat) : (⟨g, 0, none⟩ : Addr).add j = ⟨g, j, none⟩ := by unfold Addr.add; split <;> simp_all
theorem step_append_val {ops : Array Oper} {o : Oper} {a : Act} {K : Act → World → Prop} {Q : Exit → Act → World → Prop} {w : World} (hw : Region.wanted o (yielded ops a.tmps) = true) (s x : Operand)
    (ho : o.op = .call { callee := .builtin .append, args := #[s, x], argTypes := #[27, 27] }) (B : Nat) (v : Value) (n : Nat) (ds : List Value) (hs : a.eval s = v) (hown : w.ownsRow B 29 13 v n ds)
    (g : Nat) (c : Array Value) (h13 : one13 c) (hx : a.eval x = .slice (some ⟨g, 0, none⟩) 1 1) (hg : w.heap[g]? = some (.cells c 29 (0, 0))) (hlen : n < 1099511627) (hbase : B ≤ w.heap.size)
    (h : ∀ v' w', w'.ownsRow B 29 13 v' (n + 1) (ds ++ c.toList) → w.grownBy w' v.ownBlock → (v'.ownBlock = v.ownBlock ∨ v'.ownBlock = some w.heap.size) → K (a.put o.dst v') w') : if Region.wanted o (yielded ops a.tmps) = true then Oper.wp Tryd.prog o a w K Q else K (a.put o.dst undef) w := by
  rw [if_pos hw]
  obtain ⟨i, hi, hz0, hz1, hz2⟩ := infoV_ex
  refine wp_append_at s x 27 ho B 29 i _ 13 160 Tryd.underlying27 hi hz0 hz1 hz2 rfl (by decide) v n ds hs hown ⟨g, 0, none⟩ 1 1 c.toList hx (by rw [Array.length_toList, h13.1]) (fun j u hu => ?_) h13.2 (by unfold maxLen; omega) (by omega) hbase h
  rw [add0]
  exact blk_cell hg (by simpa using hu)
theorem step_append_str {ops : Array Oper} {o : Oper} {a : Act} {K : Act → World → Prop} {Q : Exit → Act → World → Prop} {w : World} (hw : Region.wanted o (yielded ops a.tmps) = true) (s x : Operand)
    (ho : o.op = .call { callee := .builtin .append, args := #[s, x], argTypes := #[26, 26] }) (B : Nat) (v : Value) (n : Nat) (ks : List ByteArray) (hs : a.eval s = v) (hown : w.ownsRow B 9 1 v n (sv ks))
    (g : Nat) (str : ByteArray) (hx : a.eval x = .slice (some ⟨g, 0, none⟩) 1 1) (hg : w.heap[g]? = some (.cells #[.string str] 9 (0, 0))) (hlen : n < 1099511627) (hbase : B ≤ w.heap.size)
    (h : ∀ v' w', w'.ownsRow B 9 1 v' (n + 1) (sv (ks ++ [str])) → w.grownBy w' v.ownBlock → (v'.ownBlock = v.ownBlock ∨ v'.ownBlock = some w.heap.size) → K (a.put o.dst v') w') : if Region.wanted o (yielded ops a.tmps) = true then Oper.wp Tryd.prog o a w K Q else K (a.put o.dst undef) w := by
  rw [if_pos hw]
  obtain ⟨i, hi, hz0, hz1, hz2⟩ := info9_ex
  have e : sv (ks ++ [str]) = sv ks ++ [.string str] := by simp [sv]
  refine wp_append_at s x 26 ho B 9 i _ 1 16 Tryd.underlying26 hi hz0 hz1 hz2 rfl (by decide) v n (sv ks) hs hown ⟨g, 0, none⟩ 1 1 [.string str] hx rfl (fun j u hu => ?_) (fun u hu => by rw [List.mem_singleton.1 hu]; rfl) (by unfold maxLen; omega) (by omega) hbase (fun v' w' h1 h2 h3 => h v' w' (by rw [e]; exact h1) h2 h3)
  rw [add0]
  exact blk_cell hg (by simpa using hu)
theorem step_val1 {ops : Array Oper} {o : Oper} {a : Act} {K : Act → World → Prop} {Q : Exit → Act → World → Prop} {w : World} (hw : Region.wanted o (yielded ops a.tmps) = true) {x0 : Operand} (ho : o.op = .buildSlice 27 1 #[(0, x0)]) (c : Array Value) (hc : c.size = 13) (h0 : a.eval x0 = .agg c)
    (h : K (a.put o.dst (.slice (some ⟨w.heap.size, 0, none⟩) 1 1)) (w.alloc (.cells c 29))) : if Region.wanted o (yielded ops a.tmps) = true then Oper.wp Tryd.prog o a w K Q else K (a.put o.dst undef) w := by
  rw [if_pos hw]
  obtain ⟨i, hi, hz, hs, _⟩ := infoV_ex
  refine wp_buildSlice 27 29 1 _ ho c i _ Tryd.underlying27 hi hz (by rw [hs]; decide) (by rw [hs]; decide) ?_ h
  rw [hs]
  have e : ((#[(0, x0)] : Array (Nat × Operand)).map fun (i, x) => (i, a.eval x)).toList = [(0, .agg c)] := by simp [h0]
  rw [e]
  exact fill_one c _ hc (by simp)
/-- What turned does. -/
def TurC (n : Nat) (t : Tv) : Prop := ∀ (w : World) (S : Nat → Prop) (cs : Array Value), Tis w S t cs → (∀ q, S q → q < w.heap.size) → Trk t → tmuch t ≤ 100000 → Calls Tryd.prog 9 #[.agg cs, .int .i64 (n : Nat)] w fun e w' => ∃ c t', e = .returned (.agg c) ∧ Tis w' S t' c ∧ Trn t t' ∧ Below w.heap.size w w'
end
section
open Go.RowKit Go
theorem Tis.parts {w : World} {S : Nat → Prop} {t : Tv} {c : Array Value} (h : Tis w S t c) : ∃ vy vk a cap, c = vcs t vy vk (.slice a t.is.length cap) ∧ Tbd t ∧ BSl w vy t.y ∧ (t.y ≠ [] → ∀ q, vy.ownBlock = some q → ¬ S q) ∧ SSl w vk t.ks ∧ t.is.length ≤ 140737488351232 ∧ (t.is = [] ∨ ∃ b off, a = some ⟨b, off, none⟩ ∧ ∀ i u, t.is[i]? = some u → ∃ d, Tis w S u d ∧ ∀ j x, d[j]? = some x → w.cell? ⟨b, off + i * 13 + j, none⟩ = some x) := by
  cases h with
  | mk _ vy vk vi hb hy hys hk hks cs a cap hv hc hm hi ha =>
    subst hv
    refine ⟨vy, vk, a, cap, rfl, hb, hy, hys, hk, hm, ?_⟩
    rcases ha with ha | ⟨b, off, e, hs, ha⟩
    · exact .inl ha
    · exact .inr ⟨b, off, e, fun i u hu => ⟨cs i, hi i u hu, fun j x hx => ha i (List.getElem?_eq_some_iff.1 hu).1 j x hx⟩⟩
theorem end_tu {wx : World} {R : Nat} {c : Array Value} {tmps : Array Value} (hn : c.size = 13) (hr : wx.heap[R]? = some (.cells c 29 (0, 0))) (hp : tmps.getD 4 undef = .pointer (some ⟨R, 0, none⟩)) : (results Tryd.f9 tmps).run Tryd.prog wx = .ok (.agg c) wx := by
  refine (results_one (p := 4) (ty := 29) rfl _ _ _).trans ?_
  rw [hp]
  have h1 := run_loadVar_row (P := Tryd.prog) wx R 29 29 c (0, 0) _ hr Tryd.underlying29 rfl (by rw [hn]; exact infoV)
  simp [asAddr, h1, Result.andThen]
/-- What a region of turned holds throughout. -/
def S13 (w : World) (cs : Array Value) (wy : World) : Prop := Below w.heap.size w wy ∧ wy.heap[w.heap.size]? = some (.cells cs 29 (0, 0))
set_option maxRecDepth 1000000 in
set_option maxHeartbeats 8000000 in
theorem turned_step (n : Nat) (hn : n ≤ 1000) (t : Tv) (ih : ∀ u ∈ t.is, TurC n u) : TurC n t := by
  intro w S cs ht hS hk hm
  have HIH := hide ih
  have HTI := hide ht.tin
  have HSS := hide hS
  have HTK := hide hk
  have hme := tmuch_eq t
  have HML : Hid (tmuchL t.is ≤ 100000 ∧ t.is.length ≤ 100000 ∧ t.ks.length ≤ 100000) := by
    have := tmuchL_len t.is
    exact ⟨by omega, by omega, by omega⟩
  have HSZ := hide ht.tin.size13
  have HA1 := hide ht.tin.all1
  clear ih hS hk hm hme
  obtain ⟨vy, vk, ai, ci, rfl, hb, hy, hys, hkk, hmi, hfi⟩ := ht.parts
  have HBD := hide hb
  have HBY := hide hy
  have HYS := hide hys
  have HFI := hide hfi
  obtain ⟨⟨ak, ck, rfl, _, hkf⟩, hkm, hkz⟩ := hkk
  have HKF := hide hkf
  have HKZ := hide hkz
  have HC0 : Hid ((vcs t vy (.slice ak t.ks.length ck) (.slice ai t.is.length ci))[0]? = some (.int .i64 t.k)) := rfl
  have HC11 : Hid ((vcs t vy (.slice ak t.ks.length ck) (.slice ai t.is.length ci))[11]? = some (.slice ak t.ks.length ck)) := rfl
  have HC12 : Hid ((vcs t vy (.slice ak t.ks.length ck) (.slice ai t.is.length ci))[12]? = some (.slice ai t.is.length ci)) := rfl
  have HX2 : Hid (((vcs t vy (.slice ak t.ks.length ck) (.slice ai t.is.length ci)).setIfInBounds 12 (.slice none 0 0)).setIfInBounds 11 (.slice none 0 0) = vcs t vy (.slice none 0 0) (.slice none 0 0)) := rfl
  generalize vcs t vy (.slice ak t.ks.length ck) (.slice ai t.is.length ci) = cs at *
  clear ht hb hy hys hfi hkf hkz
  have i0 := itm_mk ((w.alloc (.cells cs 29)).alloc (.cells zv 29)) cs
  have es : ((w.alloc (.cells cs 29)).alloc (.cells zv 29)).heap.size = w.heap.size + 1 + 1 := by simp
  rw [es] at i0
  have HP0 : Hid (((w.alloc (.cells cs 29)).alloc (.cells zv 29)).heap[w.heap.size]? = some (.cells cs 29 (0, 0))) := blk_alloc _ (heap_alloc_new w _)
  have HR0 : Hid (((w.alloc (.cells cs 29)).alloc (.cells zv 29)).heap[w.heap.size + 1]? = some (.cells zv 29 (0, 0))) := by
    have h := heap_alloc_new (w.alloc (.cells cs 29)) (.cells zv 29)
    have e : (w.alloc (.cells cs 29)).heap.size = w.heap.size + 1 := by simp
    rw [e] at h
    exact h
  have HB0 : Hid (Below w.heap.size w ((w.alloc (.cells cs 29)).alloc (.cells zv 29))) := (below_alloc4 w _).trans ((below_alloc4 _ _).mono (by simp))
  have HG0 : Hid ((((w.alloc (.cells cs 29)).alloc (.cells zv 29)).alloc (.cells zv 29)).heap[w.heap.size + 1 + 1]? = some (.cells zv 29 (0, 0))) := by
    have h := heap_alloc_new ((w.alloc (.cells cs 29)).alloc (.cells zv 29)) (.cells zv 29)
    rw [es] at h
    exact h
  have HV0 : Hid (∀ j u, cs[j]? = some u → ((w.alloc (.cells cs 29)).alloc (.cells zv 29)).cell? ⟨w.heap.size, 0 + j, none⟩ = some u) := fun j u hu => by rw [Nat.zero_add]; exact blk_cell HP0.out hu
  have HIN : Hid ((Tryd.prog.info? 29).map (·.size) = some cs.size) := by show _ = _; rw [HSZ.out]; exact infoV
  have HZV : Hid (zv.size = cs.size) := by show _ = _; rw [HSZ.out]; rfl
  have HI0 := hide i0
  have hz0 : ((w.alloc (.cells cs 29)).alloc (.cells zv 29)).heap.size = w.heap.size + 2 := es
  have HX0 : Hid (Below w.heap.size w ((((w.alloc (.cells cs 29)).alloc (.cells zv 29)).alloc (.cells zv 29)).setRow (w.heap.size + 1 + 1) cs) ∧ ((((w.alloc (.cells cs 29)).alloc (.cells zv 29)).alloc (.cells zv 29)).setRow (w.heap.size + 1 + 1) cs).heap[w.heap.size]? = some (.cells cs 29 (0, 0)) ∧ ((((w.alloc (.cells cs 29)).alloc (.cells zv 29)).alloc (.cells zv 29)).setRow (w.heap.size + 1 + 1) cs).heap[w.heap.size + 1]? = some (.cells zv 29 (0, 0)) ∧ ((((w.alloc (.cells cs 29)).alloc (.cells zv 29)).alloc (.cells zv 29)).setRow (w.heap.size + 1 + 1) cs).heap[w.heap.size + 1 + 1]? = some (.cells cs 29 (0, 0))) := by
    have ib := itm_mk ((w.alloc (.cells cs 29)).alloc (.cells zv 29)) cs
    have hbb := ib.b
    have hrr := ib.r
    rw [es] at hbb hrr
    have hs := HB0.out.size
    refine ⟨HB0.out.trans (hbb.mono (by omega)), (hbb.block _ (by omega)).trans HP0.out, (hbb.block _ (by omega)).trans HR0.out, hrr⟩
  clear i0 HI0 hz0
  go_enter Tryd.func9, Tryd.ntmps9
  go_upto_region 2 with (first
    | (refine wpList_valAt rfl rfl w.heap.size 0 cs rfl HSZ.out HV0.out ?_)
    | (refine wpList_storeRow rfl rfl (w.heap.size + 1 + 1) zv cs 29 rfl rfl HG0.out HIN.out HZV.out HA1.out ?_))
  clear HP0 HR0 HB0 HG0 HV0 HIN HZV HA1 es
  have HZE : Hid (zv = #[.int .i64 0, .bool false, .bool false, .int .u64 0, .int .u64 0, .string ⟨#[]⟩, .slice none 0 0, .int .i64 0, .int .u64 0, .int .u64 0, .string ⟨#[]⟩, .slice none 0 0, .slice none 0 0]) := rfl
  unfold zv at HX0
  generalize (((w.alloc (.cells cs 29)).alloc (.cells #[.int .i64 0, .bool false, .bool false, .int .u64 0, .int .u64 0, .string ⟨#[]⟩, .slice none 0 0, .int .i64 0, .int .u64 0, .int .u64 0, .string ⟨#[]⟩, .slice none 0 0, .slice none 0 0] 29)).alloc (.cells #[.int .i64 0, .bool false, .bool false, .int .u64 0, .int .u64 0, .string ⟨#[]⟩, .slice none 0 0, .int .i64 0, .int .u64 0, .int .u64 0, .string ⟨#[]⟩, .slice none 0 0, .slice none 0 0] 29)).setRow (w.heap.size + 1 + 1) cs = w1 at *
  have HX1 : Hid (w1.heap[w.heap.size + 1 + 1]? = some (.cells cs 29 (0, 0))) := HX0.out.2.2.2
  have c12 := blk_cell (j := 12) HX1.out HC12.out
  have f12 := blk_frozen 12 HX1.out
  have HX3 : Hid ((w1.setCell ⟨w.heap.size + 1 + 1, 12, none⟩ (.slice none 0 0)).heap[w.heap.size + 1 + 1]? = some (.cells (cs.setIfInBounds 12 (.slice none 0 0)) 29 (0, 0))) := blk_set 12 _ HX1.out
  have HCZ : Hid ((cs.setIfInBounds 12 (.slice none 0 0))[11]? = some (.slice ak t.ks.length ck)) := by show _ = _; rw [Array.getElem?_setIfInBounds_ne (by decide)]; exact HC11.out
  have c11 := blk_cell (j := 11) HX3.out HCZ.out
  have f11 := blk_frozen 11 HX3.out
  have HT0 : Hid (Tur w ((w1.setCell ⟨w.heap.size + 1 + 1, 12, none⟩ (.slice none 0 0)).setCell ⟨w.heap.size + 1 + 1, 11, none⟩ (.slice none 0 0)) S cs t vy (.slice none 0 0) (.slice none 0 0) [] [] []) := by
    have hk1 : Kp (fun q => q = w.heap.size + 1 + 1) w1 ((w1.setCell ⟨w.heap.size + 1 + 1, 12, none⟩ (.slice none 0 0)).setCell ⟨w.heap.size + 1 + 1, 11, none⟩ (.slice none 0 0)) := by
      have h1 : Kp (fun q => q = w.heap.size + 1 + 1) w1 (w1.setCell ⟨w.heap.size + 1 + 1, 12, none⟩ (.slice none 0 0)) := (Kp.refl _ _).setCell _ _ (fun _ => rfl)
      exact h1.setCell _ _ (fun _ => rfl)
    have hs := HX0.out.1.size
    refine ⟨HX0.out.1.trans (hk1.below hs (fun q e => by omega)), (hk1.block _ (blk_lt HX0.out.2.1) (by omega)).trans HX0.out.2.1, (hk1.block _ (blk_lt HX0.out.2.2.1) (by omega)).trans HX0.out.2.2.1, ?_, World.ownsRow_nil _ _ _ _, World.ownsRow_nil _ _ _ _, fun q h => by simp [Value.ownBlock] at h, rfl, by simp, by simp⟩
    rw [← HX2.out]
    exact blk_set 11 _ HX3.out
  have q12 := blk_cell (j := 12) HT0.out.p HC12.out
  go_wp2_with fail
  generalize (w1.setCell ⟨w.heap.size + 1 + 1, 12, none⟩ (.slice none 0 0)).setCell ⟨w.heap.size + 1 + 1, 11, none⟩ (.slice none 0 0) = w2 at *
  clear c11 c12 f11 f12 HX0 HX1 HX3 HCZ q12
  obtain ⟨pl, hpl⟩ : ∃ pl : Nat → Nat, pl = fun j => if t.k = 9 then trk n t.is.length j else j := ⟨_, rfl⟩
  have HPL := hide hpl
  clear hpl
  go_loopw [7] (fun ii wx => ∃ (i : Nat) (vK vI : Value) (kk : List ByteArray) (ms : List Tv) (L : List (Array Value)), i ≤ t.is.length ∧ ii = .int .i64 (i : Nat) ∧ Hid (Tur w wx S cs t vy vK vI kk ms L) ∧ Hid (ms.length = i ∧ kk = if t.k = 9 then pickS t.ks ((List.range i).map pl) else []) ∧ Hid (∀ (j : Nat) (u v : Tv), j < i → t.is[pl j]? = some u → ms[j]? = some v → Trn u v)) (fun ii _ => t.is.length - (intOf ii).toNat)
  case atStart => exact ⟨0, _, _, [], [], [], by omega, rfl, HT0, ⟨rfl, by simp [pickS]⟩, fun j u v hj => absurd hj (by omega)⟩
  case round =>
    clear HT0
    obtain ⟨i, vK, vI, kk, ms, L, hi, rfl, HT, HN, HI⟩ := hrel
    have q0 := blk_cell (j := 0) HT.out.p HC0.out
    by_cases hlt : i < t.is.length
    · have g1 : (i : Int) < (t.is.length : Int) := by omega
      by_cases h9 : t.k = 9
      · have g9 : (t.k == 9) = true := beq_iff_eq.2 h9
        obtain ⟨q, hq⟩ : ∃ q, q = pl i := ⟨_, rfl⟩
        have hqv : q = trk n t.is.length i := by rw [hq, HPL.out]; simp only [if_pos h9]
        have hql : q < t.is.length := by rw [hqv]; exact trk_lt _ _ _ hlt
        have HQP := hide hq
        have hks := (HTK.out.m h9).1
        obtain ⟨s, hs⟩ : ∃ s, t.ks[q]? = some s := ⟨t.ks[q], List.getElem?_eq_getElem (by omega)⟩
        obtain ⟨b2, o2, rfl, hkc⟩ := HKF.out.resolve_left (fun h => by rw [h] at hks; simp at hks; omega)
        have HCS := hide (hkc q s hs)
        have HKS : Hid (kk ++ [s] = pickS t.ks ((List.range (i + 1)).map pl)) := by
          have h1 := HN.out.2
          rw [if_pos h9] at h1
          show _ = _
          rw [h1, List.range_succ, List.map_append]
          simp [pickS, ← HQP.out, List.getD, hs]
        have hwr : IntKind.i64.wrap ((i : Int) + (n : Int)) = (i : Int) + (n : Int) := by rw [IntKind.wrap_i64]; omega
        have htm : ((i : Int) + (n : Int)).tmod (t.is.length : Int) = (((i + n) % t.is.length : Nat) : Int) := rfl
        have hne : ¬ t.is.length = 0 := by omega
        have htd : (n : Int).tmod 2 = ((n % 2 : Nat) : Int) := rfl
        have gq : (q : Int) < (t.ks.length : Int) := by omega
        have gq2 : (q : Int) < (t.is.length : Int) := by omega
        have hml : (i + n) % t.is.length < t.is.length := Nat.mod_lt _ (by omega)
        have HKL : Hid (kk.length ≤ 100000) := by
          have h1 := HN.out.2
          rw [if_pos h9] at h1
          have := HML.out
          show _ ≤ _
          rw [h1, pickS_len]
          simp
          omega
        clear hkc hs
        obtain ⟨u, hu⟩ : ∃ u, t.is[q]? = some u := ⟨t.is[q], List.getElem?_eq_getElem hql⟩
        obtain ⟨b, off, rfl, hcells⟩ := HFI.out.resolve_left (fun h => by rw [h] at hql; simp at hql)
        obtain ⟨cu, tu, hcu⟩ := hcells q u hu
        have HZU := hide tu.tin.size13
        have HCU := hide hcu
        have HTU := hide tu
        have HUM : Hid (u ∈ t.is) := List.mem_of_getElem? hu
        have HU := hide hu
        have HI2 : Hid (∀ t' : Tv, Trn u t' → ∀ (j : Nat) (x v : Tv), j < i + 1 → t.is[pl j]? = some x → (ms ++ [t'])[j]? = some v → Trn x v) := fun t' htr j x v hj hx hv => by
          have hml := HN.out.1
          by_cases hji : j = i
          · subst hji
            rw [← HQP.out, HU.out] at hx
            injection hx with hx
            rw [List.getElem?_append_right (by omega), hml, Nat.sub_self] at hv
            simp at hv
            rw [← hx, ← hv]
            exact htr
          · rw [List.getElem?_append_left (by omega)] at hv
            exact HI.out j x v (by omega) hx hv
        clear hcells tu hcu hu
        by_cases ho : n % 2 = 1
        · as_aux_lemma =>
          have eq1 : (((n % 2 : Nat) : Int) == 1) = true := by rw [ho]; rfl
          have hqq : q = t.is.length - 1 - (i + n) % t.is.length := by rw [hqv]; unfold trk; rw [if_pos ho]
          generalize n % 2 = par at *
          generalize (i + n) % t.is.length = k0 at *
          have w1' : IntKind.i64.wrap ((t.is.length : Int) - 1) = (t.is.length : Int) - 1 := by rw [IntKind.wrap_i64]; omega
          have w2' : IntKind.i64.wrap ((t.is.length : Int) - 1 - (k0 : Int)) = (q : Int) := by rw [IntKind.wrap_i64]; omega
          have w3' : ((t.is.length : Int) - 1 - (k0 : Int)) = (q : Int) := by omega
          clear hqq hqv hq ho
          go_wp2_with fail
          go_cut [] from 36 to 45 (fun wx => ∃ v5, Hid (Tur w wx S cs t vy v5 vI (kk ++ [s]) ms L))
          case first => as_aux_lemma =>
            refine heldStart (S := S13 w cs) (by kernel_rfl) ?_
            have HTD : Hid (Tur w wr.drew S cs t vy vK vI kk ms L) := HT.out.next (by refine Below.drew ?_; exact Below.refl _ _)
            have hS : S13 w cs wr.drew := ⟨HTD.out.b, HTD.out.p⟩
            refine heldTake 0 _ rfl (by kernel_rfl) (by kernel_rfl) (by kernel_rfl) (fun _ _ _ h => h) rfl hS (fun wy hy => by first | (go_simp; done) | (go_simp; rfl) | rfl) ?_
            (try simp only [Act.put]); (try simp only [List.setIfInBounds_toArray, List.set_cons_zero, List.set_cons_succ])
            refine heldTake 2 _ rfl (by kernel_rfl) (by kernel_rfl) (by kernel_rfl) (fun _ _ _ h => h) rfl hS (fun wy hy => by first | (go_simp; done) | (go_simp; rfl) | rfl) ?_
            (try simp only [Act.put]); (try simp only [List.setIfInBounds_toArray, List.set_cons_zero, List.set_cons_succ])
            refine heldTake 4 _ rfl (by kernel_rfl) (by kernel_rfl) (by kernel_rfl) (fun _ _ _ h => h) rfl hS (fun wy hy => by first | (go_simp; done) | (go_simp; rfl) | rfl) ?_
            (try simp only [Act.put]); (try simp only [List.setIfInBounds_toArray, List.set_cons_zero, List.set_cons_succ])
            refine heldTake 3 _ rfl (by kernel_rfl) (by kernel_rfl) (by kernel_rfl) (fun _ _ _ h => h) rfl hS (fun wy hy => by have h0 := blk_cell (j := 11) hy.2 HC11.out; first | (go_simp; done) | (go_simp; rfl) | rfl) ?_
            (try simp only [Act.put]); (try simp only [List.setIfInBounds_toArray, List.set_cons_zero, List.set_cons_succ])
            refine heldTake 5 _ rfl (by kernel_rfl) (by kernel_rfl) (by kernel_rfl) (fun _ _ _ h => h) rfl hS (fun wy hy => by first | (go_simp; done) | (go_simp; rfl) | rfl) ?_
            (try simp only [Act.put]); (try simp only [List.setIfInBounds_toArray, List.set_cons_zero, List.set_cons_succ])
            refine heldTake 6 _ rfl (by kernel_rfl) (by kernel_rfl) (by kernel_rfl) (fun _ _ _ h => h) rfl hS (fun wy hy => by have h0 := keep_below hy.1 _ _ HCS.out; first | (go_simp; done) | (go_simp; rfl) | rfl) ?_
            (try simp only [Act.put]); (try simp only [List.setIfInBounds_toArray, List.set_cons_zero, List.set_cons_succ])
            refine wpAnyH_ready (rs := [1, 7]) (by kernel_rfl) (by simp) ?_
            refine AllReadyH.cons rfl (fun K hK => ?_) (AllReadyH.cons rfl (fun K hK => ?_) AllReadyH.nil)
            · as_aux_lemma =>
              have x11 : wr.cell? ⟨w.heap.size + 1 + 1, 11, none⟩ = some vK := blk_cell (j := 11) HTD.out.x rfl
              go_simp
              refine (Shut.out hK) _ _ hS (fun hS2 => ?_)
              clear hK K hS2
              (try simp only [Act.put]); (try simp only [List.setIfInBounds_toArray, List.set_cons_zero, List.set_cons_succ])
              refine heldStep 7 rfl (by kernel_rfl) (fun K hK => ?_)
              go_simp
              have HGB : Hid ((wr.alloc (.cells #[.string s] 9)).drew.heap[wr.heap.size]? = some (.cells #[.string s] 9 (0, 0))) := heap_alloc_new wr (.cells #[.string s] 9)
              have HTZ : Hid (Tur w (wr.alloc (.cells #[.string s] 9)).drew S cs t vy vK vI kk ms L) := (HT.out.next (below_alloc4 wr (.cells #[.string s] 9))).next (by refine Below.drew ?_; exact Below.refl _ _)
              refine (Hid.out hK) _ _ ⟨HTZ.out.b, HTZ.out.p⟩ (fun hS2 => ?_)
              clear hK K x11 HTD hS2
              (try simp only [Act.put]); (try simp only [List.setIfInBounds_toArray, List.set_cons_zero, List.set_cons_succ])
              refine heldStep 8 rfl (by kernel_rfl) (fun K hK => ?_)
              refine step_append_str rfl _ _ rfl (w.heap.size + 3) vK kk.length kk rfl HTZ.out.k _ s rfl HGB.out (by have := HKL.out; omega) (by have := blk_lt HTZ.out.x; omega) (fun v5 w5 ho5 hg5 hq5 => ?_)
              obtain ⟨a5, c5, hv5⟩ := own_slice ho5
              subst hv5
              have HT5 : Hid (Tur w (w5.setCell ⟨w.heap.size + 1 + 1, 11, none⟩ (.slice a5 (kk.length + 1) c5)) S cs t vy (.slice a5 (kk.length + 1) c5) vI (kk ++ [s]) ms L) := HTZ.out.addk (by rw [List.length_append]; exact ho5) hg5 hq5
              have hne5 : ¬ vK.ownBlock = some (w.heap.size + 2) := fun e => by have := HTZ.out.k.lt _ e; omega
              have hx5 : w5.heap[w.heap.size + 2]? = some (.cells (vcs t vy vK vI) 29 (0, 0)) := (((Kp.refl (fun q => vK.ownBlock = some q) _).grown hg5 (fun k _ e => e)).block _ (blk_lt HTZ.out.x) hne5).trans HTZ.out.x
              have c11 : w5.cell? ⟨w.heap.size + 1 + 1, 11, none⟩ = some vK := blk_cell (j := 11) hx5 rfl
              have f11 : w5.frozen? ⟨w.heap.size + 1 + 1, 11, none⟩ = false := blk_frozen 11 hx5
              have hS5 : S13 w cs w5 := by
                have hk5 : Kp (fun q => vK.ownBlock = some q) _ w5 := (Kp.refl _ _).grown hg5 (fun k _ e => e)
                exact ⟨HTZ.out.b.trans (hk5.below HTZ.out.b.size (fun q e => by have := HTZ.out.k.lt q e; omega)), (hk5.block _ (blk_lt HTZ.out.p) (fun e => by have := HTZ.out.k.lt _ e; omega)).trans HTZ.out.p⟩
              refine (Hid.out hK) _ _ hS5 (fun hS6 => ?_)
              clear hK K hg5 hq5 ho5 hx5 hS5 hne5
              (try simp only [Act.put]); (try simp only [List.setIfInBounds_toArray, List.set_cons_zero, List.set_cons_succ])
              refine heldTake 9 _ rfl (by kernel_rfl) (by kernel_rfl) (by kernel_rfl) (fun _ _ _ h => h) rfl hS6 (fun wy hy => by first | (go_simp; done) | (go_simp; rfl) | rfl) ?_
              (try simp only [Act.put]); (try simp only [List.setIfInBounds_toArray, List.set_cons_zero, List.set_cons_succ])
              refine heldStep 10 rfl (by kernel_rfl) (fun K hK => ?_)
              go_simp
              refine (Hid.out hK) _ _ ⟨HT5.out.b, HT5.out.p⟩ (fun hS7 => ?_)
              clear hK K
              (try simp only [Act.put]); (try simp only [List.setIfInBounds_toArray, List.set_cons_zero, List.set_cons_succ])
              refine heldDone (by kernel_rfl) ?_
              clear hS hS6 hS7 c11 f11
              go_wp2_with fail
              go_meet
              case rel => exact ⟨_, HT5⟩
            · as_aux_lemma =>
              go_simp
              have HGB : Hid ((wr.alloc (.cells #[.string s] 9)).drew.heap[wr.heap.size]? = some (.cells #[.string s] 9 (0, 0))) := heap_alloc_new wr (.cells #[.string s] 9)
              have HTZ : Hid (Tur w (wr.alloc (.cells #[.string s] 9)).drew S cs t vy vK vI kk ms L) := (HT.out.next (below_alloc4 wr (.cells #[.string s] 9))).next (by refine Below.drew ?_; exact Below.refl _ _)
              have x11 : (wr.alloc (.cells #[.string s] 9)).cell? ⟨w.heap.size + 1 + 1, 11, none⟩ = some vK := blk_cell (j := 11) HTZ.out.x rfl
              refine (Shut.out hK) _ _ ⟨HTZ.out.b, HTZ.out.p⟩ (fun hS2 => ?_)
              clear hK K hS HTD
              have hS := hS2
              clear hS2
              (try simp only [Act.put]); (try simp only [List.setIfInBounds_toArray, List.set_cons_zero, List.set_cons_succ])
              refine heldStep 1 rfl (by kernel_rfl) (fun K hK => ?_)
              go_simp
              refine (Hid.out hK) _ _ hS (fun hS2 => ?_)
              clear hK K x11 hS2
              (try simp only [Act.put]); (try simp only [List.setIfInBounds_toArray, List.set_cons_zero, List.set_cons_succ])
              refine heldStep 8 rfl (by kernel_rfl) (fun K hK => ?_)
              refine step_append_str rfl _ _ rfl (w.heap.size + 3) vK kk.length kk rfl HTZ.out.k _ s rfl HGB.out (by have := HKL.out; omega) (by have := blk_lt HTZ.out.x; omega) (fun v5 w5 ho5 hg5 hq5 => ?_)
              obtain ⟨a5, c5, hv5⟩ := own_slice ho5
              subst hv5
              have HT5 : Hid (Tur w (w5.setCell ⟨w.heap.size + 1 + 1, 11, none⟩ (.slice a5 (kk.length + 1) c5)) S cs t vy (.slice a5 (kk.length + 1) c5) vI (kk ++ [s]) ms L) := HTZ.out.addk (by rw [List.length_append]; exact ho5) hg5 hq5
              have hne5 : ¬ vK.ownBlock = some (w.heap.size + 2) := fun e => by have := HTZ.out.k.lt _ e; omega
              have hx5 : w5.heap[w.heap.size + 2]? = some (.cells (vcs t vy vK vI) 29 (0, 0)) := (((Kp.refl (fun q => vK.ownBlock = some q) _).grown hg5 (fun k _ e => e)).block _ (blk_lt HTZ.out.x) hne5).trans HTZ.out.x
              have c11 : w5.cell? ⟨w.heap.size + 1 + 1, 11, none⟩ = some vK := blk_cell (j := 11) hx5 rfl
              have f11 : w5.frozen? ⟨w.heap.size + 1 + 1, 11, none⟩ = false := blk_frozen 11 hx5
              have hS5 : S13 w cs w5 := by
                have hk5 : Kp (fun q => vK.ownBlock = some q) _ w5 := (Kp.refl _ _).grown hg5 (fun k _ e => e)
                exact ⟨HTZ.out.b.trans (hk5.below HTZ.out.b.size (fun q e => by have := HTZ.out.k.lt q e; omega)), (hk5.block _ (blk_lt HTZ.out.p) (fun e => by have := HTZ.out.k.lt _ e; omega)).trans HTZ.out.p⟩
              refine (Hid.out hK) _ _ hS5 (fun hS6 => ?_)
              clear hK K hg5 hq5 ho5 hx5 hS5 hne5
              (try simp only [Act.put]); (try simp only [List.setIfInBounds_toArray, List.set_cons_zero, List.set_cons_succ])
              refine heldTake 9 _ rfl (by kernel_rfl) (by kernel_rfl) (by kernel_rfl) (fun _ _ _ h => h) rfl hS6 (fun wy hy => by first | (go_simp; done) | (go_simp; rfl) | rfl) ?_
              (try simp only [Act.put]); (try simp only [List.setIfInBounds_toArray, List.set_cons_zero, List.set_cons_succ])
              refine heldStep 10 rfl (by kernel_rfl) (fun K hK => ?_)
              go_simp
              refine (Hid.out hK) _ _ ⟨HT5.out.b, HT5.out.p⟩ (fun hS7 => ?_)
              clear hK K
              (try simp only [Act.put]); (try simp only [List.setIfInBounds_toArray, List.set_cons_zero, List.set_cons_succ])
              refine heldDone (by kernel_rfl) ?_
              clear hS hS6 hS7 c11 f11
              go_wp2_with fail
              go_meet
              case rel => exact ⟨_, HT5⟩
          case rest =>
            obtain ⟨v5, HTW⟩ := hcut
            obtain ⟨w3, hw3⟩ : ∃ x, x = wc := ⟨_, rfl⟩
            subst hw3
            have HK2 : Hid (kk ++ [s] = if t.k = 9 then pickS t.ks ((List.range (i + 1)).map pl) else []) := by show _ = _; rw [if_pos h9]; exact HKS.out
            clear HT
            have HCL : Hid (∀ wz, Tur w wz S cs t vy v5 vI (kk ++ [s]) ms L → Calls Tryd.prog 9 #[.agg cu, .int .i64 (n : Nat)] wz fun e w' => ∃ c t', e = .returned (.agg c) ∧ Tis w' (fun q => S q ∨ (w.heap.size ≤ q ∧ q ≤ w.heap.size + 2) ∨ v5.ownBlock = some q ∨ vI.ownBlock = some q) t' c ∧ Trn u t' ∧ Below wz.heap.size wz w') := fun wz hz => by
              have h1 := hz.b.size
              refine HIH.out u HUM.out wz _ cu ((HTU.out.widen.kp (Kp.of_below hz.b)).mono (fun q e => ?_)) (fun q e => ?_) (HTK.out.i u HUM.out) (Nat.le_trans (tmuchL_mem HUM.out) HML.out.1)
              · rcases e with e | e | e | e
                · exact .inl e
                · exact .inr (by omega)
                · exact .inr (by have := hz.k.lt q e; omega)
                · exact .inr (by have := hz.o.lt q e; omega)
              · rcases e with e | e | e | e
                · have := HSS.out q e
                  omega
                · have := blk_lt hz.x
                  omega
                · exact (hz.k.lt q e).2
                · exact (hz.o.lt q e).2
            go_wp2_with fail
            refine heldStart (S := S13 w cs) (by kernel_rfl) ?_
            have HTD : Hid (Tur w w3.drew S cs t vy v5 vI (kk ++ [s]) ms L) := HTW.out.next (by refine Below.drew ?_; exact Below.refl _ _)
            have hS : S13 w cs w3.drew := ⟨HTD.out.b, HTD.out.p⟩
            refine heldTake 0 _ rfl (by kernel_rfl) (by kernel_rfl) (by kernel_rfl) (fun _ _ _ h => h) rfl hS (fun wy hy => by first | (go_simp; done) | (go_simp; rfl) | rfl) ?_
            (try simp only [Act.put]); (try simp only [List.setIfInBounds_toArray, List.set_cons_zero, List.set_cons_succ])
            refine heldTake 2 _ rfl (by kernel_rfl) (by kernel_rfl) (by kernel_rfl) (fun _ _ _ h => h) rfl hS (fun wy hy => by first | (go_simp; done) | (go_simp; rfl) | rfl) ?_
            (try simp only [Act.put]); (try simp only [List.setIfInBounds_toArray, List.set_cons_zero, List.set_cons_succ])
            refine heldTake 4 _ rfl (by kernel_rfl) (by kernel_rfl) (by kernel_rfl) (fun _ _ _ h => h) rfl hS (fun wy hy => by first | (go_simp; done) | (go_simp; rfl) | rfl) ?_
            (try simp only [Act.put]); (try simp only [List.setIfInBounds_toArray, List.set_cons_zero, List.set_cons_succ])
            refine heldTake 7 _ rfl (by kernel_rfl) (by kernel_rfl) (by kernel_rfl) (fun _ _ _ h => h) rfl hS (fun wy hy => by first | (go_simp; done) | (go_simp; rfl) | rfl) ?_
            (try simp only [Act.put]); (try simp only [List.setIfInBounds_toArray, List.set_cons_zero, List.set_cons_succ])
            refine heldTake 3 _ rfl (by kernel_rfl) (by kernel_rfl) (by kernel_rfl) (fun _ _ _ h => h) rfl hS (fun wy hy => by have h0 := blk_cell (j := 12) hy.2 HC12.out; first | (go_simp; done) | (go_simp; rfl) | rfl) ?_
            (try simp only [Act.put]); (try simp only [List.setIfInBounds_toArray, List.set_cons_zero, List.set_cons_succ])
            refine heldTake 5 _ rfl (by kernel_rfl) (by kernel_rfl) (by kernel_rfl) (fun _ _ _ h => h) rfl hS (fun wy hy => by first | (go_simp; done) | (go_simp; rfl) | rfl) ?_
            (try simp only [Act.put]); (try simp only [List.setIfInBounds_toArray, List.set_cons_zero, List.set_cons_succ])
            refine heldTake 6 _ rfl (by kernel_rfl) (by kernel_rfl) (by kernel_rfl) (fun _ _ _ h => h) rfl hS (fun wy hy => exec_valAt (g := b) (off := off + q * 13) (cs := cu) rfl rfl HZU.out (fun j x hx => keep_below hy.1 _ _ (HCU.out j x hx))) ?_
            (try simp only [Act.put]); (try simp only [List.setIfInBounds_toArray, List.set_cons_zero, List.set_cons_succ])
            refine wpAnyH_ready (rs := [1, 8]) (by kernel_rfl) (by simp) ?_
            refine AllReadyH.cons rfl (fun K hK => ?_) (AllReadyH.cons rfl (fun K hK => ?_) AllReadyH.nil)
            · as_aux_lemma =>
              have x12 : w3.cell? ⟨w.heap.size + 1 + 1, 12, none⟩ = some vI := blk_cell (j := 12) HTW.out.x rfl
              go_simp
              refine (Shut.out hK) _ _ hS (fun hS2 => ?_)
              clear hK K hS2
              (try simp only [Act.put]); (try simp only [List.setIfInBounds_toArray, List.set_cons_zero, List.set_cons_succ])
              refine heldStep 8 rfl (by kernel_rfl) (fun K hK => ?_)
              go_simp
              refine (HCL.out _ HTD.out).mono ?_
              rintro e w5 ⟨c, t', rfl, hc5, htr, hb5⟩
              have HTR := hide htr
              have HT5 := hide (HTD.out.next hb5)
              have HC13 := hide hc5.tin.size13
              have HON : Hid (one13 c) := ⟨HC13.out, fun x hx => by have h := hc5.tin.all1; rw [Array.all_eq_true_iff_forall_mem] at h; exact h x (by simpa using hx)⟩
              have HTZ := hide (HT5.out.next (below_alloc4 w5 (.cells c 29)))
              have HGB := hide (heap_alloc_new w5 (.cells c 29))
              have HCZ := hide (hc5.kp (Kp.of_below (below_alloc4 w5 (.cells c 29))))
              clear htr hc5 hb5
              refine (Hid.out hK) _ _ ⟨HT5.out.b, HT5.out.p⟩ (fun hS3 => ?_)
              clear hK K x12 hS3 hS
              (try simp only [Act.put]); (try simp only [List.setIfInBounds_toArray, List.set_cons_zero, List.set_cons_succ])
              refine heldStep 9 rfl (by kernel_rfl) (fun K hK => ?_)
              refine step_val1 rfl rfl c HC13.out rfl ?_
              refine (Hid.out hK) _ _ ⟨HTZ.out.b, HTZ.out.p⟩ (fun hS4 => ?_)
              clear hK K hS4
              (try simp only [Act.put]); (try simp only [List.setIfInBounds_toArray, List.set_cons_zero, List.set_cons_succ])
              refine heldStep 10 rfl (by kernel_rfl) (fun K hK => ?_)
              refine step_append_val rfl _ _ rfl (w.heap.size + 3) vI L.length (vfl L) rfl HTZ.out.o _ c HON.out rfl HGB.out (by have h1 := HTZ.out.n; have h2 := HN.out.1; have h3 := HML.out; omega) (by have := blk_lt HTZ.out.x; omega) (fun v6 w6 ho6 hg6 hq6 => ?_)
              obtain ⟨a6, c6, hv6⟩ := own_slice ho6
              subst hv6
              have HT6 : Hid (Tur w (w6.setCell ⟨w.heap.size + 1 + 1, 12, none⟩ (.slice a6 (L.length + 1) c6)) S cs t vy v5 (.slice a6 (L.length + 1) c6) (kk ++ [s]) (ms ++ [t']) (L ++ [c])) := HTZ.out.addi HON.out HCZ.out ho6 hg6 hq6
              have hne6 : ¬ vI.ownBlock = some (w.heap.size + 2) := fun e => by have := HTZ.out.o.lt _ e; omega
              have hk6 : Kp (fun q => vI.ownBlock = some q) _ w6 := (Kp.refl _ _).grown hg6 (fun k _ e => e)
              have hx6 : w6.heap[w.heap.size + 2]? = some (.cells (vcs t vy v5 vI) 29 (0, 0)) := (hk6.block _ (blk_lt HTZ.out.x) hne6).trans HTZ.out.x
              have c12 : w6.cell? ⟨w.heap.size + 1 + 1, 12, none⟩ = some vI := blk_cell (j := 12) hx6 rfl
              have f12 : w6.frozen? ⟨w.heap.size + 1 + 1, 12, none⟩ = false := blk_frozen 12 hx6
              have hS6 : S13 w cs w6 := ⟨HTZ.out.b.trans (hk6.below HTZ.out.b.size (fun q e => by have := HTZ.out.o.lt q e; omega)), (hk6.block _ (blk_lt HTZ.out.p) (fun e => by have := HTZ.out.o.lt _ e; omega)).trans HTZ.out.p⟩
              refine (Hid.out hK) _ _ hS6 (fun hS7 => ?_)
              clear hK K hg6 hq6 ho6 hx6 hS6 hne6 hk6
              (try simp only [Act.put]); (try simp only [List.setIfInBounds_toArray, List.set_cons_zero, List.set_cons_succ])
              refine heldTake 11 _ rfl (by kernel_rfl) (by kernel_rfl) (by kernel_rfl) (fun _ _ _ h => h) rfl hS7 (fun wy hy => by first | (go_simp; done) | (go_simp; rfl) | rfl) ?_
              (try simp only [Act.put]); (try simp only [List.setIfInBounds_toArray, List.set_cons_zero, List.set_cons_succ])
              refine heldStep 12 rfl (by kernel_rfl) (fun K hK => ?_)
              go_simp
              refine (Hid.out hK) _ _ ⟨HT6.out.b, HT6.out.p⟩ (fun hS8 => ?_)
              clear hK K
              (try simp only [Act.put]); (try simp only [List.setIfInBounds_toArray, List.set_cons_zero, List.set_cons_succ])
              refine heldDone (by kernel_rfl) ?_
              clear hS7 hS8 c12 f12
              go_wp2_with fail
              go_roundw
              case rel => exact ⟨i + 1, _, _, _, _, _, by omega, by go_num, HT6, ⟨by have := HN.out.1; simp; omega, HK2.out⟩, HI2.out t' HTR.out⟩
              case measure => simp [intOf]; omega
            · as_aux_lemma =>
              go_simp
              refine (HCL.out _ HTD.out).mono ?_
              rintro e w5 ⟨c, t', rfl, hc5, htr, hb5⟩
              have HTR := hide htr
              have HT5 := hide (HTD.out.next hb5)
              have HC13 := hide hc5.tin.size13
              have HON : Hid (one13 c) := ⟨HC13.out, fun x hx => by have h := hc5.tin.all1; rw [Array.all_eq_true_iff_forall_mem] at h; exact h x (by simpa using hx)⟩
              have HTZ := hide (HT5.out.next (below_alloc4 w5 (.cells c 29)))
              have HGB := hide (heap_alloc_new w5 (.cells c 29))
              have HCZ := hide (hc5.kp (Kp.of_below (below_alloc4 w5 (.cells c 29))))
              clear htr hc5 hb5
              have x12 : w5.cell? ⟨w.heap.size + 1 + 1, 12, none⟩ = some vI := blk_cell (j := 12) HT5.out.x rfl
              have x13 : (w5.alloc (.cells c 29)).cell? ⟨w.heap.size + 1 + 1, 12, none⟩ = some vI := blk_cell (j := 12) HTZ.out.x rfl
              refine (Shut.out hK) _ _ ⟨HT5.out.b, HT5.out.p⟩ (fun hS3 => ?_)
              clear hK K hS
              (try simp only [Act.put]); (try simp only [List.setIfInBounds_toArray, List.set_cons_zero, List.set_cons_succ])
              refine wpAnyH_ready (rs := [1, 9]) (by kernel_rfl) (by simp) ?_
              refine AllReadyH.cons rfl (fun K hK => ?_) (AllReadyH.cons rfl (fun K hK => ?_) AllReadyH.nil)
              · as_aux_lemma =>
                go_simp
                refine (Shut.out hK) _ _ hS3 (fun hS2 => ?_)
                clear hK K hS2 x12 x13
                (try simp only [Act.put]); (try simp only [List.setIfInBounds_toArray, List.set_cons_zero, List.set_cons_succ])
                refine heldStep 9 rfl (by kernel_rfl) (fun K hK => ?_)
                refine step_val1 rfl rfl c HC13.out rfl ?_
                refine (Hid.out hK) _ _ ⟨HTZ.out.b, HTZ.out.p⟩ (fun hS4 => ?_)
                clear hK K hS4
                (try simp only [Act.put]); (try simp only [List.setIfInBounds_toArray, List.set_cons_zero, List.set_cons_succ])
                refine heldStep 10 rfl (by kernel_rfl) (fun K hK => ?_)
                refine step_append_val rfl _ _ rfl (w.heap.size + 3) vI L.length (vfl L) rfl HTZ.out.o _ c HON.out rfl HGB.out (by have h1 := HTZ.out.n; have h2 := HN.out.1; have h3 := HML.out; omega) (by have := blk_lt HTZ.out.x; omega) (fun v6 w6 ho6 hg6 hq6 => ?_)
                obtain ⟨a6, c6, hv6⟩ := own_slice ho6
                subst hv6
                have HT6 : Hid (Tur w (w6.setCell ⟨w.heap.size + 1 + 1, 12, none⟩ (.slice a6 (L.length + 1) c6)) S cs t vy v5 (.slice a6 (L.length + 1) c6) (kk ++ [s]) (ms ++ [t']) (L ++ [c])) := HTZ.out.addi HON.out HCZ.out ho6 hg6 hq6
                have hne6 : ¬ vI.ownBlock = some (w.heap.size + 2) := fun e => by have := HTZ.out.o.lt _ e; omega
                have hk6 : Kp (fun q => vI.ownBlock = some q) _ w6 := (Kp.refl _ _).grown hg6 (fun k _ e => e)
                have hx6 : w6.heap[w.heap.size + 2]? = some (.cells (vcs t vy v5 vI) 29 (0, 0)) := (hk6.block _ (blk_lt HTZ.out.x) hne6).trans HTZ.out.x
                have c12 : w6.cell? ⟨w.heap.size + 1 + 1, 12, none⟩ = some vI := blk_cell (j := 12) hx6 rfl
                have f12 : w6.frozen? ⟨w.heap.size + 1 + 1, 12, none⟩ = false := blk_frozen 12 hx6
                have hS6 : S13 w cs w6 := ⟨HTZ.out.b.trans (hk6.below HTZ.out.b.size (fun q e => by have := HTZ.out.o.lt q e; omega)), (hk6.block _ (blk_lt HTZ.out.p) (fun e => by have := HTZ.out.o.lt _ e; omega)).trans HTZ.out.p⟩
                refine (Hid.out hK) _ _ hS6 (fun hS7 => ?_)
                clear hK K hg6 hq6 ho6 hx6 hS6 hne6 hk6
                (try simp only [Act.put]); (try simp only [List.setIfInBounds_toArray, List.set_cons_zero, List.set_cons_succ])
                refine heldTake 11 _ rfl (by kernel_rfl) (by kernel_rfl) (by kernel_rfl) (fun _ _ _ h => h) rfl hS7 (fun wy hy => by first | (go_simp; done) | (go_simp; rfl) | rfl) ?_
                (try simp only [Act.put]); (try simp only [List.setIfInBounds_toArray, List.set_cons_zero, List.set_cons_succ])
                refine heldStep 12 rfl (by kernel_rfl) (fun K hK => ?_)
                go_simp
                refine (Hid.out hK) _ _ ⟨HT6.out.b, HT6.out.p⟩ (fun hS8 => ?_)
                clear hK K
                (try simp only [Act.put]); (try simp only [List.setIfInBounds_toArray, List.set_cons_zero, List.set_cons_succ])
                refine heldDone (by kernel_rfl) ?_
                clear hS7 hS8 c12 f12
                go_wp2_with fail
                go_roundw
                case rel => exact ⟨i + 1, _, _, _, _, _, by omega, by go_num, HT6, ⟨by have := HN.out.1; simp; omega, HK2.out⟩, HI2.out t' HTR.out⟩
                case measure => simp [intOf]; omega
              · as_aux_lemma =>
                refine step_val1 rfl rfl c HC13.out rfl ?_
                refine (Shut.out hK) _ _ ⟨HTZ.out.b, HTZ.out.p⟩ (fun hS4 => ?_)
                clear hK K hS3
                (try simp only [Act.put]); (try simp only [List.setIfInBounds_toArray])
                refine heldStep 1 rfl (by kernel_rfl) (fun K hK => ?_)
                go_simp
                refine (Hid.out hK) _ _ hS4 (fun hS2 => ?_)
                clear hK K hS2 x12 x13 hS4
                (try simp only [Act.put]); (try simp only [List.setIfInBounds_toArray, List.set_cons_zero, List.set_cons_succ])
                refine heldStep 10 rfl (by kernel_rfl) (fun K hK => ?_)
                refine step_append_val rfl _ _ rfl (w.heap.size + 3) vI L.length (vfl L) rfl HTZ.out.o _ c HON.out rfl HGB.out (by have h1 := HTZ.out.n; have h2 := HN.out.1; have h3 := HML.out; omega) (by have := blk_lt HTZ.out.x; omega) (fun v6 w6 ho6 hg6 hq6 => ?_)
                obtain ⟨a6, c6, hv6⟩ := own_slice ho6
                subst hv6
                have HT6 : Hid (Tur w (w6.setCell ⟨w.heap.size + 1 + 1, 12, none⟩ (.slice a6 (L.length + 1) c6)) S cs t vy v5 (.slice a6 (L.length + 1) c6) (kk ++ [s]) (ms ++ [t']) (L ++ [c])) := HTZ.out.addi HON.out HCZ.out ho6 hg6 hq6
                have hne6 : ¬ vI.ownBlock = some (w.heap.size + 2) := fun e => by have := HTZ.out.o.lt _ e; omega
                have hk6 : Kp (fun q => vI.ownBlock = some q) _ w6 := (Kp.refl _ _).grown hg6 (fun k _ e => e)
                have hx6 : w6.heap[w.heap.size + 2]? = some (.cells (vcs t vy v5 vI) 29 (0, 0)) := (hk6.block _ (blk_lt HTZ.out.x) hne6).trans HTZ.out.x
                have c12 : w6.cell? ⟨w.heap.size + 1 + 1, 12, none⟩ = some vI := blk_cell (j := 12) hx6 rfl
                have f12 : w6.frozen? ⟨w.heap.size + 1 + 1, 12, none⟩ = false := blk_frozen 12 hx6
                have hS6 : S13 w cs w6 := ⟨HTZ.out.b.trans (hk6.below HTZ.out.b.size (fun q e => by have := HTZ.out.o.lt q e; omega)), (hk6.block _ (blk_lt HTZ.out.p) (fun e => by have := HTZ.out.o.lt _ e; omega)).trans HTZ.out.p⟩
                refine (Hid.out hK) _ _ hS6 (fun hS7 => ?_)
                clear hK K hg6 hq6 ho6 hx6 hS6 hne6 hk6
                (try simp only [Act.put]); (try simp only [List.setIfInBounds_toArray, List.set_cons_zero, List.set_cons_succ])
                refine heldTake 11 _ rfl (by kernel_rfl) (by kernel_rfl) (by kernel_rfl) (fun _ _ _ h => h) rfl hS7 (fun wy hy => by first | (go_simp; done) | (go_simp; rfl) | rfl) ?_
                (try simp only [Act.put]); (try simp only [List.setIfInBounds_toArray, List.set_cons_zero, List.set_cons_succ])
                refine heldStep 12 rfl (by kernel_rfl) (fun K hK => ?_)
                go_simp
                refine (Hid.out hK) _ _ ⟨HT6.out.b, HT6.out.p⟩ (fun hS8 => ?_)
                clear hK K
                (try simp only [Act.put]); (try simp only [List.setIfInBounds_toArray, List.set_cons_zero, List.set_cons_succ])
                refine heldDone (by kernel_rfl) ?_
                clear hS7 hS8 c12 f12
                go_wp2_with fail
                go_roundw
                case rel => exact ⟨i + 1, _, _, _, _, _, by omega, by go_num, HT6, ⟨by have := HN.out.1; simp; omega, HK2.out⟩, HI2.out t' HTR.out⟩
                case measure => simp [intOf]; omega
        · as_aux_lemma =>
          have eq1 : (((n % 2 : Nat) : Int) == 1) = false := beq_eq_false_iff_ne.2 (by omega)
          have hqq : (i + n) % t.is.length = q := by rw [hqv]; unfold trk; rw [if_neg ho]
          rw [hqq] at htm
          generalize n % 2 = par at *
          clear hqq hqv hq ho hml
          go_wp2_with fail
          go_cut [] from 36 to 45 (fun wx => ∃ v5, Hid (Tur w wx S cs t vy v5 vI (kk ++ [s]) ms L))
          case first => as_aux_lemma =>
            refine heldStart (S := S13 w cs) (by kernel_rfl) ?_
            have HTD : Hid (Tur w wr.drew S cs t vy vK vI kk ms L) := HT.out.next (by refine Below.drew ?_; exact Below.refl _ _)
            have hS : S13 w cs wr.drew := ⟨HTD.out.b, HTD.out.p⟩
            refine heldTake 0 _ rfl (by kernel_rfl) (by kernel_rfl) (by kernel_rfl) (fun _ _ _ h => h) rfl hS (fun wy hy => by first | (go_simp; done) | (go_simp; rfl) | rfl) ?_
            (try simp only [Act.put]); (try simp only [List.setIfInBounds_toArray, List.set_cons_zero, List.set_cons_succ])
            refine heldTake 2 _ rfl (by kernel_rfl) (by kernel_rfl) (by kernel_rfl) (fun _ _ _ h => h) rfl hS (fun wy hy => by first | (go_simp; done) | (go_simp; rfl) | rfl) ?_
            (try simp only [Act.put]); (try simp only [List.setIfInBounds_toArray, List.set_cons_zero, List.set_cons_succ])
            refine heldTake 4 _ rfl (by kernel_rfl) (by kernel_rfl) (by kernel_rfl) (fun _ _ _ h => h) rfl hS (fun wy hy => by first | (go_simp; done) | (go_simp; rfl) | rfl) ?_
            (try simp only [Act.put]); (try simp only [List.setIfInBounds_toArray, List.set_cons_zero, List.set_cons_succ])
            refine heldTake 3 _ rfl (by kernel_rfl) (by kernel_rfl) (by kernel_rfl) (fun _ _ _ h => h) rfl hS (fun wy hy => by have h0 := blk_cell (j := 11) hy.2 HC11.out; first | (go_simp; done) | (go_simp; rfl) | rfl) ?_
            (try simp only [Act.put]); (try simp only [List.setIfInBounds_toArray, List.set_cons_zero, List.set_cons_succ])
            refine heldTake 5 _ rfl (by kernel_rfl) (by kernel_rfl) (by kernel_rfl) (fun _ _ _ h => h) rfl hS (fun wy hy => by first | (go_simp; done) | (go_simp; rfl) | rfl) ?_
            (try simp only [Act.put]); (try simp only [List.setIfInBounds_toArray, List.set_cons_zero, List.set_cons_succ])
            refine heldTake 6 _ rfl (by kernel_rfl) (by kernel_rfl) (by kernel_rfl) (fun _ _ _ h => h) rfl hS (fun wy hy => by have h0 := keep_below hy.1 _ _ HCS.out; first | (go_simp; done) | (go_simp; rfl) | rfl) ?_
            (try simp only [Act.put]); (try simp only [List.setIfInBounds_toArray, List.set_cons_zero, List.set_cons_succ])
            refine wpAnyH_ready (rs := [1, 7]) (by kernel_rfl) (by simp) ?_
            refine AllReadyH.cons rfl (fun K hK => ?_) (AllReadyH.cons rfl (fun K hK => ?_) AllReadyH.nil)
            · as_aux_lemma =>
              have x11 : wr.cell? ⟨w.heap.size + 1 + 1, 11, none⟩ = some vK := blk_cell (j := 11) HTD.out.x rfl
              go_simp
              refine (Shut.out hK) _ _ hS (fun hS2 => ?_)
              clear hK K hS2
              (try simp only [Act.put]); (try simp only [List.setIfInBounds_toArray, List.set_cons_zero, List.set_cons_succ])
              refine heldStep 7 rfl (by kernel_rfl) (fun K hK => ?_)
              go_simp
              have HGB : Hid ((wr.alloc (.cells #[.string s] 9)).drew.heap[wr.heap.size]? = some (.cells #[.string s] 9 (0, 0))) := heap_alloc_new wr (.cells #[.string s] 9)
              have HTZ : Hid (Tur w (wr.alloc (.cells #[.string s] 9)).drew S cs t vy vK vI kk ms L) := (HT.out.next (below_alloc4 wr (.cells #[.string s] 9))).next (by refine Below.drew ?_; exact Below.refl _ _)
              refine (Hid.out hK) _ _ ⟨HTZ.out.b, HTZ.out.p⟩ (fun hS2 => ?_)
              clear hK K x11 HTD hS2
              (try simp only [Act.put]); (try simp only [List.setIfInBounds_toArray, List.set_cons_zero, List.set_cons_succ])
              refine heldStep 8 rfl (by kernel_rfl) (fun K hK => ?_)
              refine step_append_str rfl _ _ rfl (w.heap.size + 3) vK kk.length kk rfl HTZ.out.k _ s rfl HGB.out (by have := HKL.out; omega) (by have := blk_lt HTZ.out.x; omega) (fun v5 w5 ho5 hg5 hq5 => ?_)
              obtain ⟨a5, c5, hv5⟩ := own_slice ho5
              subst hv5
              have HT5 : Hid (Tur w (w5.setCell ⟨w.heap.size + 1 + 1, 11, none⟩ (.slice a5 (kk.length + 1) c5)) S cs t vy (.slice a5 (kk.length + 1) c5) vI (kk ++ [s]) ms L) := HTZ.out.addk (by rw [List.length_append]; exact ho5) hg5 hq5
              have hne5 : ¬ vK.ownBlock = some (w.heap.size + 2) := fun e => by have := HTZ.out.k.lt _ e; omega
              have hx5 : w5.heap[w.heap.size + 2]? = some (.cells (vcs t vy vK vI) 29 (0, 0)) := (((Kp.refl (fun q => vK.ownBlock = some q) _).grown hg5 (fun k _ e => e)).block _ (blk_lt HTZ.out.x) hne5).trans HTZ.out.x
              have c11 : w5.cell? ⟨w.heap.size + 1 + 1, 11, none⟩ = some vK := blk_cell (j := 11) hx5 rfl
              have f11 : w5.frozen? ⟨w.heap.size + 1 + 1, 11, none⟩ = false := blk_frozen 11 hx5
              have hS5 : S13 w cs w5 := by
                have hk5 : Kp (fun q => vK.ownBlock = some q) _ w5 := (Kp.refl _ _).grown hg5 (fun k _ e => e)
                exact ⟨HTZ.out.b.trans (hk5.below HTZ.out.b.size (fun q e => by have := HTZ.out.k.lt q e; omega)), (hk5.block _ (blk_lt HTZ.out.p) (fun e => by have := HTZ.out.k.lt _ e; omega)).trans HTZ.out.p⟩
              refine (Hid.out hK) _ _ hS5 (fun hS6 => ?_)
              clear hK K hg5 hq5 ho5 hx5 hS5 hne5
              (try simp only [Act.put]); (try simp only [List.setIfInBounds_toArray, List.set_cons_zero, List.set_cons_succ])
              refine heldTake 9 _ rfl (by kernel_rfl) (by kernel_rfl) (by kernel_rfl) (fun _ _ _ h => h) rfl hS6 (fun wy hy => by first | (go_simp; done) | (go_simp; rfl) | rfl) ?_
              (try simp only [Act.put]); (try simp only [List.setIfInBounds_toArray, List.set_cons_zero, List.set_cons_succ])
              refine heldStep 10 rfl (by kernel_rfl) (fun K hK => ?_)
              go_simp
              refine (Hid.out hK) _ _ ⟨HT5.out.b, HT5.out.p⟩ (fun hS7 => ?_)
              clear hK K
              (try simp only [Act.put]); (try simp only [List.setIfInBounds_toArray, List.set_cons_zero, List.set_cons_succ])
              refine heldDone (by kernel_rfl) ?_
              clear hS hS6 hS7 c11 f11
              go_wp2_with fail
              go_meet
              case rel => exact ⟨_, HT5⟩
            · as_aux_lemma =>
              go_simp
              have HGB : Hid ((wr.alloc (.cells #[.string s] 9)).drew.heap[wr.heap.size]? = some (.cells #[.string s] 9 (0, 0))) := heap_alloc_new wr (.cells #[.string s] 9)
              have HTZ : Hid (Tur w (wr.alloc (.cells #[.string s] 9)).drew S cs t vy vK vI kk ms L) := (HT.out.next (below_alloc4 wr (.cells #[.string s] 9))).next (by refine Below.drew ?_; exact Below.refl _ _)
              have x11 : (wr.alloc (.cells #[.string s] 9)).cell? ⟨w.heap.size + 1 + 1, 11, none⟩ = some vK := blk_cell (j := 11) HTZ.out.x rfl
              refine (Shut.out hK) _ _ ⟨HTZ.out.b, HTZ.out.p⟩ (fun hS2 => ?_)
              clear hK K hS HTD
              have hS := hS2
              clear hS2
              (try simp only [Act.put]); (try simp only [List.setIfInBounds_toArray, List.set_cons_zero, List.set_cons_succ])
              refine heldStep 1 rfl (by kernel_rfl) (fun K hK => ?_)
              go_simp
              refine (Hid.out hK) _ _ hS (fun hS2 => ?_)
              clear hK K x11 hS2
              (try simp only [Act.put]); (try simp only [List.setIfInBounds_toArray, List.set_cons_zero, List.set_cons_succ])
              refine heldStep 8 rfl (by kernel_rfl) (fun K hK => ?_)
              refine step_append_str rfl _ _ rfl (w.heap.size + 3) vK kk.length kk rfl HTZ.out.k _ s rfl HGB.out (by have := HKL.out; omega) (by have := blk_lt HTZ.out.x; omega) (fun v5 w5 ho5 hg5 hq5 => ?_)
              obtain ⟨a5, c5, hv5⟩ := own_slice ho5
              subst hv5
              have HT5 : Hid (Tur w (w5.setCell ⟨w.heap.size + 1 + 1, 11, none⟩ (.slice a5 (kk.length + 1) c5)) S cs t vy (.slice a5 (kk.length + 1) c5) vI (kk ++ [s]) ms L) := HTZ.out.addk (by rw [List.length_append]; exact ho5) hg5 hq5
              have hne5 : ¬ vK.ownBlock = some (w.heap.size + 2) := fun e => by have := HTZ.out.k.lt _ e; omega
              have hx5 : w5.heap[w.heap.size + 2]? = some (.cells (vcs t vy vK vI) 29 (0, 0)) := (((Kp.refl (fun q => vK.ownBlock = some q) _).grown hg5 (fun k _ e => e)).block _ (blk_lt HTZ.out.x) hne5).trans HTZ.out.x
              have c11 : w5.cell? ⟨w.heap.size + 1 + 1, 11, none⟩ = some vK := blk_cell (j := 11) hx5 rfl
              have f11 : w5.frozen? ⟨w.heap.size + 1 + 1, 11, none⟩ = false := blk_frozen 11 hx5
              have hS5 : S13 w cs w5 := by
                have hk5 : Kp (fun q => vK.ownBlock = some q) _ w5 := (Kp.refl _ _).grown hg5 (fun k _ e => e)
                exact ⟨HTZ.out.b.trans (hk5.below HTZ.out.b.size (fun q e => by have := HTZ.out.k.lt q e; omega)), (hk5.block _ (blk_lt HTZ.out.p) (fun e => by have := HTZ.out.k.lt _ e; omega)).trans HTZ.out.p⟩
              refine (Hid.out hK) _ _ hS5 (fun hS6 => ?_)
              clear hK K hg5 hq5 ho5 hx5 hS5 hne5
              (try simp only [Act.put]); (try simp only [List.setIfInBounds_toArray, List.set_cons_zero, List.set_cons_succ])
              refine heldTake 9 _ rfl (by kernel_rfl) (by kernel_rfl) (by kernel_rfl) (fun _ _ _ h => h) rfl hS6 (fun wy hy => by first | (go_simp; done) | (go_simp; rfl) | rfl) ?_
              (try simp only [Act.put]); (try simp only [List.setIfInBounds_toArray, List.set_cons_zero, List.set_cons_succ])
              refine heldStep 10 rfl (by kernel_rfl) (fun K hK => ?_)
              go_simp
              refine (Hid.out hK) _ _ ⟨HT5.out.b, HT5.out.p⟩ (fun hS7 => ?_)
              clear hK K
              (try simp only [Act.put]); (try simp only [List.setIfInBounds_toArray, List.set_cons_zero, List.set_cons_succ])
              refine heldDone (by kernel_rfl) ?_
              clear hS hS6 hS7 c11 f11
              go_wp2_with fail
              go_meet
              case rel => exact ⟨_, HT5⟩
          case rest =>
            obtain ⟨v5, HTW⟩ := hcut
            obtain ⟨w3, hw3⟩ : ∃ x, x = wc := ⟨_, rfl⟩
            subst hw3
            have HK2 : Hid (kk ++ [s] = if t.k = 9 then pickS t.ks ((List.range (i + 1)).map pl) else []) := by show _ = _; rw [if_pos h9]; exact HKS.out
            clear HT
            have HCL : Hid (∀ wz, Tur w wz S cs t vy v5 vI (kk ++ [s]) ms L → Calls Tryd.prog 9 #[.agg cu, .int .i64 (n : Nat)] wz fun e w' => ∃ c t', e = .returned (.agg c) ∧ Tis w' (fun q => S q ∨ (w.heap.size ≤ q ∧ q ≤ w.heap.size + 2) ∨ v5.ownBlock = some q ∨ vI.ownBlock = some q) t' c ∧ Trn u t' ∧ Below wz.heap.size wz w') := fun wz hz => by
              have h1 := hz.b.size
              refine HIH.out u HUM.out wz _ cu ((HTU.out.widen.kp (Kp.of_below hz.b)).mono (fun q e => ?_)) (fun q e => ?_) (HTK.out.i u HUM.out) (Nat.le_trans (tmuchL_mem HUM.out) HML.out.1)
              · rcases e with e | e | e | e
                · exact .inl e
                · exact .inr (by omega)
                · exact .inr (by have := hz.k.lt q e; omega)
                · exact .inr (by have := hz.o.lt q e; omega)
              · rcases e with e | e | e | e
                · have := HSS.out q e
                  omega
                · have := blk_lt hz.x
                  omega
                · exact (hz.k.lt q e).2
                · exact (hz.o.lt q e).2
            go_wp2_with fail
            refine heldStart (S := S13 w cs) (by kernel_rfl) ?_
            have HTD : Hid (Tur w w3.drew S cs t vy v5 vI (kk ++ [s]) ms L) := HTW.out.next (by refine Below.drew ?_; exact Below.refl _ _)
            have hS : S13 w cs w3.drew := ⟨HTD.out.b, HTD.out.p⟩
            refine heldTake 0 _ rfl (by kernel_rfl) (by kernel_rfl) (by kernel_rfl) (fun _ _ _ h => h) rfl hS (fun wy hy => by first | (go_simp; done) | (go_simp; rfl) | rfl) ?_
            (try simp only [Act.put]); (try simp only [List.setIfInBounds_toArray, List.set_cons_zero, List.set_cons_succ])
            refine heldTake 2 _ rfl (by kernel_rfl) (by kernel_rfl) (by kernel_rfl) (fun _ _ _ h => h) rfl hS (fun wy hy => by first | (go_simp; done) | (go_simp; rfl) | rfl) ?_
            (try simp only [Act.put]); (try simp only [List.setIfInBounds_toArray, List.set_cons_zero, List.set_cons_succ])
            refine heldTake 4 _ rfl (by kernel_rfl) (by kernel_rfl) (by kernel_rfl) (fun _ _ _ h => h) rfl hS (fun wy hy => by first | (go_simp; done) | (go_simp; rfl) | rfl) ?_
            (try simp only [Act.put]); (try simp only [List.setIfInBounds_toArray, List.set_cons_zero, List.set_cons_succ])
            refine heldTake 7 _ rfl (by kernel_rfl) (by kernel_rfl) (by kernel_rfl) (fun _ _ _ h => h) rfl hS (fun wy hy => by first | (go_simp; done) | (go_simp; rfl) | rfl) ?_
            (try simp only [Act.put]); (try simp only [List.setIfInBounds_toArray, List.set_cons_zero, List.set_cons_succ])
            refine heldTake 3 _ rfl (by kernel_rfl) (by kernel_rfl) (by kernel_rfl) (fun _ _ _ h => h) rfl hS (fun wy hy => by have h0 := blk_cell (j := 12) hy.2 HC12.out; first | (go_simp; done) | (go_simp; rfl) | rfl) ?_
            (try simp only [Act.put]); (try simp only [List.setIfInBounds_toArray, List.set_cons_zero, List.set_cons_succ])
            refine heldTake 5 _ rfl (by kernel_rfl) (by kernel_rfl) (by kernel_rfl) (fun _ _ _ h => h) rfl hS (fun wy hy => by first | (go_simp; done) | (go_simp; rfl) | rfl) ?_
            (try simp only [Act.put]); (try simp only [List.setIfInBounds_toArray, List.set_cons_zero, List.set_cons_succ])
            refine heldTake 6 _ rfl (by kernel_rfl) (by kernel_rfl) (by kernel_rfl) (fun _ _ _ h => h) rfl hS (fun wy hy => exec_valAt (g := b) (off := off + q * 13) (cs := cu) rfl rfl HZU.out (fun j x hx => keep_below hy.1 _ _ (HCU.out j x hx))) ?_
            (try simp only [Act.put]); (try simp only [List.setIfInBounds_toArray, List.set_cons_zero, List.set_cons_succ])
            refine wpAnyH_ready (rs := [1, 8]) (by kernel_rfl) (by simp) ?_
            refine AllReadyH.cons rfl (fun K hK => ?_) (AllReadyH.cons rfl (fun K hK => ?_) AllReadyH.nil)
            · as_aux_lemma =>
              have x12 : w3.cell? ⟨w.heap.size + 1 + 1, 12, none⟩ = some vI := blk_cell (j := 12) HTW.out.x rfl
              go_simp
              refine (Shut.out hK) _ _ hS (fun hS2 => ?_)
              clear hK K hS2
              (try simp only [Act.put]); (try simp only [List.setIfInBounds_toArray, List.set_cons_zero, List.set_cons_succ])
              refine heldStep 8 rfl (by kernel_rfl) (fun K hK => ?_)
              go_simp
              refine (HCL.out _ HTD.out).mono ?_
              rintro e w5 ⟨c, t', rfl, hc5, htr, hb5⟩
              have HTR := hide htr
              have HT5 := hide (HTD.out.next hb5)
              have HC13 := hide hc5.tin.size13
              have HON : Hid (one13 c) := ⟨HC13.out, fun x hx => by have h := hc5.tin.all1; rw [Array.all_eq_true_iff_forall_mem] at h; exact h x (by simpa using hx)⟩
              have HTZ := hide (HT5.out.next (below_alloc4 w5 (.cells c 29)))
              have HGB := hide (heap_alloc_new w5 (.cells c 29))
              have HCZ := hide (hc5.kp (Kp.of_below (below_alloc4 w5 (.cells c 29))))
              clear htr hc5 hb5
              refine (Hid.out hK) _ _ ⟨HT5.out.b, HT5.out.p⟩ (fun hS3 => ?_)
              clear hK K x12 hS3 hS
              (try simp only [Act.put]); (try simp only [List.setIfInBounds_toArray, List.set_cons_zero, List.set_cons_succ])
              refine heldStep 9 rfl (by kernel_rfl) (fun K hK => ?_)
              refine step_val1 rfl rfl c HC13.out rfl ?_
              refine (Hid.out hK) _ _ ⟨HTZ.out.b, HTZ.out.p⟩ (fun hS4 => ?_)
              clear hK K hS4
              (try simp only [Act.put]); (try simp only [List.setIfInBounds_toArray, List.set_cons_zero, List.set_cons_succ])
              refine heldStep 10 rfl (by kernel_rfl) (fun K hK => ?_)
              refine step_append_val rfl _ _ rfl (w.heap.size + 3) vI L.length (vfl L) rfl HTZ.out.o _ c HON.out rfl HGB.out (by have h1 := HTZ.out.n; have h2 := HN.out.1; have h3 := HML.out; omega) (by have := blk_lt HTZ.out.x; omega) (fun v6 w6 ho6 hg6 hq6 => ?_)
              obtain ⟨a6, c6, hv6⟩ := own_slice ho6
              subst hv6
              have HT6 : Hid (Tur w (w6.setCell ⟨w.heap.size + 1 + 1, 12, none⟩ (.slice a6 (L.length + 1) c6)) S cs t vy v5 (.slice a6 (L.length + 1) c6) (kk ++ [s]) (ms ++ [t']) (L ++ [c])) := HTZ.out.addi HON.out HCZ.out ho6 hg6 hq6
              have hne6 : ¬ vI.ownBlock = some (w.heap.size + 2) := fun e => by have := HTZ.out.o.lt _ e; omega
              have hk6 : Kp (fun q => vI.ownBlock = some q) _ w6 := (Kp.refl _ _).grown hg6 (fun k _ e => e)
              have hx6 : w6.heap[w.heap.size + 2]? = some (.cells (vcs t vy v5 vI) 29 (0, 0)) := (hk6.block _ (blk_lt HTZ.out.x) hne6).trans HTZ.out.x
              have c12 : w6.cell? ⟨w.heap.size + 1 + 1, 12, none⟩ = some vI := blk_cell (j := 12) hx6 rfl
              have f12 : w6.frozen? ⟨w.heap.size + 1 + 1, 12, none⟩ = false := blk_frozen 12 hx6
              have hS6 : S13 w cs w6 := ⟨HTZ.out.b.trans (hk6.below HTZ.out.b.size (fun q e => by have := HTZ.out.o.lt q e; omega)), (hk6.block _ (blk_lt HTZ.out.p) (fun e => by have := HTZ.out.o.lt _ e; omega)).trans HTZ.out.p⟩
              refine (Hid.out hK) _ _ hS6 (fun hS7 => ?_)
              clear hK K hg6 hq6 ho6 hx6 hS6 hne6 hk6
              (try simp only [Act.put]); (try simp only [List.setIfInBounds_toArray, List.set_cons_zero, List.set_cons_succ])
              refine heldTake 11 _ rfl (by kernel_rfl) (by kernel_rfl) (by kernel_rfl) (fun _ _ _ h => h) rfl hS7 (fun wy hy => by first | (go_simp; done) | (go_simp; rfl) | rfl) ?_
              (try simp only [Act.put]); (try simp only [List.setIfInBounds_toArray, List.set_cons_zero, List.set_cons_succ])
              refine heldStep 12 rfl (by kernel_rfl) (fun K hK => ?_)
              go_simp
              refine (Hid.out hK) _ _ ⟨HT6.out.b, HT6.out.p⟩ (fun hS8 => ?_)
              clear hK K
              (try simp only [Act.put]); (try simp only [List.setIfInBounds_toArray, List.set_cons_zero, List.set_cons_succ])
              refine heldDone (by kernel_rfl) ?_
              clear hS7 hS8 c12 f12
              go_wp2_with fail
              go_roundw
              case rel => exact ⟨i + 1, _, _, _, _, _, by omega, by go_num, HT6, ⟨by have := HN.out.1; simp; omega, HK2.out⟩, HI2.out t' HTR.out⟩
              case measure => simp [intOf]; omega
            · as_aux_lemma =>
              go_simp
              refine (HCL.out _ HTD.out).mono ?_
              rintro e w5 ⟨c, t', rfl, hc5, htr, hb5⟩
              have HTR := hide htr
              have HT5 := hide (HTD.out.next hb5)
              have HC13 := hide hc5.tin.size13
              have HON : Hid (one13 c) := ⟨HC13.out, fun x hx => by have h := hc5.tin.all1; rw [Array.all_eq_true_iff_forall_mem] at h; exact h x (by simpa using hx)⟩
              have HTZ := hide (HT5.out.next (below_alloc4 w5 (.cells c 29)))
              have HGB := hide (heap_alloc_new w5 (.cells c 29))
              have HCZ := hide (hc5.kp (Kp.of_below (below_alloc4 w5 (.cells c 29))))
              clear htr hc5 hb5
              have x12 : w5.cell? ⟨w.heap.size + 1 + 1, 12, none⟩ = some vI := blk_cell (j := 12) HT5.out.x rfl
              have x13 : (w5.alloc (.cells c 29)).cell? ⟨w.heap.size + 1 + 1, 12, none⟩ = some vI := blk_cell (j := 12) HTZ.out.x rfl
              refine (Shut.out hK) _ _ ⟨HT5.out.b, HT5.out.p⟩ (fun hS3 => ?_)
              clear hK K hS
              (try simp only [Act.put]); (try simp only [List.setIfInBounds_toArray, List.set_cons_zero, List.set_cons_succ])
              refine wpAnyH_ready (rs := [1, 9]) (by kernel_rfl) (by simp) ?_
              refine AllReadyH.cons rfl (fun K hK => ?_) (AllReadyH.cons rfl (fun K hK => ?_) AllReadyH.nil)
              · as_aux_lemma =>
                go_simp
                refine (Shut.out hK) _ _ hS3 (fun hS2 => ?_)
                clear hK K hS2 x12 x13
                (try simp only [Act.put]); (try simp only [List.setIfInBounds_toArray, List.set_cons_zero, List.set_cons_succ])
                refine heldStep 9 rfl (by kernel_rfl) (fun K hK => ?_)
                refine step_val1 rfl rfl c HC13.out rfl ?_
                refine (Hid.out hK) _ _ ⟨HTZ.out.b, HTZ.out.p⟩ (fun hS4 => ?_)
                clear hK K hS4
                (try simp only [Act.put]); (try simp only [List.setIfInBounds_toArray, List.set_cons_zero, List.set_cons_succ])
                refine heldStep 10 rfl (by kernel_rfl) (fun K hK => ?_)
                refine step_append_val rfl _ _ rfl (w.heap.size + 3) vI L.length (vfl L) rfl HTZ.out.o _ c HON.out rfl HGB.out (by have h1 := HTZ.out.n; have h2 := HN.out.1; have h3 := HML.out; omega) (by have := blk_lt HTZ.out.x; omega) (fun v6 w6 ho6 hg6 hq6 => ?_)
                obtain ⟨a6, c6, hv6⟩ := own_slice ho6
                subst hv6
                have HT6 : Hid (Tur w (w6.setCell ⟨w.heap.size + 1 + 1, 12, none⟩ (.slice a6 (L.length + 1) c6)) S cs t vy v5 (.slice a6 (L.length + 1) c6) (kk ++ [s]) (ms ++ [t']) (L ++ [c])) := HTZ.out.addi HON.out HCZ.out ho6 hg6 hq6
                have hne6 : ¬ vI.ownBlock = some (w.heap.size + 2) := fun e => by have := HTZ.out.o.lt _ e; omega
                have hk6 : Kp (fun q => vI.ownBlock = some q) _ w6 := (Kp.refl _ _).grown hg6 (fun k _ e => e)
                have hx6 : w6.heap[w.heap.size + 2]? = some (.cells (vcs t vy v5 vI) 29 (0, 0)) := (hk6.block _ (blk_lt HTZ.out.x) hne6).trans HTZ.out.x
                have c12 : w6.cell? ⟨w.heap.size + 1 + 1, 12, none⟩ = some vI := blk_cell (j := 12) hx6 rfl
                have f12 : w6.frozen? ⟨w.heap.size + 1 + 1, 12, none⟩ = false := blk_frozen 12 hx6
                have hS6 : S13 w cs w6 := ⟨HTZ.out.b.trans (hk6.below HTZ.out.b.size (fun q e => by have := HTZ.out.o.lt q e; omega)), (hk6.block _ (blk_lt HTZ.out.p) (fun e => by have := HTZ.out.o.lt _ e; omega)).trans HTZ.out.p⟩
                refine (Hid.out hK) _ _ hS6 (fun hS7 => ?_)
                clear hK K hg6 hq6 ho6 hx6 hS6 hne6 hk6
                (try simp only [Act.put]); (try simp only [List.setIfInBounds_toArray, List.set_cons_zero, List.set_cons_succ])
                refine heldTake 11 _ rfl (by kernel_rfl) (by kernel_rfl) (by kernel_rfl) (fun _ _ _ h => h) rfl hS7 (fun wy hy => by first | (go_simp; done) | (go_simp; rfl) | rfl) ?_
                (try simp only [Act.put]); (try simp only [List.setIfInBounds_toArray, List.set_cons_zero, List.set_cons_succ])
                refine heldStep 12 rfl (by kernel_rfl) (fun K hK => ?_)
                go_simp
                refine (Hid.out hK) _ _ ⟨HT6.out.b, HT6.out.p⟩ (fun hS8 => ?_)
                clear hK K
                (try simp only [Act.put]); (try simp only [List.setIfInBounds_toArray, List.set_cons_zero, List.set_cons_succ])
                refine heldDone (by kernel_rfl) ?_
                clear hS7 hS8 c12 f12
                go_wp2_with fail
                go_roundw
                case rel => exact ⟨i + 1, _, _, _, _, _, by omega, by go_num, HT6, ⟨by have := HN.out.1; simp; omega, HK2.out⟩, HI2.out t' HTR.out⟩
                case measure => simp [intOf]; omega
              · as_aux_lemma =>
                refine step_val1 rfl rfl c HC13.out rfl ?_
                refine (Shut.out hK) _ _ ⟨HTZ.out.b, HTZ.out.p⟩ (fun hS4 => ?_)
                clear hK K hS3
                (try simp only [Act.put]); (try simp only [List.setIfInBounds_toArray])
                refine heldStep 1 rfl (by kernel_rfl) (fun K hK => ?_)
                go_simp
                refine (Hid.out hK) _ _ hS4 (fun hS2 => ?_)
                clear hK K hS2 x12 x13 hS4
                (try simp only [Act.put]); (try simp only [List.setIfInBounds_toArray, List.set_cons_zero, List.set_cons_succ])
                refine heldStep 10 rfl (by kernel_rfl) (fun K hK => ?_)
                refine step_append_val rfl _ _ rfl (w.heap.size + 3) vI L.length (vfl L) rfl HTZ.out.o _ c HON.out rfl HGB.out (by have h1 := HTZ.out.n; have h2 := HN.out.1; have h3 := HML.out; omega) (by have := blk_lt HTZ.out.x; omega) (fun v6 w6 ho6 hg6 hq6 => ?_)
                obtain ⟨a6, c6, hv6⟩ := own_slice ho6
                subst hv6
                have HT6 : Hid (Tur w (w6.setCell ⟨w.heap.size + 1 + 1, 12, none⟩ (.slice a6 (L.length + 1) c6)) S cs t vy v5 (.slice a6 (L.length + 1) c6) (kk ++ [s]) (ms ++ [t']) (L ++ [c])) := HTZ.out.addi HON.out HCZ.out ho6 hg6 hq6
                have hne6 : ¬ vI.ownBlock = some (w.heap.size + 2) := fun e => by have := HTZ.out.o.lt _ e; omega
                have hk6 : Kp (fun q => vI.ownBlock = some q) _ w6 := (Kp.refl _ _).grown hg6 (fun k _ e => e)
                have hx6 : w6.heap[w.heap.size + 2]? = some (.cells (vcs t vy v5 vI) 29 (0, 0)) := (hk6.block _ (blk_lt HTZ.out.x) hne6).trans HTZ.out.x
                have c12 : w6.cell? ⟨w.heap.size + 1 + 1, 12, none⟩ = some vI := blk_cell (j := 12) hx6 rfl
                have f12 : w6.frozen? ⟨w.heap.size + 1 + 1, 12, none⟩ = false := blk_frozen 12 hx6
                have hS6 : S13 w cs w6 := ⟨HTZ.out.b.trans (hk6.below HTZ.out.b.size (fun q e => by have := HTZ.out.o.lt q e; omega)), (hk6.block _ (blk_lt HTZ.out.p) (fun e => by have := HTZ.out.o.lt _ e; omega)).trans HTZ.out.p⟩
                refine (Hid.out hK) _ _ hS6 (fun hS7 => ?_)
                clear hK K hg6 hq6 ho6 hx6 hS6 hne6 hk6
                (try simp only [Act.put]); (try simp only [List.setIfInBounds_toArray, List.set_cons_zero, List.set_cons_succ])
                refine heldTake 11 _ rfl (by kernel_rfl) (by kernel_rfl) (by kernel_rfl) (fun _ _ _ h => h) rfl hS7 (fun wy hy => by first | (go_simp; done) | (go_simp; rfl) | rfl) ?_
                (try simp only [Act.put]); (try simp only [List.setIfInBounds_toArray, List.set_cons_zero, List.set_cons_succ])
                refine heldStep 12 rfl (by kernel_rfl) (fun K hK => ?_)
                go_simp
                refine (Hid.out hK) _ _ ⟨HT6.out.b, HT6.out.p⟩ (fun hS8 => ?_)
                clear hK K
                (try simp only [Act.put]); (try simp only [List.setIfInBounds_toArray, List.set_cons_zero, List.set_cons_succ])
                refine heldDone (by kernel_rfl) ?_
                clear hS7 hS8 c12 f12
                go_wp2_with fail
                go_roundw
                case rel => exact ⟨i + 1, _, _, _, _, _, by omega, by go_num, HT6, ⟨by have := HN.out.1; simp; omega, HK2.out⟩, HI2.out t' HTR.out⟩
                case measure => simp [intOf]; omega
      · as_aux_lemma =>
        have g9 : (t.k == 9) = false := beq_eq_false_iff_ne.2 h9
        obtain ⟨q, hq⟩ : ∃ q, q = pl i := ⟨_, rfl⟩
        have hqv : i = q := by rw [hq, HPL.out]; simp only [if_neg h9]
        have hql : q < t.is.length := by omega
        have HQP := hide hq
        obtain ⟨u, hu⟩ : ∃ u, t.is[q]? = some u := ⟨t.is[q], List.getElem?_eq_getElem hql⟩
        obtain ⟨b, off, rfl, hcells⟩ := HFI.out.resolve_left (fun h => by rw [h] at hql; simp at hql)
        obtain ⟨cu, tu, hcu⟩ := hcells q u hu
        have HZU := hide tu.tin.size13
        have HCU := hide hcu
        have HTU := hide tu
        have HUM : Hid (u ∈ t.is) := List.mem_of_getElem? hu
        have HU := hide hu
        have HI2 : Hid (∀ t' : Tv, Trn u t' → ∀ (j : Nat) (x v : Tv), j < i + 1 → t.is[pl j]? = some x → (ms ++ [t'])[j]? = some v → Trn x v) := fun t' htr j x v hj hx hv => by
          have hml := HN.out.1
          by_cases hji : j = i
          · subst hji
            rw [← HQP.out, HU.out] at hx
            injection hx with hx
            rw [List.getElem?_append_right (by omega), hml, Nat.sub_self] at hv
            simp at hv
            rw [← hx, ← hv]
            exact htr
          · rw [List.getElem?_append_left (by omega)] at hv
            exact HI.out j x v (by omega) hx hv
        clear hcells tu hcu hu
        have gq2 : (q : Int) < (t.is.length : Int) := by omega
        have HK2 : Hid (kk = if t.k = 9 then pickS t.ks ((List.range (i + 1)).map pl) else []) := by
          have h1 := HN.out.2
          rw [if_neg h9] at h1
          show _ = _
          rw [if_neg h9]
          exact h1
        have HTW := HT
        have HCL : Hid (∀ wz, Tur w wz S cs t vy vK vI kk ms L → Calls Tryd.prog 9 #[.agg cu, .int .i64 (n : Nat)] wz fun e w' => ∃ c t', e = .returned (.agg c) ∧ Tis w' (fun q => S q ∨ (w.heap.size ≤ q ∧ q ≤ w.heap.size + 2) ∨ vK.ownBlock = some q ∨ vI.ownBlock = some q) t' c ∧ Trn u t' ∧ Below wz.heap.size wz w') := fun wz hz => by
          have h1 := hz.b.size
          refine HIH.out u HUM.out wz _ cu ((HTU.out.widen.kp (Kp.of_below hz.b)).mono (fun q e => ?_)) (fun q e => ?_) (HTK.out.i u HUM.out) (Nat.le_trans (tmuchL_mem HUM.out) HML.out.1)
          · rcases e with e | e | e | e
            · exact .inl e
            · exact .inr (by omega)
            · exact .inr (by have := hz.k.lt q e; omega)
            · exact .inr (by have := hz.o.lt q e; omega)
          · rcases e with e | e | e | e
            · have := HSS.out q e
              omega
            · have := blk_lt hz.x
              omega
            · exact (hz.k.lt q e).2
            · exact (hz.o.lt q e).2
        clear hq HT
        subst hqv
        go_wp2_with fail
        refine heldStart (S := S13 w cs) (by kernel_rfl) ?_
        have HTD : Hid (Tur w wr.drew S cs t vy vK vI kk ms L) := HTW.out.next (by refine Below.drew ?_; exact Below.refl _ _)
        have hS : S13 w cs wr.drew := ⟨HTD.out.b, HTD.out.p⟩
        refine heldTake 0 _ rfl (by kernel_rfl) (by kernel_rfl) (by kernel_rfl) (fun _ _ _ h => h) rfl hS (fun wy hy => by first | (go_simp; done) | (go_simp; rfl) | rfl) ?_
        (try simp only [Act.put]); (try simp only [List.setIfInBounds_toArray, List.set_cons_zero, List.set_cons_succ])
        refine heldTake 2 _ rfl (by kernel_rfl) (by kernel_rfl) (by kernel_rfl) (fun _ _ _ h => h) rfl hS (fun wy hy => by first | (go_simp; done) | (go_simp; rfl) | rfl) ?_
        (try simp only [Act.put]); (try simp only [List.setIfInBounds_toArray, List.set_cons_zero, List.set_cons_succ])
        refine heldTake 4 _ rfl (by kernel_rfl) (by kernel_rfl) (by kernel_rfl) (fun _ _ _ h => h) rfl hS (fun wy hy => by first | (go_simp; done) | (go_simp; rfl) | rfl) ?_
        (try simp only [Act.put]); (try simp only [List.setIfInBounds_toArray, List.set_cons_zero, List.set_cons_succ])
        refine heldTake 7 _ rfl (by kernel_rfl) (by kernel_rfl) (by kernel_rfl) (fun _ _ _ h => h) rfl hS (fun wy hy => by first | (go_simp; done) | (go_simp; rfl) | rfl) ?_
        (try simp only [Act.put]); (try simp only [List.setIfInBounds_toArray, List.set_cons_zero, List.set_cons_succ])
        refine heldTake 3 _ rfl (by kernel_rfl) (by kernel_rfl) (by kernel_rfl) (fun _ _ _ h => h) rfl hS (fun wy hy => by have h0 := blk_cell (j := 12) hy.2 HC12.out; first | (go_simp; done) | (go_simp; rfl) | rfl) ?_
        (try simp only [Act.put]); (try simp only [List.setIfInBounds_toArray, List.set_cons_zero, List.set_cons_succ])
        refine heldTake 5 _ rfl (by kernel_rfl) (by kernel_rfl) (by kernel_rfl) (fun _ _ _ h => h) rfl hS (fun wy hy => by first | (go_simp; done) | (go_simp; rfl) | rfl) ?_
        (try simp only [Act.put]); (try simp only [List.setIfInBounds_toArray, List.set_cons_zero, List.set_cons_succ])
        refine heldTake 6 _ rfl (by kernel_rfl) (by kernel_rfl) (by kernel_rfl) (fun _ _ _ h => h) rfl hS (fun wy hy => exec_valAt (g := b) (off := off + i * 13) (cs := cu) rfl rfl HZU.out (fun j x hx => keep_below hy.1 _ _ (HCU.out j x hx))) ?_
        (try simp only [Act.put]); (try simp only [List.setIfInBounds_toArray, List.set_cons_zero, List.set_cons_succ])
        refine wpAnyH_ready (rs := [1, 8]) (by kernel_rfl) (by simp) ?_
        refine AllReadyH.cons rfl (fun K hK => ?_) (AllReadyH.cons rfl (fun K hK => ?_) AllReadyH.nil)
        · as_aux_lemma =>
          have x12 : wr.cell? ⟨w.heap.size + 1 + 1, 12, none⟩ = some vI := blk_cell (j := 12) HTW.out.x rfl
          go_simp
          refine (Shut.out hK) _ _ hS (fun hS2 => ?_)
          clear hK K hS2
          (try simp only [Act.put]); (try simp only [List.setIfInBounds_toArray, List.set_cons_zero, List.set_cons_succ])
          refine heldStep 8 rfl (by kernel_rfl) (fun K hK => ?_)
          go_simp
          refine (HCL.out _ HTD.out).mono ?_
          rintro e w5 ⟨c, t', rfl, hc5, htr, hb5⟩
          have HTR := hide htr
          have HT5 := hide (HTD.out.next hb5)
          have HC13 := hide hc5.tin.size13
          have HON : Hid (one13 c) := ⟨HC13.out, fun x hx => by have h := hc5.tin.all1; rw [Array.all_eq_true_iff_forall_mem] at h; exact h x (by simpa using hx)⟩
          have HTZ := hide (HT5.out.next (below_alloc4 w5 (.cells c 29)))
          have HGB := hide (heap_alloc_new w5 (.cells c 29))
          have HCZ := hide (hc5.kp (Kp.of_below (below_alloc4 w5 (.cells c 29))))
          clear htr hc5 hb5
          refine (Hid.out hK) _ _ ⟨HT5.out.b, HT5.out.p⟩ (fun hS3 => ?_)
          clear hK K x12 hS3 hS
          (try simp only [Act.put]); (try simp only [List.setIfInBounds_toArray, List.set_cons_zero, List.set_cons_succ])
          refine heldStep 9 rfl (by kernel_rfl) (fun K hK => ?_)
          refine step_val1 rfl rfl c HC13.out rfl ?_
          refine (Hid.out hK) _ _ ⟨HTZ.out.b, HTZ.out.p⟩ (fun hS4 => ?_)
          clear hK K hS4
          (try simp only [Act.put]); (try simp only [List.setIfInBounds_toArray, List.set_cons_zero, List.set_cons_succ])
          refine heldStep 10 rfl (by kernel_rfl) (fun K hK => ?_)
          refine step_append_val rfl _ _ rfl (w.heap.size + 3) vI L.length (vfl L) rfl HTZ.out.o _ c HON.out rfl HGB.out (by have h1 := HTZ.out.n; have h2 := HN.out.1; have h3 := HML.out; omega) (by have := blk_lt HTZ.out.x; omega) (fun v6 w6 ho6 hg6 hq6 => ?_)
          obtain ⟨a6, c6, hv6⟩ := own_slice ho6
          subst hv6
          have HT6 : Hid (Tur w (w6.setCell ⟨w.heap.size + 1 + 1, 12, none⟩ (.slice a6 (L.length + 1) c6)) S cs t vy vK (.slice a6 (L.length + 1) c6) kk (ms ++ [t']) (L ++ [c])) := HTZ.out.addi HON.out HCZ.out ho6 hg6 hq6
          have hne6 : ¬ vI.ownBlock = some (w.heap.size + 2) := fun e => by have := HTZ.out.o.lt _ e; omega
          have hk6 : Kp (fun q => vI.ownBlock = some q) _ w6 := (Kp.refl _ _).grown hg6 (fun k _ e => e)
          have hx6 : w6.heap[w.heap.size + 2]? = some (.cells (vcs t vy vK vI) 29 (0, 0)) := (hk6.block _ (blk_lt HTZ.out.x) hne6).trans HTZ.out.x
          have c12 : w6.cell? ⟨w.heap.size + 1 + 1, 12, none⟩ = some vI := blk_cell (j := 12) hx6 rfl
          have f12 : w6.frozen? ⟨w.heap.size + 1 + 1, 12, none⟩ = false := blk_frozen 12 hx6
          have hS6 : S13 w cs w6 := ⟨HTZ.out.b.trans (hk6.below HTZ.out.b.size (fun q e => by have := HTZ.out.o.lt q e; omega)), (hk6.block _ (blk_lt HTZ.out.p) (fun e => by have := HTZ.out.o.lt _ e; omega)).trans HTZ.out.p⟩
          refine (Hid.out hK) _ _ hS6 (fun hS7 => ?_)
          clear hK K hg6 hq6 ho6 hx6 hS6 hne6 hk6
          (try simp only [Act.put]); (try simp only [List.setIfInBounds_toArray, List.set_cons_zero, List.set_cons_succ])
          refine heldTake 11 _ rfl (by kernel_rfl) (by kernel_rfl) (by kernel_rfl) (fun _ _ _ h => h) rfl hS7 (fun wy hy => by first | (go_simp; done) | (go_simp; rfl) | rfl) ?_
          (try simp only [Act.put]); (try simp only [List.setIfInBounds_toArray, List.set_cons_zero, List.set_cons_succ])
          refine heldStep 12 rfl (by kernel_rfl) (fun K hK => ?_)
          go_simp
          refine (Hid.out hK) _ _ ⟨HT6.out.b, HT6.out.p⟩ (fun hS8 => ?_)
          clear hK K
          (try simp only [Act.put]); (try simp only [List.setIfInBounds_toArray, List.set_cons_zero, List.set_cons_succ])
          refine heldDone (by kernel_rfl) ?_
          clear hS7 hS8 c12 f12
          go_wp2_with fail
          go_roundw
          case rel => exact ⟨i + 1, _, _, _, _, _, by omega, by go_num, HT6, ⟨by have := HN.out.1; simp; omega, HK2.out⟩, HI2.out t' HTR.out⟩
          case measure => simp [intOf]; omega
        · as_aux_lemma =>
          go_simp
          refine (HCL.out _ HTD.out).mono ?_
          rintro e w5 ⟨c, t', rfl, hc5, htr, hb5⟩
          have HTR := hide htr
          have HT5 := hide (HTD.out.next hb5)
          have HC13 := hide hc5.tin.size13
          have HON : Hid (one13 c) := ⟨HC13.out, fun x hx => by have h := hc5.tin.all1; rw [Array.all_eq_true_iff_forall_mem] at h; exact h x (by simpa using hx)⟩
          have HTZ := hide (HT5.out.next (below_alloc4 w5 (.cells c 29)))
          have HGB := hide (heap_alloc_new w5 (.cells c 29))
          have HCZ := hide (hc5.kp (Kp.of_below (below_alloc4 w5 (.cells c 29))))
          clear htr hc5 hb5
          have x12 : w5.cell? ⟨w.heap.size + 1 + 1, 12, none⟩ = some vI := blk_cell (j := 12) HT5.out.x rfl
          have x13 : (w5.alloc (.cells c 29)).cell? ⟨w.heap.size + 1 + 1, 12, none⟩ = some vI := blk_cell (j := 12) HTZ.out.x rfl
          refine (Shut.out hK) _ _ ⟨HT5.out.b, HT5.out.p⟩ (fun hS3 => ?_)
          clear hK K hS
          (try simp only [Act.put]); (try simp only [List.setIfInBounds_toArray, List.set_cons_zero, List.set_cons_succ])
          refine wpAnyH_ready (rs := [1, 9]) (by kernel_rfl) (by simp) ?_
          refine AllReadyH.cons rfl (fun K hK => ?_) (AllReadyH.cons rfl (fun K hK => ?_) AllReadyH.nil)
          · as_aux_lemma =>
            go_simp
            refine (Shut.out hK) _ _ hS3 (fun hS2 => ?_)
            clear hK K hS2 x12 x13
            (try simp only [Act.put]); (try simp only [List.setIfInBounds_toArray, List.set_cons_zero, List.set_cons_succ])
            refine heldStep 9 rfl (by kernel_rfl) (fun K hK => ?_)
            refine step_val1 rfl rfl c HC13.out rfl ?_
            refine (Hid.out hK) _ _ ⟨HTZ.out.b, HTZ.out.p⟩ (fun hS4 => ?_)
            clear hK K hS4
            (try simp only [Act.put]); (try simp only [List.setIfInBounds_toArray, List.set_cons_zero, List.set_cons_succ])
            refine heldStep 10 rfl (by kernel_rfl) (fun K hK => ?_)
            refine step_append_val rfl _ _ rfl (w.heap.size + 3) vI L.length (vfl L) rfl HTZ.out.o _ c HON.out rfl HGB.out (by have h1 := HTZ.out.n; have h2 := HN.out.1; have h3 := HML.out; omega) (by have := blk_lt HTZ.out.x; omega) (fun v6 w6 ho6 hg6 hq6 => ?_)
            obtain ⟨a6, c6, hv6⟩ := own_slice ho6
            subst hv6
            have HT6 : Hid (Tur w (w6.setCell ⟨w.heap.size + 1 + 1, 12, none⟩ (.slice a6 (L.length + 1) c6)) S cs t vy vK (.slice a6 (L.length + 1) c6) kk (ms ++ [t']) (L ++ [c])) := HTZ.out.addi HON.out HCZ.out ho6 hg6 hq6
            have hne6 : ¬ vI.ownBlock = some (w.heap.size + 2) := fun e => by have := HTZ.out.o.lt _ e; omega
            have hk6 : Kp (fun q => vI.ownBlock = some q) _ w6 := (Kp.refl _ _).grown hg6 (fun k _ e => e)
            have hx6 : w6.heap[w.heap.size + 2]? = some (.cells (vcs t vy vK vI) 29 (0, 0)) := (hk6.block _ (blk_lt HTZ.out.x) hne6).trans HTZ.out.x
            have c12 : w6.cell? ⟨w.heap.size + 1 + 1, 12, none⟩ = some vI := blk_cell (j := 12) hx6 rfl
            have f12 : w6.frozen? ⟨w.heap.size + 1 + 1, 12, none⟩ = false := blk_frozen 12 hx6
            have hS6 : S13 w cs w6 := ⟨HTZ.out.b.trans (hk6.below HTZ.out.b.size (fun q e => by have := HTZ.out.o.lt q e; omega)), (hk6.block _ (blk_lt HTZ.out.p) (fun e => by have := HTZ.out.o.lt _ e; omega)).trans HTZ.out.p⟩
            refine (Hid.out hK) _ _ hS6 (fun hS7 => ?_)
            clear hK K hg6 hq6 ho6 hx6 hS6 hne6 hk6
            (try simp only [Act.put]); (try simp only [List.setIfInBounds_toArray, List.set_cons_zero, List.set_cons_succ])
            refine heldTake 11 _ rfl (by kernel_rfl) (by kernel_rfl) (by kernel_rfl) (fun _ _ _ h => h) rfl hS7 (fun wy hy => by first | (go_simp; done) | (go_simp; rfl) | rfl) ?_
            (try simp only [Act.put]); (try simp only [List.setIfInBounds_toArray, List.set_cons_zero, List.set_cons_succ])
            refine heldStep 12 rfl (by kernel_rfl) (fun K hK => ?_)
            go_simp
            refine (Hid.out hK) _ _ ⟨HT6.out.b, HT6.out.p⟩ (fun hS8 => ?_)
            clear hK K
            (try simp only [Act.put]); (try simp only [List.setIfInBounds_toArray, List.set_cons_zero, List.set_cons_succ])
            refine heldDone (by kernel_rfl) ?_
            clear hS7 hS8 c12 f12
            go_wp2_with fail
            go_roundw
            case rel => exact ⟨i + 1, _, _, _, _, _, by omega, by go_num, HT6, ⟨by have := HN.out.1; simp; omega, HK2.out⟩, HI2.out t' HTR.out⟩
            case measure => simp [intOf]; omega
          · as_aux_lemma =>
            refine step_val1 rfl rfl c HC13.out rfl ?_
            refine (Shut.out hK) _ _ ⟨HTZ.out.b, HTZ.out.p⟩ (fun hS4 => ?_)
            clear hK K hS3
            (try simp only [Act.put]); (try simp only [List.setIfInBounds_toArray])
            refine heldStep 1 rfl (by kernel_rfl) (fun K hK => ?_)
            go_simp
            refine (Hid.out hK) _ _ hS4 (fun hS2 => ?_)
            clear hK K hS2 x12 x13 hS4
            (try simp only [Act.put]); (try simp only [List.setIfInBounds_toArray, List.set_cons_zero, List.set_cons_succ])
            refine heldStep 10 rfl (by kernel_rfl) (fun K hK => ?_)
            refine step_append_val rfl _ _ rfl (w.heap.size + 3) vI L.length (vfl L) rfl HTZ.out.o _ c HON.out rfl HGB.out (by have h1 := HTZ.out.n; have h2 := HN.out.1; have h3 := HML.out; omega) (by have := blk_lt HTZ.out.x; omega) (fun v6 w6 ho6 hg6 hq6 => ?_)
            obtain ⟨a6, c6, hv6⟩ := own_slice ho6
            subst hv6
            have HT6 : Hid (Tur w (w6.setCell ⟨w.heap.size + 1 + 1, 12, none⟩ (.slice a6 (L.length + 1) c6)) S cs t vy vK (.slice a6 (L.length + 1) c6) kk (ms ++ [t']) (L ++ [c])) := HTZ.out.addi HON.out HCZ.out ho6 hg6 hq6
            have hne6 : ¬ vI.ownBlock = some (w.heap.size + 2) := fun e => by have := HTZ.out.o.lt _ e; omega
            have hk6 : Kp (fun q => vI.ownBlock = some q) _ w6 := (Kp.refl _ _).grown hg6 (fun k _ e => e)
            have hx6 : w6.heap[w.heap.size + 2]? = some (.cells (vcs t vy vK vI) 29 (0, 0)) := (hk6.block _ (blk_lt HTZ.out.x) hne6).trans HTZ.out.x
            have c12 : w6.cell? ⟨w.heap.size + 1 + 1, 12, none⟩ = some vI := blk_cell (j := 12) hx6 rfl
            have f12 : w6.frozen? ⟨w.heap.size + 1 + 1, 12, none⟩ = false := blk_frozen 12 hx6
            have hS6 : S13 w cs w6 := ⟨HTZ.out.b.trans (hk6.below HTZ.out.b.size (fun q e => by have := HTZ.out.o.lt q e; omega)), (hk6.block _ (blk_lt HTZ.out.p) (fun e => by have := HTZ.out.o.lt _ e; omega)).trans HTZ.out.p⟩
            refine (Hid.out hK) _ _ hS6 (fun hS7 => ?_)
            clear hK K hg6 hq6 ho6 hx6 hS6 hne6 hk6
            (try simp only [Act.put]); (try simp only [List.setIfInBounds_toArray, List.set_cons_zero, List.set_cons_succ])
            refine heldTake 11 _ rfl (by kernel_rfl) (by kernel_rfl) (by kernel_rfl) (fun _ _ _ h => h) rfl hS7 (fun wy hy => by first | (go_simp; done) | (go_simp; rfl) | rfl) ?_
            (try simp only [Act.put]); (try simp only [List.setIfInBounds_toArray, List.set_cons_zero, List.set_cons_succ])
            refine heldStep 12 rfl (by kernel_rfl) (fun K hK => ?_)
            go_simp
            refine (Hid.out hK) _ _ ⟨HT6.out.b, HT6.out.p⟩ (fun hS8 => ?_)
            clear hK K
            (try simp only [Act.put]); (try simp only [List.setIfInBounds_toArray, List.set_cons_zero, List.set_cons_succ])
            refine heldDone (by kernel_rfl) ?_
            clear hS7 hS8 c12 f12
            go_wp2_with fail
            go_roundw
            case rel => exact ⟨i + 1, _, _, _, _, _, by omega, by go_num, HT6, ⟨by have := HN.out.1; simp; omega, HK2.out⟩, HI2.out t' HTR.out⟩
            case measure => simp [intOf]; omega
    · as_aux_lemma =>
      have g1 : ¬ (i : Int) < (t.is.length : Int) := by omega
      have hie : i = t.is.length := by omega
      have HV1 : Hid (∀ j u, (vcs t vy vK vI)[j]? = some u → wr.cell? ⟨w.heap.size + 1 + 1, 0 + j, none⟩ = some u) := fun j u hu => by rw [Nat.zero_add]; exact blk_cell HT.out.x hu
      have HRR : Hid (wr.heap[w.heap.size + 1]? = some (.cells zv 29 (0, 0))) := HT.out.r
      have hkr := row_kp wr (w.heap.size + 1) (vcs t vy vK vI)
      have HEN : Hid ((wr.setRow (w.heap.size + 1) (vcs t vy vK vI)).heap[w.heap.size + 1]? = some (.cells (vcs t vy vK vI) 29 (0, 0))) := row_same HRR.out
      have hbs := HT.out.b.size
      have HBZ : Hid (Below w.heap.size w (wr.setRow (w.heap.size + 1) (vcs t vy vK vI))) := HT.out.b.trans (hkr.below hbs (fun q e => by omega))
      obtain ⟨t', ht'⟩ : ∃ t', t' = Tv.mk t.k t.f t.g t.n t.b t.s t.y t.l kk ms := ⟨_, rfl⟩
      have HTR : Hid (Trn t t') := by
        subst ht'
        by_cases h9 : t.k = 9
        · refine Trn.map t _ (trp n t.is.length) h9 ⟨rfl, rfl, rfl, rfl, rfl, rfl, rfl, rfl⟩ (trp_perm n _) ?_ ?_ ?_
          · show kk = _
            have h1 := HN.out.2
            rw [if_pos h9, hie] at h1
            rw [h1]
            unfold trp
            rw [HPL.out]
            simp only [if_pos h9]
          · show ms.length = _
            rw [HN.out.1, hie]
          · intro j p u v hp hu hv
            have hjl := (List.getElem?_eq_some_iff.1 hp).1
            rw [perm_len (trp_perm n _)] at hjl
            rw [trp_at hjl] at hp
            injection hp with hp
            refine HI.out j u v (by omega) ?_ hv
            rw [HPL.out]
            simp only [if_pos h9]
            rw [hp]
            exact hu
        · refine Trn.rest t _ h9 ⟨rfl, rfl, rfl, rfl, rfl, rfl, rfl, rfl⟩ ?_ ?_ ?_
          · show kk = t.ks
            have h1 := HN.out.2
            rw [if_neg h9] at h1
            rw [h1, HTK.out.e h9]
          · show ms.length = _
            rw [HN.out.1, hie]
          · intro j u v hu hv
            have hjl := (List.getElem?_eq_some_iff.1 hu).1
            refine HI.out j u v (by omega) ?_ hv
            rw [HPL.out]
            simp only [if_neg h9]
            exact hu
      have HTS : Hid (Tis (wr.setRow (w.heap.size + 1) (vcs t vy vK vI)) S t' (vcs t vy vK vI)) := by
        subst ht'
        refine HT.out.tis HBD.out HBY.out HYS.out HSS.out hkr ?_ ?_ ?_
        · intro s hs
          have h1 := HN.out.2
          by_cases h9 : t.k = 9
          · rw [if_pos h9] at h1
            rw [h1] at hs
            obtain ⟨p, hp, rfl⟩ := List.mem_map.1 hs
            by_cases hpl : p < t.ks.length
            · exact HKZ.out _ (by simp [List.getD, List.getElem?_eq_getElem hpl])
            · rw [List.getD_eq_getElem?_getD, List.getElem?_eq_none (by omega)]
              decide
          · rw [if_neg h9] at h1
            rw [h1] at hs
            simp at hs
        · have h1 := HN.out.2
          have h2 := HML.out
          by_cases h9 : t.k = 9
          · rw [if_pos h9] at h1
            rw [h1, pickS_len]
            simp
            omega
          · rw [if_neg h9] at h1
            rw [h1]
            simp
        · have := HN.out.1
          omega
      have HAL : Hid ((vcs t vy vK vI).all (·.oneCell') = true) := HTS.out.tin.all1
      clear hie HI hkr hbs ht'
      go_wp2_with (first
        | (refine wpList_valAt rfl rfl (w.heap.size + 1 + 1) 0 (vcs t vy vK vI) rfl rfl HV1.out ?_)
        | (refine wpList_storeRow rfl rfl (w.heap.size + 1) zv (vcs t vy vK vI) 29 rfl rfl HRR.out infoV rfl HAL.out ?_))
      exact bodyPost_ret (end_tu rfl HEN.out rfl) rfl ⟨_, rfl, t', HTS.out, HTR.out, HBZ.out⟩
theorem turned_any (n : Nat) (hn : n ≤ 1000) (t : Tv) : TurC n t := by
  have h : ∀ N, ∀ t : Tv, SizeOf.sizeOf t = N → TurC n t := by
    intro N
    induction N using Nat.strongRecOn with
    | _ N ih => exact fun t hN => turned_step n hn t (fun u hu => ih _ (by rw [← hN]; exact Tv.is_lt hu) u rfl)
  exact h _ t rfl
end
section
open Go.RowKit Go
/-- The keys of each map rise. -/
inductive Rise : Tv → Prop
  | mk (t : Tv) (hk : ∀ (i : Nat) (s s' : ByteArray), t.ks[i]? = some s → t.ks[i + 1]? = some s' → bfr (sl s) (sl s') = true) (hi : ∀ u ∈ t.is, Rise u) : Rise t
theorem Rise.k {t : Tv} (h : Rise t) : ∀ (i : Nat) (s s' : ByteArray), t.ks[i]? = some s → t.ks[i + 1]? = some s' → bfr (sl s) (sl s') = true := by
  cases h with
  | mk _ a b => exact a
theorem Rise.i {t : Tv} (h : Rise t) : ∀ u ∈ t.is, Rise u := by
  cases h with
  | mk _ a b => exact b
theorem bfr_asym6 {x y : List Nat} (h : bfr x y = true) : bfr y x = false := by
  rcases Bool.eq_false_or_eq_true (bfr y x) with h2 | h2
  · have := bfr_tr _ _ _ h h2
    rw [bfr_self] at this
    exact absurd this (by simp)
  · exact h2
theorem srt_rise {t s : Tv} (h : SrtR t s) : Trk t → Rise s := by
  induction h with
  | rest t s h9 hT hk hn hi ih =>
    intro ht
    refine Rise.mk s (fun i a b ha => ?_) fun v hv => ?_
    · rw [hk, ht.e h9] at ha
      simp at ha
    · obtain ⟨i, hv⟩ := List.getElem?_of_mem hv
      have hl := (List.getElem?_eq_some_iff.1 hv).1
      have e := List.getElem?_eq_getElem (show i < t.is.length by omega)
      exact ih i _ _ e hv (ht.i _ (List.mem_of_getElem? e))
  | map t s ps h9 hT hp hk hn hi ih =>
    intro ht
    obtain ⟨hlen, hnd, _⟩ := ht.m h9
    have hpl := hp.len
    refine Rise.mk s (fun i a b ha hb => ?_) fun v hv => ?_
    · have hbl := (List.getElem?_eq_some_iff.1 hb).1
      rw [hk, pickS_len] at hbl
      have e1 := List.getElem?_eq_getElem (show i < ps.length by omega)
      have e2 := List.getElem?_eq_getElem hbl
      rw [hk, pickS_at e1] at ha
      rw [hk, pickS_at e2] at hb
      injection ha with ha
      injection hb with hb
      subst ha hb
      have h1 := hp.s i (i + 1) _ _ (by omega) e1 e2
      rcases Bool.eq_false_or_eq_true (bfr (sl (t.ks.getD ps[i] ⟨#[]⟩)) (sl (t.ks.getD ps[i + 1] ⟨#[]⟩))) with h2 | h2
      · exact h2
      · have e := sl_inj (bfr_tot h2 h1)
        have l1 := hp.lt _ (List.mem_of_getElem? e1)
        have l2 := hp.lt _ (List.mem_of_getElem? e2)
        have h3 := nodup_at hnd (by omega) (by omega) e
        have hn2 : ps.Nodup := hp.p.nodup_iff.2 List.nodup_range
        have := (List.getElem_inj hn2).1 h3
        omega
    · obtain ⟨i, hv⟩ := List.getElem?_of_mem hv
      have hl := (List.getElem?_eq_some_iff.1 hv).1
      have e0 := List.getElem?_eq_getElem (show i < ps.length by omega)
      have hlt := perm_lt hp.p e0
      have e := List.getElem?_eq_getElem (show ps[i] < t.is.length by omega)
      exact ih i _ _ _ e0 e hv (ht.i _ (List.mem_of_getElem? e))
def RisC (t : Tv) : Prop := ∀ (w : World) (cs : Array Value), Tin w t cs → Rise t → Calls Tryd.prog 17 #[.agg cs] w fun e w' => e = .returned (.bool true) ∧ Below w.heap.size w w'
set_option maxRecDepth 1000000 in
set_option maxHeartbeats 2000000 in
theorem rising_step (t : Tv) (ih : ∀ u ∈ t.is, RisC u) : RisC t := by
  intro w cs ht hr
  have HIH := hide ih
  have HRK := hide hr.k
  have HRI := hide hr.i
  clear ih hr
  obtain ⟨vy, vk, vi, rfl, hy, hk, hv, hb⟩ := ht.parts
  obtain ⟨⟨ak, ck, rfl, _, hkf⟩, hkm, _⟩ := hk
  obtain ⟨⟨ai, ci, rfl, _, hfi⟩, hmi⟩ := hv
  have HKF := hide hkf
  have HFI := hide hfi
  have HC11 : Hid ((vcs t vy (.slice ak t.ks.length ck) (.slice ai t.is.length ci))[11]? = some (.slice ak t.ks.length ck)) := rfl
  have HC12 : Hid ((vcs t vy (.slice ak t.ks.length ck) (.slice ai t.is.length ci))[12]? = some (.slice ai t.is.length ci)) := rfl
  generalize vcs t vy (.slice ak t.ks.length ck) (.slice ai t.is.length ci) = cs at *
  clear ht hy hkf hfi hb
  have HQ0 : Hid (Aln w (w.alloc (.cells cs 29)) cs) := box_mk0 w _
  go_enter Tryd.func17, Tryd.ntmps17
  go_wp2_with fail
  generalize w.alloc (.cells cs 29) = w1 at *
  go_loopw [3] (fun ii wx => ∃ k : Nat, k ≤ t.ks.length ∧ ii = .int .i64 ((k : Int) + 1) ∧ Hid (Aln w wx cs)) (fun ii _ => t.ks.length + 1 - (intOf ii).toNat)
  case atStart => exact ⟨0, by omega, rfl, HQ0⟩
  case round =>
    obtain ⟨k, hk1, rfl, HQ⟩ := hrel
    clear HQ0
    have x1 : wr.cell? ⟨w.heap.size, 11, none⟩ = some (.slice ak t.ks.length ck) := blk_cell HQ.out.2 HC11.out
    by_cases hlt : k + 1 < t.ks.length
    · as_aux_lemma =>
      have g1 : (k : Int) + 1 < (t.ks.length : Int) := by omega
      have g3 : (k : Int) < (t.ks.length : Int) := by omega
      obtain ⟨s, hs⟩ : ∃ s, t.ks[k]? = some s := ⟨t.ks[k], List.getElem?_eq_getElem (by omega)⟩
      obtain ⟨s', hs'⟩ : ∃ s, t.ks[k + 1]? = some s := ⟨t.ks[k + 1], List.getElem?_eq_getElem hlt⟩
      obtain ⟨b, off, rfl, hc⟩ := HKF.out.resolve_left (fun h => by rw [h] at hlt; simp at hlt)
      have hb1 := HRK.out k s s' hs hs'
      have HB1 : Hid (∀ t' : Ext wr, Calls Tryd.prog 23 #[.string s, .string s'] t'.w' fun e w'' => e = .returned (.bool true) ∧ ∃ t2 : Ext wr, w'' = t2.w') := fun t' => by
        have h := before_any s s' t'.w'
        rw [hb1] at h
        exact Calls.ext_same h
      have HB2 : Hid (∀ t' : Ext wr, Calls Tryd.prog 23 #[.string s', .string s] t'.w' fun e w'' => e = .returned (.bool false) ∧ ∃ t2 : Ext wr, w'' = t2.w') := fun t' => by
        have h := before_any s' s t'.w'
        rw [bfr_asym6 hb1] at h
        exact Calls.ext_same h
      have c1 : ∀ t' : Ext wr, t'.w'.cell? ⟨b, off + k, none⟩ = some (.string s) := fun t' => keep_below t'.h _ _ (keep_below HQ.out.1 _ _ (hc k s hs))
      have c2 : ∀ t' : Ext wr, t'.w'.cell? ⟨b, off + (k + 1), none⟩ = some (.string s') := fun t' => keep_below t'.h _ _ (keep_below HQ.out.1 _ _ (hc (k + 1) s' hs'))
      have x2 : ∀ t' : Ext wr, t'.w'.cell? ⟨w.heap.size, 11, none⟩ = some (.slice (some ⟨b, off, none⟩) t.ks.length ck) := fun t' => Ext.cell (blk_cell HQ.out.2 HC11.out) t'
      have g6 : (0 : Int) ≤ (k : Int) + 1 := by omega
      have wk : IntKind.i64.wrap (k : Int) = (k : Int) := by rw [IntKind.wrap_i64]; omega
      clear hs hs' hc hb1
      go_wp2_with fail
      refine region_ext (by kernel_rfl) (by kernel_rfl) ?_
      repeat (
        with_reducible refine wpQuiet_step (fun K hK => ?_)
        go_simp
        first
          | (with_reducible refine hK _ ?_; clear hK K)
          | (apply Exists.intro
             refine ⟨fun _ => ?_, hK _ ?_⟩
             (first
               | (go_at_call 23; with_reducible exact HB1.out _)
               | (go_at_call 23; with_reducible exact HB2.out _))
             clear hK K))
      refine wpQuiet_nil ?_
      rintro _ ⟨tq, rfl⟩
      have HQN := hide (HQ.out.next tq.h)
      clear c1 c2 x2 HB1 HB2
      go_wp2_with fail
      go_roundw
      case rel => exact ⟨k + 1, by omega, by go_num, HQN⟩
      case measure => simp [intOf]; omega
    · have g1 : ¬ (k : Int) + 1 < (t.ks.length : Int) := by omega
      go_wp2_with fail
      go_loopw [4] (fun ii wx => ∃ i : Nat, i ≤ t.is.length ∧ ii = .int .i64 (i : Nat) ∧ Hid (Aln w wx cs)) (fun ii _ => t.is.length - (intOf ii).toNat)
      case atStart => exact ⟨0, by omega, rfl, HQ⟩
      case round =>
        rename World => wz
        obtain ⟨i, hi, rfl, HQ2⟩ := hrel
        clear HQ x1
        have x1 : wz.cell? ⟨w.heap.size, 12, none⟩ = some (.slice ai t.is.length ci) := blk_cell HQ2.out.2 HC12.out
        by_cases hli : i < t.is.length
        · as_aux_lemma =>
          have g5 : (i : Int) < (t.is.length : Int) := by omega
          obtain ⟨u, hu⟩ : ∃ u, t.is[i]? = some u := ⟨t.is[i], List.getElem?_eq_getElem hli⟩
          obtain ⟨b, off, rfl, hcells⟩ := HFI.out.resolve_left (fun h => by rw [h] at hli; simp at hli)
          obtain ⟨cu, tu, hcu⟩ := hcells i u hu
          have HCC : Hid (∀ j v, cu[j]? = some v → wz.cell? ⟨b, off + i * 13 + j, none⟩ = some v) := fun j v hv => keep_below HQ2.out.1 _ _ (hcu j v hv)
          have HZ1 := hide tu.size13
          have HCA := hide (HIH.out u (List.mem_of_getElem? hu) wz cu (tu.move (keep_below HQ2.out.1)) (HRI.out u (List.mem_of_getElem? hu)))
          clear hu hcells tu hcu
          go_wp2_with (refine wpList_valAt rfl rfl b (off + i * 13) cu rfl HZ1.out HCC.out ?_)
          refine HCA.out.mono ?_
          rintro e w5 ⟨rfl, hb5⟩
          have HQ5 := hide (HQ2.out.next hb5)
          clear hb5 HQ2 HCC HCA x1
          go_wp2_with fail
          go_roundw
          case rel => exact ⟨i + 1, by omega, by go_num, HQ5⟩
          case measure => simp [intOf]; omega
        · as_aux_lemma =>
          have g5 : ¬ (i : Int) < (t.is.length : Int) := by omega
          go_wp2_with fail
          go_ret
          exact ⟨rfl, HQ2.out.1⟩
theorem rising_any (t : Tv) : RisC t := by
  have h : ∀ N, ∀ t : Tv, SizeOf.sizeOf t = N → RisC t := by
    intro N
    induction N using Nat.strongRecOn with
    | _ N ih => exact fun t hN => rising_step t (fun u hu => ih _ (by rw [← hN]; exact Tv.is_lt hu) u rfl)
  exact h _ t rfl
end
end Go.Proofs.YtibcepokeaaoiabDoor
