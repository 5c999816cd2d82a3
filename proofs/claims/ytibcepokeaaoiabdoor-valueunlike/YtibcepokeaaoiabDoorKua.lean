import Derived.Test.YtibcepokeaaoiabDoorJj
import Derived.LaidLaws
import Derived.Handed
import Derived.Lib.LaidTab
import Derived.Great.BuildSlice
import Derived.Great.FillDense
import Derived.Maps.AppendAt
namespace Go.Proofs.YtibcepokeaaoiabDoor
section
open Go.ChangeShapes Go.WideShapes Go.ChangeAt Go.RowKit Go
/-- What the rows lay. -/
def kki : List Int := kk.map fun n => ((n : Nat) : Int)
theorem cellsU32 : Tryd.prog.cellsOf 94 = 1 := by kernel_rfl
end
section
open Go.ChangeShapes Go.WideShapes Go.ChangeAt Go.RowKit Go.Deep Go.Joins Go

end
section
open Go.ChangeShapes Go.WideShapes Go.ChangeAt Go.RowKit Go.Deep Go.Joins Go
/-- A slice of uint64. -/
structure U64In (w : World) (v : Value) (hs : List Nat) : Prop where
  form : ∃ a c, v = .slice a hs.length c ∧ (hs = [] ∨ ∃ b off, a = some ⟨b, off, none⟩ ∧ ∀ j, j < hs.length → w.cell? ⟨b, off + j, none⟩ = some (.int .u64 ((hs.getD j 0 : Nat) : Int)))
  lt : ∀ x ∈ hs, x < 18446744073709551616
  max : hs.length ≤ 9223372036854775807
theorem U64In.move {w w' : World} {v : Value} {hs : List Nat} (h : U64In w v hs) (hm : ∀ p u, w.cell? p = some u → w'.cell? p = some u) : U64In w' v hs := by
  obtain ⟨⟨a, c, hv, hc⟩, h1, h2⟩ := h
  refine ⟨⟨a, c, hv, ?_⟩, h1, h2⟩
  rcases hc with hc | ⟨b, off, ha, hc⟩
  · exact .inl hc
  · exact .inr ⟨b, off, ha, fun j hj => hm _ _ (hc j hj)⟩
/-- The cells of links in a row. -/
def fcl (rs : List Lk) : List Value := rs.flatMap fun l => (lcs l).toList
theorem fcl_app (a b : List Lk) : fcl (a ++ b) = fcl a ++ fcl b := by simp [fcl]
theorem fcl_len : ∀ rs : List Lk, (fcl rs).length = rs.length * 4
  | [] => rfl
  | r :: rs => by
    have h := fcl_len rs
    have e : fcl (r :: rs) = (lcs r).toList ++ fcl rs := by simp [fcl]
    rw [e, List.length_append, h, List.length_cons]
    have : (lcs r).toList.length = 4 := rfl
    omega
theorem fcl_get : ∀ (rs : List Lk) (k : Nat) (l : Lk) (j : Nat) (u : Value), rs[k]? = some l → (lcs l)[j]? = some u → (fcl rs)[k * 4 + j]? = some u
  | [], k, l, j, u, h, _ => by simp at h
  | r :: rs, 0, l, j, u, h, hu => by
    simp at h
    subst h
    have e : fcl (r :: rs) = (lcs r).toList ++ fcl rs := by simp [fcl]
    have hj : j < (lcs r).size := by
      rcases Array.getElem?_eq_some_iff.1 hu with ⟨hj, _⟩
      exact hj
    rw [e, List.getElem?_append_left (by simpa using hj)]
    simpa using hu
  | r :: rs, k + 1, l, j, u, h, hu => by
    simp at h
    have e : fcl (r :: rs) = (lcs r).toList ++ fcl rs := by simp [fcl]
    have h4 : (lcs r).toList.length = 4 := rfl
    rw [e, List.getElem?_append_right (by omega)]
    have e2 : (k + 1) * 4 + j - (lcs r).toList.length = k * 4 + j := by omega
    rw [e2]
    exact fcl_get rs k l j u h hu
theorem fcl_one (rs : List Lk) : ∀ u ∈ fcl rs, u.oneCell' = true := by
  intro u hu
  simp only [fcl, List.mem_flatMap] at hu
  obtain ⟨l, _, hl⟩ := hu
  simp only [lcs, List.mem_cons, List.not_mem_nil, or_false] at hl
  rcases hl with rfl | rfl | rfl | rfl <;> rfl
theorem infoLk_ex : ∃ i, Tryd.prog.info? 25 = some i ∧ i.zero = some (.agg zlk) ∧ i.size = 4 ∧ i.bytes = 40 := by
  have h : (Tryd.prog.info? 25).map (fun i => (i.zero, i.size, i.bytes)) = some (some (.agg zlk), 4, 40) := by kernel_rfl
  cases hi : Tryd.prog.info? 25 with
  | none => rw [hi] at h; cases h
  | some i =>
    rw [hi] at h
    injection h with h
    injection h with h1 h2
    injection h2 with h2 h3
    exact ⟨i, rfl, h1, h2, h3⟩
theorem zip_parts (rs : List Lk) (i0 : Nat) : (rs.map lkv).zipIdx i0 = (rs.zipIdx i0).map fun x => (lkv x.1, x.2) := by
  rw [List.zipIdx_map]
  rfl
theorem fill_lks (rs : List Lk) (cells : Array Value) (hc : cells.size = rs.length * 4) : Instr.fill (fun i => some (i * 4, 4)) cells ((rs.zipIdx 0).map fun x => (x.2, lkv x.1)) = some (fcl rs).toArray := by
  obtain ⟨r, hr, hsz, hk⟩ := Great.fill_dense (s := 4) (by decide) (rs.map lkv) 0 cells (by
    intro v hv
    simp only [List.mem_map] at hv
    obtain ⟨l, _, rfl⟩ := hv
    rfl) (by rw [List.length_map, hc]; omega)
  have e : r = (fcl rs).toArray := by
    apply Array.ext_getElem?
    intro k
    have et : (fcl rs).toArray[k]? = (fcl rs)[k]? := List.getElem?_toArray
    rw [hk k, List.length_map, et]
    by_cases h : k < rs.length * 4
    · rw [if_pos ⟨by omega, by omega⟩, Nat.sub_zero, List.getElem?_map]
      have h4 : k / 4 < rs.length := by omega
      rw [List.getElem?_eq_getElem h4]
      simp only [Option.map_some, Option.bind_some]
      have hx : ∃ u, (lcs rs[k / 4])[k % 4]? = some u := by
        have : k % 4 < (lcs rs[k / 4]).size := by show k % 4 < 4; omega
        exact ⟨_, Array.getElem?_eq_getElem this⟩
      obtain ⟨u, hu⟩ := hx
      have hg := fcl_get rs (k / 4) rs[k / 4] (k % 4) u (List.getElem?_eq_getElem h4) hu
      have ek : k / 4 * 4 + k % 4 = k := by omega
      rw [ek] at hg
      rw [hg]
      exact hu
    · rw [if_neg (by omega), Array.getElem?_eq_none (by omega), List.getElem?_eq_none (by rw [fcl_len]; omega)]
  rw [e] at hr
  rw [zip_parts, List.map_map] at hr
  exact hr
theorem big24 {n : Nat} (h : n ≤ 1000) : ¬ n * 4 > 2 ^ 24 := by
  have : (2 : Nat) ^ 24 = 16777216 := by decide
  omega
theorem wpList_lks {ops : Array Oper} {rest : List Oper} {o : Oper} {a : Act} {w : World} {Q : Exit → Act → World → Prop} (hg : o.guard = none) (n : Nat) (parts : Array (Nat × Operand)) (ho : o.op = .buildSlice 43 n parts) (rs : List Lk) (hn : rs.length = n) (h0 : 0 < n) (h8 : n ≤ 1000)
    (hx : (parts.map fun (i, x) => (i, a.eval x)).toList = (rs.zipIdx 0).map fun x => (x.2, lkv x.1))
    (h : wpList Tryd.prog ops Q rest (a.put o.dst (.slice (some ⟨w.heap.size, 0, none⟩) n n)) (w.alloc (.cells (fcl rs).toArray 25))) : wpList Tryd.prog ops Q (o :: rest) a w := by
  obtain ⟨i, hi, hz, hs, _⟩ := infoLk_ex
  refine wpList_buildSlice hg 43 25 n _ ho (fcl rs).toArray i _ Tryd.underlying43 hi hz (by rw [hs]; exact big24 h8) (by rw [hs]; omega) ?_ h
  rw [hs, hx]
  exact fill_lks rs _ (by simp [hn])
/-- append of one link. -/
theorem append_lk {ops : Array Oper} {rest : List Oper} {o : Oper} {a : Act} {Q : Exit → Act → World → Prop} {w : World} (hgd : o.guard = none) (s x : Operand)
    (ho : o.op = .call { callee := .builtin .append, args := #[s, x], argTypes := #[43, 43] }) (B : Nat) (v : Value) (n : Nat) (rs : List Lk) (hs : a.eval s = v) (hown : w.ownsRow B 25 4 v n (fcl rs))
    (g : Nat) (l : Lk) (hx : a.eval x = .slice (some ⟨g, 0, none⟩) 1 1) (hg : w.heap[g]? = some (.cells (fcl [l]).toArray 25 (0, 0))) (hlen : n < 1099511627776) (hbase : B ≤ w.heap.size)
    (h : ∀ v' w', w'.ownsRow B 25 4 v' (n + 1) (fcl (rs ++ [l])) → w.grownBy w' v.ownBlock → wpList Tryd.prog ops Q rest (a.put o.dst v') w') : wpList Tryd.prog ops Q (o :: rest) a w := by
  obtain ⟨i, hi, hz0, hz1, hz2⟩ := infoLk_ex
  refine wpList_append_own_at w hgd s x 43 ho B 25 i _ 4 40 Tryd.underlying43 hi hz0 hz1 hz2 rfl (by decide) v n (fcl rs) hs hown ⟨g, 0, none⟩ 1 1 (fcl [l]) hx (by rw [fcl_len]; rfl) (fun j u hu => ?_) (fcl_one [l]) (by unfold maxLen; omega) (by omega) hbase fun v' w' h1 h2 _ _ => h v' w' (by rw [fcl_app]; exact h1) h2
  have hadd : (⟨g, 0, none⟩ : Addr).add j = ⟨g, j, none⟩ := by unfold Addr.add; split <;> simp_all
  rw [hadd]
  exact blk_cell hg (by rw [List.getElem?_toArray]; exact hu)
theorem own_form4 {w : World} {B : Nat} {e : TypeId} {v : Value} {n : Nat} {xs : List Value} (h : w.ownsRow B e 4 v n xs) : ∃ a cap, v = .slice a n cap ∧ (0 < n → ∃ g, a = some ⟨g, 0, none⟩) := by
  rcases h.2 with ⟨rfl, h0⟩ | ⟨g, cap, cur, rfl, _⟩
  · exact ⟨none, 0, by rw [h0], fun hp => by omega⟩
  · exact ⟨_, cap, rfl, fun _ => ⟨g, rfl⟩⟩
theorem own_lk {w : World} {B g n cap k : Nat} {rs : List Lk} {l : Lk} (h : w.ownsRow B 25 4 (.slice (some ⟨g, 0, none⟩) n cap) n (fcl rs)) (hk : rs[k]? = some l) : ∀ j u, (lcs l)[j]? = some u → w.cell? ⟨g, k * 4 + j, none⟩ = some u := fun j u hu => by
  have := h.cells (g := g) rfl (k * 4 + j) u (fcl_get rs k l j u hk hu)
  have hadd : (⟨g, 0, none⟩ : Addr).add (k * 4 + j) = ⟨g, k * 4 + j, none⟩ := by unfold Addr.add; split <;> simp_all
  rw [hadd] at this
  exact this
theorem own_lks (w : World) (rs : List Lk) (hn : 0 < rs.length) (hx : rs.length ≤ 1000) : (w.alloc (.cells (fcl rs).toArray 25)).ownsRow w.heap.size 25 4 (.slice (some ⟨w.heap.size, 0, none⟩) rs.length rs.length) rs.length (fcl rs) :=
  ⟨fcl_len rs, .inr ⟨w.heap.size, rs.length, _, rfl, Nat.le_refl _, heap_alloc_new w _, Nat.le_refl _, by unfold maxLen; omega, by simp [fcl_len], by
    show (fcl rs).toArray.toList.take (rs.length * 4) = fcl rs
    rw [List.toList_toArray, ← fcl_len, List.take_length]⟩⟩
end
section
open Go.RowKit Go

end
section
open Go.RowKit Go
theorem cells_of {w : World} {d : Nat} {l : List Value} {t : TypeId} (h : w.heap[d]? = some (.cells l.toArray t (0, 0))) : w.rangeAt d 0 l := fun j v hv => by
  rw [Nat.zero_add]
  exact blk_cell h (by rw [List.getElem?_toArray]; exact hv)
theorem bslD_of {w : World} {d : Nat} {D : List Nat} {t : TypeId} (h : w.heap[d]? = some (.cells (bv D).toArray t (0, 0))) (hb : ∀ x ∈ D, x < 256) (hl : D.length = 32) : BSl w (.slice (some ⟨d, 0, none⟩) 32 32) D := by
  have h2 := bsl_block h hb (by rw [hl]; decide)
  rw [hl] at h2
  exact h2
theorem exec_text {o : Oper} {a : Act} {x : Operand} {xs : List Nat} {w : World} {v : Value} (ho : o.op = .convert 23 9 x) (hx : a.eval x = v) (h : BSl w v xs) : (execOp a.eval o).run Tryd.prog w = .ok (.value (.string (nstr xs))) w := by
  unfold execOp
  simp only [ho, Sem.run_bind, hx, h.text, Result.andThen_ok]
  rfl
theorem exec_loadLk {o : Oper} {a : Act} {p : Operand} {g : Nat} {cs : Array Value} {w : World} (ho : o.op = .load 25 p) (hp : a.eval p = .pointer (some ⟨g, 0, none⟩)) (hn : cs.size = 4) (hg : w.heap[g]? = some (.cells cs 25 (0, 0))) : (execOp a.eval o).run Tryd.prog w = .ok (.value (.agg cs)) w := by
  unfold execOp
  have hr : (Instr.loadAt 25 (.pointer (some ⟨g, 0, none⟩))).run Tryd.prog w = .ok (.agg cs) w := by
    simp only [Instr.loadAt, Instr.sureAddr, Sem.run_bind, Sem.run_pure, Result.andThen]
    exact run_loadVar_row (P := Tryd.prog) w g 25 25 cs (0, 0) _ hg Tryd.underlying25 rfl (by rw [hn]; exact info61)
  simp only [ho, Sem.run_bind, hp, hr, Result.andThen_ok]
  rfl
theorem bv_set2 (l : List Nat) (j x : Nat) : (bv l).set j (.int .u8 ((x : Nat) : Int)) = bv (l.set j x) := by simp [bv, List.map_set]
theorem flip_bit (q j : Nat) (hq : q < 256) (hj : j < 8) : ∃ z : Nat, bits .xor .u8 (q : Int) (2 ^ j % 256) = (z : Int) ∧ z < 256 ∧ z ≠ q := by
  have h2 : 2 ^ j < 256 := by
    have : 2 ^ j ≤ 2 ^ 7 := Nat.pow_le_pow_right (by decide) (by omega)
    have e : 2 ^ 7 = 128 := rfl
    omega
  have e : (2 : Int) ^ j % 256 = ((2 ^ j : Nat) : Int) := by
    rw [Int.emod_eq_of_lt (Int.pow_nonneg (by decide))]
    · rw [Int.natCast_pow]; rfl
    · have : ((2 ^ j : Nat) : Int) < 256 := by omega
      rw [Int.natCast_pow] at this
      exact this
  refine ⟨q ^^^ 2 ^ j, by rw [e, u8_xor_nat _ _ hq h2], Nat.xor_lt_two_pow (n := 8) hq h2, fun h => ?_⟩
  have h3 : q ^^^ 2 ^ j ^^^ q = 0 := by rw [h, Nat.xor_self]
  rw [Nat.xor_comm, ← Nat.xor_assoc, Nat.xor_self, Nat.zero_xor] at h3
  have : 0 < 2 ^ j := Nat.pow_pos (by decide)
  omega
theorem set_ne {D : List Nat} {k z q : Nat} (hk : k < D.length) (hq : D.getD k 0 = q) (hz : z ≠ q) : D.set k z ≠ D := fun e => hz (by
  have h2 := congrArg (fun l => l.getD k 0) e
  have h3 : (D.set k z).getD k 0 = z := by rw [List.getD_eq_getElem?_getD, List.getElem?_set_self hk, Option.getD_some]
  rw [← h3, ← hq]
  exact h2)
theorem mod256 (i : Nat) : (i : Int) % 256 = ((i % 256 : Nat) : Int) := by omega
theorem own_ok {xs : List Nat} : lok ⟨1, 85, 0, xs⟩ ↔ xs.length ≤ 64 := by
  constructor
  · rintro (⟨h, _⟩ | ⟨_, _, h | h⟩)
    · exact absurd (show (1 : Int) = 0 from h) (by decide)
    · exact absurd (show (0 : Nat) = 18 from h.1) (by decide)
    · exact h.2
  · exact fun h => .inr ⟨rfl, (by decide : 85 < 9223372036854775808), .inr ⟨rfl, h⟩⟩
theorem own_holds {xs ys : List Nat} : (decide (lok ⟨1, 85, 0, xs⟩) && dholds 0 xs ys) = (decide (xs.length ≤ 64) && decide (xs = ys)) := by
  unfold dholds
  by_cases h : xs.length ≤ 64
  · have h1 : lok ⟨1, 85, 0, xs⟩ := own_ok.2 h
    simp [h, h1]
  · have h1 : ¬ lok ⟨1, 85, 0, xs⟩ := fun e => h (own_ok.1 e)
    simp [h, h1]
end
section
open Go.RowKit Go
theorem Lnt.below4 {w w' : World} {base g cap : Nat} {xs : List Nat} (h : Lnt w base g cap xs) (hb : Below w.heap.size w w') : Lnt w' base g cap xs := h.kp (Kp.of_below (S := fun _ => False) hb) (fun h => h)
/-- A load of a link in a region that draws and then makes memory. -/
theorem still_loadLk {ops : Array Oper} {o : Oper} {a : Act} {K : Act → Prop} {p : Operand} {w : World} (hgd : Region.wanted o (yielded ops a.tmps) = true) (ho : o.op = .load 25 p) (g : Nat) (cs : Array Value)
    (hp : a.eval p = .pointer (some ⟨g, 0, none⟩)) (hn : cs.size = 4) (hg : w.heap[g]? = some (.cells cs 25 (0, 0)))
    (h : K (a.put o.dst (.agg cs))) : if Region.wanted o (yielded ops a.tmps) = true then o.still Tryd.prog a w K else K (a.put o.dst undef) := by
  rw [if_pos hgd]
  unfold Oper.still
  rw [exec_loadLk ho hp hn hg, Oper.stillUpon_value]
  exact h

theorem wpList_lks4 {ops : Array Oper} {rest : List Oper} {o : Oper} {a : Act} {w : World} {Q : Exit → Act → World → Prop} {x0 x1 x2 x3 : Operand} (hg : o.guard = none) (ho : o.op = .buildSlice 43 4 #[(0, x0), (1, x1), (2, x2), (3, x3)]) (r0 r1 r2 r3 : Lk)
    (h0 : a.eval x0 = lkv r0) (h1 : a.eval x1 = lkv r1) (h2 : a.eval x2 = lkv r2) (h3 : a.eval x3 = lkv r3)
    (h : wpList Tryd.prog ops Q rest (a.put o.dst (.slice (some ⟨w.heap.size, 0, none⟩) 4 4)) (w.alloc (.cells (fcl [r0, r1, r2, r3]).toArray 25))) : wpList Tryd.prog ops Q (o :: rest) a w :=
  wpList_lks hg 4 _ ho [r0, r1, r2, r3] rfl (by decide) (by decide) (by simp [h0, h1, h2, h3]) h
theorem wpList_lks1 {ops : Array Oper} {rest : List Oper} {o : Oper} {a : Act} {w : World} {Q : Exit → Act → World → Prop} {x0 : Operand} (hg : o.guard = none) (ho : o.op = .buildSlice 43 1 #[(0, x0)]) (r0 : Lk)
    (h0 : a.eval x0 = lkv r0)
    (h : wpList Tryd.prog ops Q rest (a.put o.dst (.slice (some ⟨w.heap.size, 0, none⟩) 1 1)) (w.alloc (.cells (fcl [r0]).toArray 25))) : wpList Tryd.prog ops Q (o :: rest) a w :=
  wpList_lks hg 1 _ ho [r0] rfl (by decide) (by decide) (by simp [h0]) h
end
section
open Go.RowKit Go
/-- The places of a value's items, in the form's order. -/
def pls (t : Tv) : List Nat := if t.k = 8 then List.range t.is.length else ordp t.ks (min t.ks.length t.is.length)
/-- A value's links, in the form's order. -/
def lnkf (t : Tv) : List Lk :=
  if t.k = 7 then [t.l]
  else if t.k = 8 ∨ t.k = 9 then (pls t).flatMap fun p => if h : p < t.is.length then lnkf (t.is[p]'h) else []
  else []
termination_by SizeOf.sizeOf t
decreasing_by exact Tv.is_lt (List.getElem_mem _)
def lnx (t : Tv) (p : Nat) : List Lk := if h : p < t.is.length then lnkf (t.is[p]'h) else []
theorem lnx_at {t u : Tv} {p : Nat} (h : t.is[p]? = some u) : lnx t p = lnkf u := by
  have h1 := (List.getElem?_eq_some_iff.1 h).1
  unfold lnx
  rw [dif_pos h1]
  rw [List.getElem?_eq_getElem h1] at h
  injection h with h
  rw [h]
theorem lnkf_7 {t : Tv} (h : t.k = 7) : lnkf t = [t.l] := by rw [lnkf, if_pos h]
theorem lnkf_n {t : Tv} (h7 : t.k ≠ 7) (h : t.k = 8 ∨ t.k = 9) : lnkf t = (pls t).flatMap (lnx t) := by
  rw [lnkf, if_neg h7, if_pos h]
  rfl
theorem lnkf_0 {t : Tv} (h7 : t.k ≠ 7) (h : ¬ (t.k = 8 ∨ t.k = 9)) : lnkf t = [] := by rw [lnkf, if_neg h7, if_neg h]
theorem flat_take {t : Tv} {ps : List Nat} {i p : Nat} (hp : ps[i]? = some p) : (ps.take (i + 1)).flatMap (lnx t) = (ps.take i).flatMap (lnx t) ++ lnx t p := by
  have hi := (List.getElem?_eq_some_iff.1 hp).1
  rw [List.take_succ_eq_append_getElem hi, List.flatMap_append]
  rw [List.getElem?_eq_getElem hi] at hp
  injection hp with hp
  simp [hp]
theorem flat_le {t : Tv} {ps : List Nat} (i : Nat) : ((ps.take i).flatMap (lnx t)).length ≤ (ps.flatMap (lnx t)).length := by
  have h : ps.flatMap (lnx t) = (ps.take i).flatMap (lnx t) ++ (ps.drop i).flatMap (lnx t) := by rw [← List.flatMap_append, List.take_append_drop]
  rw [h, List.length_append]
  omega
/-- What gathered does: links and, behind them, those of a value that lies in an older world. -/
def GatC (t : Tv) : Prop := ∀ (w0 : World) (cs : Array Value), Tin w0 t cs → tmuch t ≤ 100000 → ∀ (w : World) (v : Value) (rs : List Lk), Below w0.heap.size w0 w → w.ownsRow w0.heap.size 25 4 v rs.length (fcl rs) → (rs ++ lnkf t).length ≤ 1000000 →
  Calls Tryd.prog 34 #[v, .agg cs] w fun e w' => ∃ v', e = .returned v' ∧ w'.ownsRow w0.heap.size 25 4 v' (rs ++ lnkf t).length (fcl (rs ++ lnkf t)) ∧ Kp (fun q => v.ownBlock = some q) w w' ∧ (v'.ownBlock = v.ownBlock ∨ ∃ q, v'.ownBlock = some q ∧ w.heap.size ≤ q)
/-- What gathered has in hand within its loop; g: its argument's block. -/
structure Gth (w wx : World) (g : Nat) (cs : Array Value) (B : Nat) (v vx : Value) (rs : List Lk) : Prop where
  o : wx.ownsRow B 25 4 vx rs.length (fcl rs)
  k : Kp (fun q => v.ownBlock = some q) w wx
  r : wx.heap[g]? = some (.cells cs 29 (0, 0))
  q : vx.ownBlock = v.ownBlock ∨ ∃ q, vx.ownBlock = some q ∧ w.heap.size ≤ q
theorem Gth.below {w wx : World} {g : Nat} {cs : Array Value} {B : Nat} {v vx : Value} {rs : List Lk} {w0 : World} (h : Gth w wx g cs B v vx rs) (h0 : Below w0.heap.size w0 w) (hv : ∀ q, v.ownBlock = some q → w0.heap.size ≤ q) : Below w0.heap.size w0 wx := h0.trans (h.k.below h0.size hv)
theorem Gth.step {w wx wy : World} {g : Nat} {cs : Array Value} {B : Nat} {v vx vy : Value} {rs rs' : List Lk} (h : Gth w wx g cs B v vx rs) (hg : g < w.heap.size) (hv : ∀ q, v.ownBlock = some q → q ≠ g) (ho : wy.ownsRow B 25 4 vy rs'.length (fcl rs')) (hk : Kp (fun q => vx.ownBlock = some q) wx wy) (hq : vy.ownBlock = vx.ownBlock ∨ ∃ q, vy.ownBlock = some q ∧ wx.heap.size ≤ q) : Gth w wy g cs B v vy rs' := by
  have hg2 : ¬ vx.ownBlock = some g := fun e => by
    rcases h.q with h1 | ⟨q, h1, h2⟩
    · rw [h1] at e
      exact hv _ e rfl
    · rw [h1] at e
      injection e with e
      omega
  have hz := h.k.size
  refine ⟨ho, h.k.trans hk (fun k hkk e => ?_), (hk.block _ (blk_lt h.r) hg2).trans h.r, ?_⟩
  · rcases h.q with h1 | ⟨q, h1, h2⟩
    · rw [← h1]
      exact e
    · rw [h1] at e
      injection e with e
      omega
  · rcases hq with h1 | ⟨q, h1, h2⟩
    · rw [h1]
      exact h.q
    · exact .inr ⟨q, h1, by omega⟩
end
section
open Go.RowKit Go
theorem append_lkq {ops : Array Oper} {rest : List Oper} {o : Oper} {a : Act} {Q : Exit → Act → World → Prop} {w : World} (hgd : o.guard = none) (s x : Operand)
    (ho : o.op = .call { callee := .builtin .append, args := #[s, x], argTypes := #[43, 43] }) (B : Nat) (v : Value) (n : Nat) (rs : List Lk) (hs : a.eval s = v) (hown : w.ownsRow B 25 4 v n (fcl rs))
    (g : Nat) (l : Lk) (hx : a.eval x = .slice (some ⟨g, 0, none⟩) 1 1) (hg : w.heap[g]? = some (.cells (fcl [l]).toArray 25 (0, 0))) (hlen : n < 1099511627776) (hbase : B ≤ w.heap.size)
    (h : ∀ v' w', w'.ownsRow B 25 4 v' (n + 1) (fcl (rs ++ [l])) → w.grownBy w' v.ownBlock → (v'.ownBlock = v.ownBlock ∨ v'.ownBlock = some w.heap.size) → wpList Tryd.prog ops Q rest (a.put o.dst v') w') : wpList Tryd.prog ops Q (o :: rest) a w := by
  obtain ⟨i, hi, hz0, hz1, hz2⟩ := infoLk_ex
  refine wpList_append_own_at w hgd s x 43 ho B 25 i _ 4 40 Tryd.underlying43 hi hz0 hz1 hz2 rfl (by decide) v n (fcl rs) hs hown ⟨g, 0, none⟩ 1 1 (fcl [l]) hx (by rw [fcl_len]; rfl) (fun j u hu => ?_) (fcl_one [l]) (by unfold maxLen; omega) (by omega) hbase fun v' w' h1 h2 _ h4 => h v' w' (by rw [fcl_app]; exact h1) h2 h4
  have hadd : (⟨g, 0, none⟩ : Addr).add j = ⟨g, j, none⟩ := by unfold Addr.add; split <;> simp_all
  rw [hadd]
  exact blk_cell hg (by rw [List.getElem?_toArray]; exact hu)
set_option maxRecDepth 1000000 in
set_option maxHeartbeats 1000000 in
theorem gathered_step (t : Tv) (ih : ∀ u ∈ t.is, GatC u) : GatC t := by
  intro w0 cs ht hm w v rs hb0 hown hlen
  have HIH := hide ih
  have HT0 := hide ht
  have HSZ := hide ht.size13
  have hme := tmuch_eq t
  have HML : Hid (tmuchL t.is ≤ 100000 ∧ t.ks.length ≤ 100000) := ⟨by omega, by omega⟩
  have HB0 := hide hb0
  have HO0 := hide hown
  have HLN := hide hlen
  have HVB : Hid (∀ q, v.ownBlock = some q → w0.heap.size ≤ q ∧ q < w.heap.size) := fun q hq => hown.lt q hq
  clear ih hm hme hb0 hlen
  obtain ⟨ax, cx, hvx⟩ : ∃ ax cx, v = .slice ax rs.length cx := own_slice hown
  subst hvx
  clear hown
  obtain ⟨vy, vk, vi, rfl, hy, hk, hv, hb⟩ := ht.parts
  have HLB := hide hb.l
  obtain ⟨⟨ai, ci, rfl, _, hform⟩, hmax⟩ := hv
  have HF := hide hform
  have HC0 : Hid ((vcs t vy vk (.slice ai t.is.length ci))[0]? = some (.int .i64 t.k)) := rfl
  have HC12 : Hid ((vcs t vy vk (.slice ai t.is.length ci))[12]? = some (.slice ai t.is.length ci)) := rfl
  have HLK : Hid (∀ (wx : World) (g : Nat), wx.heap[g]? = some (.cells (vcs t vy vk (.slice ai t.is.length ci)) 29 (0, 0)) → ∀ j x, (lcs t.l)[j]? = some x → wx.cell? ⟨g, 7 + j, none⟩ = some x) := fun wx g h j x hx => lk_in h hx
  generalize vcs t vy vk (.slice ai t.is.length ci) = cs at *
  clear ht hy hk hb hform
  have HG0 : Hid (Gth w (w.alloc (.cells cs 29)) w.heap.size cs w0.heap.size (.slice ax rs.length cx) (.slice ax rs.length cx) rs) := ⟨HO0.out.alloc _, Kp.of_below (below_alloc4 w _), heap_alloc_new w _, .inl rfl⟩
  have q0 := blk_cell HG0.out.r HC0.out
  by_cases h7 : t.k = 7
  · as_aux_lemma =>
    have g7 : (t.k == 7) = true := beq_iff_eq.2 h7
    have HE : Hid (lnkf t = [t.l]) := lnkf_7 h7
    have HLA := hide (HLK.out _ _ HG0.out.r)
    have HL1 := hide (heap_alloc_new (w.alloc (.cells cs 29)) (.cells (fcl [t.l]).toArray 25))
    have HLE : Hid (rs.length ≤ 1000000) := by have := HLN.out; rw [List.length_append] at this; show _ ≤ _; omega
    have HBZ : Hid (w0.heap.size ≤ w.heap.size) := HB0.out.size
    clear h7
    go_enter Tryd.func34, Tryd.ntmps34
    go_wp2_with (first
      | (refine wpList_lkAt rfl rfl w.heap.size 7 t.l rfl HLA.out ?_)
      | (refine wpList_lks1 rfl rfl t.l rfl ?_)
      | (at_builtin; refine append_lkq rfl _ _ rfl w0.heap.size _ rs.length rs rfl (HG0.out.o.alloc _) (w.alloc (.cells cs 29)).heap.size t.l rfl HL1.out ?b1 ?b2 ?_))
    case b1 => have := HLE.out; omega
    case b2 => have := HBZ.out; simp; omega
    intro v2 w2 ho2 hg2 hv2
    have hk2 : Kp (fun q => (Value.slice ax rs.length cx).ownBlock = some q) w w2 := ((Kp.of_below (below_alloc4 w _)).trans (Kp.of_below (below_alloc4 (w.alloc (.cells cs 29)) _)) (fun _ _ h => h)).grown hg2 (fun _ _ h => h)
    have HO2 : Hid (w2.ownsRow w0.heap.size 25 4 v2 (rs ++ lnkf t).length (fcl (rs ++ lnkf t))) := by
      show World.ownsRow _ _ _ _ _ _ _
      rw [HE.out, List.length_append]
      exact ho2
    have HK2 := hide hk2
    have HQ2 : Hid (v2.ownBlock = (Value.slice ax rs.length cx).ownBlock ∨ ∃ q, v2.ownBlock = some q ∧ w.heap.size ≤ q) := hv2.imp id (fun h => ⟨_, h, by first | omega | (simp; omega) | simp⟩)
    clear ho2 hg2 hk2 hv2
    go_wp2_with fail
    go_ret
    exact ⟨_, rfl, HO2.out, HK2.out, HQ2.out⟩
  have g7 : (t.k == 7) = false := beq_eq_false_iff_ne.2 h7
  by_cases h8 : t.k = 8
  · have g8 : (t.k == 8) = true := beq_iff_eq.2 h8
    have HE : Hid (lnkf t = (List.range t.is.length).flatMap (lnx t)) := by
      show _ = _
      rw [lnkf_n h7 (.inl h8)]
      unfold pls
      rw [if_pos h8]
    have q12 := blk_cell HG0.out.r HC12.out
    have HB1 : Hid (Below w0.heap.size w0 (w.alloc (.cells cs 29))) := HB0.out.trans ((below_alloc4 w _).mono HB0.out.size)
    have HG1 : Hid (Gth (w.alloc (.cells cs 29)) (w.alloc (.cells cs 29)) w.heap.size cs w0.heap.size (.slice ax rs.length cx) (.slice ax rs.length cx) rs) := ⟨HG0.out.o, Kp.refl _ _, HG0.out.r, .inl rfl⟩
    have HK1 : Hid (Kp (fun q => (Value.slice ax rs.length cx).ownBlock = some q) w (w.alloc (.cells cs 29)) ∧ (w.alloc (.cells cs 29)).heap.size = w.heap.size + 1) := ⟨Kp.of_below (below_alloc4 w _), by simp⟩
    clear h7 h8 HG0
    go_enter Tryd.func34, Tryd.ntmps34
    go_wp2_with fail
    clear q0 q12
    generalize w.alloc (.cells cs 29) = w1 at *
    go_loopw [0, 23] (fun vv ii wx => ∃ i : Nat, i ≤ t.is.length ∧ ii = .int .i64 (i : Nat) ∧ Hid (Gth w1 wx w.heap.size cs w0.heap.size (.slice ax rs.length cx) vv (rs ++ ((List.range t.is.length).take i).flatMap (lnx t)))) (fun _ ii _ => t.is.length - (intOf ii).toNat)
    case atStart => exact ⟨0, by omega, rfl, by simpa using HG1⟩
    case round =>
      obtain ⟨i, hi, rfl, HG⟩ := hrel
      clear HG1
      obtain ⟨bx, dx, hux⟩ := own_slice HG.out.o
      subst hux
      have HBW := hide (HG.out.below HB1.out (fun q hq => (HVB.out q hq).1))
      by_cases hlt : i < t.is.length
      · as_aux_lemma =>
        have g1 : (i : Int) < (t.is.length : Int) := by omega
        obtain ⟨u, hu⟩ : ∃ u, t.is[i]? = some u := ⟨t.is[i], List.getElem?_eq_getElem hlt⟩
        obtain ⟨b, off, rfl, hcells⟩ := HF.out.resolve_left (fun h => by rw [h] at hlt; simp at hlt)
        obtain ⟨cu, hcu, hcc⟩ := hcells i u hu
        have HCC : Hid (∀ j x, cu[j]? = some x → wr.cell? ⟨b, off + i * 13 + j, none⟩ = some x) := fun j x hx => keep_below HBW.out _ _ (hcc j x hx)
        have hmem := List.mem_of_getElem? hu
        have HZ1 := hide hcu.size13
        have HA1 := hide hcu.all1
        have HIT := hide (itm_mk wr cu)
        have HGN := hide (heap_alloc_new wr (.cells zv 29))
        have HIN : Hid ((Tryd.prog.info? 29).map (·.size) = some cu.size) := by show _ = _; rw [HZ1.out]; exact infoV
        have HZV : Hid (zv.size = cu.size) := by show _ = _; rw [HZ1.out]; rfl
        have HCX := hide HIT.out.cells
        have hfl : ((List.range t.is.length).take (i + 1)).flatMap (lnx t) = ((List.range t.is.length).take i).flatMap (lnx t) ++ lnkf u := by rw [flat_take (List.getElem?_range hlt), lnx_at hu]
        have hle := flat_le (t := t) (ps := List.range t.is.length) (i + 1)
        have HGI : Hid (Gth w1 ((wr.alloc (.cells zv 29)).setRow wr.heap.size cu) w.heap.size cs w0.heap.size (.slice ax rs.length cx) (.slice bx (rs ++ ((List.range t.is.length).take i).flatMap (lnx t)).length dx) (rs ++ ((List.range t.is.length).take i).flatMap (lnx t))) := HG.out.step (by have := HK1.out.2; omega) (fun q hq e => by have := HVB.out q hq; omega) ((Kp.of_below (S := fun _ => False) HIT.out.b).owns HG.out.o (fun _ _ h => h)) (Kp.of_below HIT.out.b) (.inl rfl)
        have HCA := hide (HIH.out u hmem w0 cu hcu (Nat.le_trans (tmuchL_mem hmem) HML.out.1) _ _ _ (HBW.out.trans (HIT.out.b.mono HBW.out.size)) HGI.out.o (by
          have h1 := HLN.out
          rw [HE.out, List.length_append] at h1
          rw [List.append_assoc, ← hfl, List.length_append]
          omega))
        rw [List.append_assoc, ← hfl] at HCA
        clear hu hcells hcu hcc hmem hfl hle
        generalize hnn : (rs ++ ((List.range t.is.length).take i).flatMap (lnx t)).length = nn at *
        clear hnn
        go_wp2_with (first
          | (refine wpList_valAt rfl rfl b (off + i * 13) cu rfl HZ1.out HCC.out ?_)
          | (refine wpList_storeRow rfl rfl wr.heap.size zv cu 29 rfl rfl HGN.out HIN.out HZV.out HA1.out ?_)
          | (refine wpList_valAt rfl rfl wr.heap.size 0 cu rfl HZ1.out HCX.out ?_))
        refine HCA.out.mono ?_
        rintro e w5 ⟨v5, rfl, ho5, hk5, hq5⟩
        have HG5 := hide (HGI.out.step (by have := HK1.out.2; omega) (fun q hq e => by have := HVB.out q hq; omega) ho5 hk5 hq5)
        clear ho5 hk5 hq5 HCA HGI HCX HIT HGN HCC
        go_wp2_with fail
        go_roundw
        case rel => exact ⟨i + 1, by omega, by go_num, HG5⟩
        case measure => simp [intOf]; omega
      · as_aux_lemma =>
        have g1 : ¬ (i : Int) < (t.is.length : Int) := by omega
        have hL : i = t.is.length := by omega
        have HGE : Hid (Gth w1 wr w.heap.size cs w0.heap.size (.slice ax rs.length cx) (.slice bx (rs ++ ((List.range t.is.length).take i).flatMap (lnx t)).length dx) (rs ++ lnkf t)) := by
          have h := HG.out
          rw [HE.out]
          have e : (List.range t.is.length).take i = (List.range t.is.length) := List.take_of_length_le (by simp; omega)
          rw [e] at h ⊢
          exact h
        clear HG
        generalize (rs ++ ((List.range t.is.length).take i).flatMap (lnx t)).length = nn at *
        go_wp2_with fail
        go_ret
        exact ⟨_, rfl, by first | exact HGE.out.o | (have h := HGE.out.o; rw [List.length_append] at h; exact h), HK1.out.1.trans HGE.out.k (fun _ _ h => h), HGE.out.q.imp id (fun ⟨q, h1, h2⟩ => ⟨q, h1, by have := HK1.out.2; omega⟩)⟩
  have g8 : (t.k == 8) = false := beq_eq_false_iff_ne.2 h8
  by_cases h9 : t.k = 9
  · have g9 : (t.k == 9) = true := beq_iff_eq.2 h9
    have HE0 : Hid (lnkf t = (ordp t.ks (min t.ks.length t.is.length)).flatMap (lnx t)) := by
      show _ = _
      rw [lnkf_n h7 (.inr h9)]
      unfold pls
      rw [if_neg h8]
    have HV0 : Hid (∀ j u, cs[j]? = some u → (w.alloc (.cells cs 29)).cell? ⟨w.heap.size, 0 + j, none⟩ = some u) := fun j u hu => by rw [Nat.zero_add]; exact blk_cell HG0.out.r hu
    clear h7 h8 h9
    go_enter Tryd.func34, Tryd.ntmps34
    go_wp2_with (refine wpList_valAt rfl rfl w.heap.size 0 cs rfl HSZ.out HV0.out ?_)
    refine (order6_any t _ cs ((HT0.out.move (keep_below HB0.out)).move (keep_below (below_alloc4 w _))) (by have := HML.out; omega)).mono ?_
    rintro e w2 ⟨vp, ps, rfl, hpo, hsp, hop, hb2⟩
    have HE : Hid (lnkf t = ps.flatMap (lnx t)) := by show _ = _; rw [HE0.out, hpo]
    clear hpo HE0
    have HSP := hide hsp
    have hpl : ps.length ≤ 100000 := by have := hsp.len; have := HML.out; omega
    have hi2 := ISl.own hop rfl (by omega)
    have e1 : (w.alloc (.cells cs 29)).heap.size = w.heap.size + 1 := by simp
    have HK1 : Hid (Kp (fun q => (Value.slice ax rs.length cx).ownBlock = some q) w w2 ∧ w.heap.size < w2.heap.size) := ⟨(Kp.of_below (below_alloc4 w _)).trans (Kp.of_below hb2) (fun _ _ h => h), by have := hb2.size; omega⟩
    have HB1 : Hid (Below w0.heap.size w0 w2) := (HB0.out.trans ((below_alloc4 w _).mono HB0.out.size)).trans (hb2.mono (by have := HB0.out.size; omega))
    have hpg : ∀ q, vp.ownBlock = some q → w.heap.size < q := fun q hq => by
      have := hop.lt q hq
      omega
    obtain ⟨⟨pa, pc, rfl, _, hpf⟩, _⟩ := hi2
    have HPG : Hid (∀ q, (Value.slice pa ps.length pc).ownBlock = some q → w.heap.size < q) := hpg
    have HPF := hide hpf
    have HG1 : Hid (Gth w2 w2 w.heap.size cs w0.heap.size (.slice ax rs.length cx) (.slice ax rs.length cx) rs) := ⟨(Kp.of_below (S := fun _ => False) hb2).owns HG0.out.o (fun _ _ h => h), Kp.refl _ _, (hb2.block _ (by omega)).trans HG0.out.r, .inl rfl⟩
    clear hsp hop hb2 hpf hpg e1 HG0 HV0 q0
    go_wp2_with fail
    go_loopw [0, 36] (fun vv ii wx => ∃ i : Nat, i ≤ ps.length ∧ ii = .int .i64 (i : Nat) ∧ Hid (Gth w2 wx w.heap.size cs w0.heap.size (.slice ax rs.length cx) vv (rs ++ (ps.take i).flatMap (lnx t)))) (fun _ ii _ => ps.length - (intOf ii).toNat)
    case atStart => exact ⟨0, by omega, rfl, by simpa using HG1⟩
    case round =>
      obtain ⟨i, hi, rfl, HG⟩ := hrel
      clear HG1
      obtain ⟨bx, dx, hux⟩ := own_slice HG.out.o
      subst hux
      have HBW := hide (HG.out.below HB1.out (fun q hq => (HVB.out q hq).1))
      by_cases hlt : i < ps.length
      · as_aux_lemma =>
        have g1 : (i : Int) < (ps.length : Int) := by omega
        obtain ⟨p, hp⟩ : ∃ p, ps[i]? = some p := ⟨ps[i], List.getElem?_eq_getElem hlt⟩
        have hpl := HSP.out.lt p (List.mem_of_getElem? hp)
        have hp2 : p < t.is.length := by omega
        obtain ⟨u, hu⟩ : ∃ u, t.is[p]? = some u := ⟨t.is[p], List.getElem?_eq_getElem hp2⟩
        obtain ⟨b, off, rfl, hcells⟩ := HF.out.resolve_left (fun h => by rw [h] at hp2; simp at hp2)
        obtain ⟨cu, hcu, hcc⟩ := hcells p u hu
        obtain ⟨b1, off1, rfl, hc1⟩ := HPF.out.resolve_left (fun h => by rw [h] at hlt; simp at hlt)
        have HCC : Hid (∀ j x, cu[j]? = some x → wr.cell? ⟨b, off + p * 13 + j, none⟩ = some x) := fun j x hx => keep_below HBW.out _ _ (hcc j x hx)
        have hmem := List.mem_of_getElem? hu
        have HZ1 := hide hcu.size13
        have c1 : wr.cell? ⟨b1, off1 + i, none⟩ = some (.int .i64 (p : Nat)) := HG.out.k.cell (hc1 i p hp) (fun e => by have h1 := HVB.out b1 e; have h2 := HPG.out b1 rfl; omega)
        have c12 : wr.cell? ⟨w.heap.size, 12, none⟩ = some (.slice (some ⟨b, off, none⟩) t.is.length ci) := blk_cell HG.out.r HC12.out
        have g2 : (p : Int) < (t.is.length : Int) := by omega
        have hfl : (ps.take (i + 1)).flatMap (lnx t) = (ps.take i).flatMap (lnx t) ++ lnkf u := by rw [flat_take hp, lnx_at hu]
        have hle := flat_le (t := t) (ps := ps) (i + 1)
        have HCA := hide (HIH.out u hmem w0 cu hcu (Nat.le_trans (tmuchL_mem hmem) HML.out.1) wr _ _ HBW.out HG.out.o (by
          have h1 := HLN.out
          rw [HE.out, List.length_append] at h1
          rw [List.append_assoc, ← hfl, List.length_append]
          omega))
        rw [List.append_assoc, ← hfl] at HCA
        have HGI := hide HG.out
        clear hu hcells hcu hcc hmem hfl hle hc1 hp HG
        generalize hnn : (rs ++ (ps.take i).flatMap (lnx t)).length = nn at *
        clear hnn
        go_wp2_with (refine wpList_valAt rfl rfl b (off + p * 13) cu rfl HZ1.out HCC.out ?_)
        refine HCA.out.mono ?_
        rintro e w5 ⟨v5, rfl, ho5, hk5, hq5⟩
        have HG5 := hide (HGI.out.step (by have := HK1.out.2; omega) (fun q hq e => by have := HVB.out q hq; omega) ho5 hk5 hq5)
        clear ho5 hk5 hq5 HCA HGI HCC c1 c12
        go_wp2_with fail
        go_roundw
        case rel => exact ⟨i + 1, by omega, by go_num, HG5⟩
        case measure => simp [intOf]; omega
      · as_aux_lemma =>
        have g1 : ¬ (i : Int) < (ps.length : Int) := by omega
        have hL : i = ps.length := by omega
        have HGE : Hid (Gth w2 wr w.heap.size cs w0.heap.size (.slice ax rs.length cx) (.slice bx (rs ++ (ps.take i).flatMap (lnx t)).length dx) (rs ++ lnkf t)) := by
          have h := HG.out
          rw [HE.out]
          have e : ps.take i = ps := List.take_of_length_le (by omega)
          rw [e] at h ⊢
          exact h
        clear HG
        generalize (rs ++ (ps.take i).flatMap (lnx t)).length = nn at *
        go_wp2_with fail
        go_ret
        exact ⟨_, rfl, by first | exact HGE.out.o | (have h := HGE.out.o; rw [List.length_append] at h; exact h), HK1.out.1.trans HGE.out.k (fun _ _ h => h), HGE.out.q.imp id (fun ⟨q, h1, h2⟩ => ⟨q, h1, by have := HK1.out.2; omega⟩)⟩
  · as_aux_lemma =>
    have g9 : (t.k == 9) = false := beq_eq_false_iff_ne.2 h9
    have HE : Hid (lnkf t = []) := lnkf_0 h7 (fun h => h.elim h8 h9)
    clear h7 h8 h9
    go_enter Tryd.func34, Tryd.ntmps34
    go_wp2_with fail
    go_ret
    exact ⟨_, rfl, by rw [HE.out, List.append_nil]; exact HG0.out.o, HG0.out.k, .inl rfl⟩
theorem gathered_any (t : Tv) : GatC t := by
  have h : ∀ N, ∀ t : Tv, SizeOf.sizeOf t = N → GatC t := by
    intro N
    induction N using Nat.strongRecOn with
    | _ N ih => exact fun t hN => gathered_step t (fun u hu => ih _ (by rw [← hN]; exact Tv.is_lt hu) u rfl)
  exact h _ t rfl
end
section
open Go.RowKit Go
theorem sum_range (is : List Tv) (g : Nat → Nat) (hg : ∀ p u, is[p]? = some u → g p ≤ tmuch u) : ∀ n, n ≤ is.length → ((List.range n).map g).sum ≤ tmuchL (is.take n)
  | 0, _ => by simp
  | n + 1, h => by
    have ih := sum_range is g hg n (by omega)
    have hu := List.getElem?_eq_getElem (show n < is.length by omega)
    have h1 := hg n _ hu
    rw [List.range_succ, List.map_append, List.sum_append, takeT _ _ _ hu, tmuchL_app]
    have e : tmuchL [is[n]] = tmuch is[n] := by rw [tmuchL, tmuchL]; omega
    rw [e]
    simp
    omega
theorem tmuchL_take (is : List Tv) (n : Nat) : tmuchL (is.take n) ≤ tmuchL is := by
  have h : tmuchL is = tmuchL (is.take n) + tmuchL (is.drop n) := by rw [← tmuchL_app, List.take_append_drop]
  omega
theorem pls_perm (t : Tv) : ∃ n, n ≤ t.is.length ∧ (pls t).Perm (List.range n) := by
  unfold pls
  by_cases h : t.k = 8
  · rw [if_pos h]
    exact ⟨_, Nat.le_refl _, List.Perm.refl _⟩
  · rw [if_neg h]
    exact ⟨_, by omega, (ordp_srp t.ks (min t.ks.length t.is.length)).p⟩
/-- No more links than parts. -/
theorem lnkf_le (t : Tv) : (lnkf t).length ≤ tmuch t := by
  have h : ∀ N, ∀ t : Tv, SizeOf.sizeOf t = N → (lnkf t).length ≤ tmuch t := by
    intro N
    induction N using Nat.strongRecOn with
    | _ N ih =>
      intro t hN
      have hme := tmuch_eq t
      by_cases h7 : t.k = 7
      · rw [lnkf_7 h7]
        simp
        omega
      · by_cases h8 : t.k = 8 ∨ t.k = 9
        · rw [lnkf_n h7 h8]
          obtain ⟨n, hn, hp⟩ := pls_perm t
          have e : ((pls t).flatMap (lnx t)).length = ((pls t).map (fun p => (lnx t p).length)).sum := by rw [List.length_flatMap]
          have e2 : ((pls t).map (fun p => (lnx t p).length)).sum = ((List.range n).map (fun p => (lnx t p).length)).sum := (hp.map _).sum_nat
          rw [e, e2]
          have h1 := sum_range t.is (fun p => (lnx t p).length) (fun p u hu => by
            rw [lnx_at hu]
            exact ih _ (by rw [← hN]; exact Tv.is_lt (List.mem_of_getElem? hu)) u rfl) n hn
          have h2 := tmuchL_take t.is n
          omega
        · rw [lnkf_0 h7 h8]
          simp
  exact h _ t rfl
set_option maxRecDepth 1000000 in
theorem links6_any (t : Tv) (w : World) (cs : Array Value) (ht : Tin w t cs) (hm : tmuch t ≤ 100000) : Calls Tryd.prog 15 #[.agg cs] w fun e w' => ∃ v', e = .returned v' ∧ w'.ownsRow w.heap.size 25 4 v' (lnkf t).length (fcl (lnkf t)) ∧ Below w.heap.size w w' := by
  have HTN := hide ht
  have HSZ := hide ht.size13
  have HQ0 : Hid (Aln w (w.alloc (.cells cs 29)) cs) := box_mk0 w _
  have HV0 := hide HQ0.out.va
  have HLE := hide (Nat.le_trans (lnkf_le t) hm)
  have HMM := hide hm
  clear ht hm
  have HCA := hide (gathered_any t w cs HTN.out HMM.out (w.alloc (.cells cs 29)) (.slice none 0 0) [] HQ0.out.1 (World.ownsRow_nil _ _ _ _) (by have := HLE.out; rw [List.nil_append]; omega))
  go_enter Tryd.func15, Tryd.ntmps15
  go_wp2_with (refine wpList_valAt rfl rfl w.heap.size 0 cs rfl HSZ.out HV0.out ?_)
  refine HCA.out.mono ?_
  rintro e w1 ⟨v1, rfl, ho, hk, _⟩
  rw [List.nil_append] at ho
  have HO := hide ho
  have HB1 : Hid (Below w.heap.size w w1) := HQ0.out.1.trans ((hk.below (Nat.le_refl _) (fun q h => by cases h)).mono HQ0.out.1.size)
  clear ho hk HCA HQ0 HV0
  go_wp2_with fail
  go_ret
  exact ⟨_, rfl, HO.out, HB1.out⟩
end
section
open Go.RowKit Go
/-! Sorted values once more: one sorted value, its depth, its links; values with maps' entries in another order. -/
theorem tv_ext {a b : Tv} (h : Top a b) (hk : a.ks = b.ks) (hi : a.is = b.is) : a = b := by
  obtain ⟨k, f, g, n, c, s, y, l, ks, is⟩ := a
  obtain ⟨k', f', g', n', c', s', y', l', ks', is'⟩ := b
  obtain ⟨h1, h2, h3, h4, h5, h6, h7, h8⟩ := h
  simp only [Tv.k, Tv.f, Tv.g, Tv.n, Tv.b, Tv.s, Tv.y, Tv.l, Tv.ks, Tv.is] at *
  subst h1 h2 h3 h4 h5 h6 h7 h8 hk hi
  rfl
theorem Top.both {t a b : Tv} (h : Top t a) (h' : Top t b) : Top a b := ⟨h'.k.trans h.k.symm, h'.f.trans h.f.symm, h'.g.trans h.g.symm, h'.n.trans h.n.symm, h'.b.trans h.b.symm, h'.s.trans h.s.symm, h'.y.trans h.y.symm, h'.l.trans h.l.symm⟩
theorem srt_len {t s : Tv} (h : SrtR t s) (ht : Trk t) : s.is.length = t.is.length := by
  cases h with
  | rest _ _ h9 _ _ hn _ => exact hn
  | map _ _ ps h9 _ hp _ hn _ =>
    have h1 := (ht.m h9).1
    rw [hn, hp.len]
    omega
/-- There is one sorted value. -/
theorem srt_one {t s : Tv} (h : SrtR t s) : ∀ {s' : Tv}, Trk t → SrtR t s' → s = s' := by
  induction h with
  | rest t s h9 hT hk hn hi ih =>
    intro s' ht h'
    cases h' with
    | map _ _ _ h9' => exact absurd h9' h9
    | rest _ _ _ hT' hk' hn' hi' =>
      refine tv_ext (hT.both hT') (hk.trans hk'.symm) (List.ext_getElem? fun i => ?_)
      by_cases hl : i < t.is.length
      · have e1 := List.getElem?_eq_getElem hl
        have e2 := List.getElem?_eq_getElem (show i < s.is.length by omega)
        have e3 := List.getElem?_eq_getElem (show i < s'.is.length by omega)
        rw [e2, e3, ih i _ _ e1 e2 (ht.i _ (List.getElem_mem hl)) (hi' i _ _ e1 e3)]
      · rw [List.getElem?_eq_none (by omega), List.getElem?_eq_none (by omega)]
  | map t s ps h9 hT hp hk hn hi ih =>
    intro s' ht h'
    cases h' with
    | rest _ _ h9' => exact absurd h9 h9'
    | map _ _ ps' _ hT' hp' hk' hn' hi' =>
      obtain ⟨hlen, hnd, _⟩ := ht.m h9
      have e := srp_one hnd (by omega) hp hp'
      subst e
      refine tv_ext (hT.both hT') (hk.trans hk'.symm) (List.ext_getElem? fun i => ?_)
      by_cases hl : i < ps.length
      · have e0 := List.getElem?_eq_getElem hl
        have hpl := hp.lt ps[i] (List.getElem_mem hl)
        have e1 := List.getElem?_eq_getElem (show ps[i] < t.is.length by omega)
        have e2 := List.getElem?_eq_getElem (show i < s.is.length by omega)
        have e3 := List.getElem?_eq_getElem (show i < s'.is.length by omega)
        rw [e2, e3, ih i _ _ _ e0 e1 e2 (ht.i _ (List.getElem_mem _)) (hi' i _ _ _ e0 e1 e3)]
      · rw [List.getElem?_eq_none (by omega), List.getElem?_eq_none (by omega)]
theorem depthL_le {l : List Tv} {N : Nat} : tdepthL l ≤ N ↔ ∀ (i : Nat) (u : Tv), l[i]? = some u → tdepth u ≤ N := by
  induction l with
  | nil => simp [tdepthL]
  | cons a r ih =>
    rw [tdepthL, Nat.max_le, ih]
    constructor
    · rintro ⟨h1, h2⟩ i u hu
      rcases i with _ | i
      · simp at hu
        rw [← hu]
        exact h1
      · exact h2 i u (by simpa using hu)
    · intro h
      exact ⟨h 0 a rfl, fun i u hu => h (i + 1) u (by simpa using hu)⟩
theorem depth_eq (t : Tv) : tdepth t = if t.k = 8 ∨ t.k = 9 then tdepthL t.is + 1 else 0 := by
  obtain ⟨k, f, g, n, b, s, y, l, ks, is⟩ := t
  rw [tdepth]
  rfl
theorem eq_of_le {a b : Nat} (h : ∀ N, a ≤ N ↔ b ≤ N) : a = b := Nat.le_antisymm ((h b).2 (Nat.le_refl _)) ((h a).1 (Nat.le_refl _))
theorem perm_at {n : Nat} {ps : List Nat} (h : ps.Perm (List.range n)) {p : Nat} (hp : p < n) : ∃ i : Nat, ps[i]? = some p := by
  have h1 : p ∈ ps := h.mem_iff.2 (by simpa using hp)
  exact List.getElem?_of_mem h1
theorem perm_len {n : Nat} {ps : List Nat} (h : ps.Perm (List.range n)) : ps.length = n := by rw [h.length_eq, List.length_range]
theorem perm_lt {n : Nat} {ps : List Nat} (h : ps.Perm (List.range n)) {i p : Nat} (hp : ps[i]? = some p) : p < n := by simpa using h.mem_iff.1 (List.mem_of_getElem? hp)
theorem srt_depth {t s : Tv} (h : SrtR t s) : Trk t → tdepth s = tdepth t := by
  induction h with
  | rest t s h9 hT hk hn hi ih =>
    intro ht
    rw [depth_eq, depth_eq, hT.k]
    have e : tdepthL s.is = tdepthL t.is := by
      refine eq_of_le fun N => ?_
      rw [depthL_le, depthL_le]
      constructor
      · intro h i u hu
        have hl := (List.getElem?_eq_some_iff.1 hu).1
        have e2 := List.getElem?_eq_getElem (show i < s.is.length by omega)
        rw [← ih i _ _ hu e2 (ht.i _ (List.mem_of_getElem? hu))]
        exact h i _ e2
      · intro h i v hv
        have hl := (List.getElem?_eq_some_iff.1 hv).1
        have e2 := List.getElem?_eq_getElem (show i < t.is.length by omega)
        rw [ih i _ _ e2 hv (ht.i _ (List.mem_of_getElem? e2))]
        exact h i _ e2
    rw [e]
  | map t s ps h9 hT hp hk hn hi ih =>
    intro ht
    obtain ⟨hlen, _⟩ := ht.m h9
    have hpl := hp.len
    rw [depth_eq, depth_eq, hT.k]
    have e : tdepthL s.is = tdepthL t.is := by
      refine eq_of_le fun N => ?_
      rw [depthL_le, depthL_le]
      constructor
      · intro h p u hu
        have hl := (List.getElem?_eq_some_iff.1 hu).1
        obtain ⟨i, hi2⟩ := perm_at hp.p (show p < min t.ks.length t.is.length by omega)
        have hil := (List.getElem?_eq_some_iff.1 hi2).1
        have e2 := List.getElem?_eq_getElem (show i < s.is.length by omega)
        rw [← ih i p _ _ hi2 hu e2 (ht.i _ (List.mem_of_getElem? hu))]
        exact h i _ e2
      · intro h i v hv
        have hl := (List.getElem?_eq_some_iff.1 hv).1
        have hil := List.getElem?_eq_getElem (show i < ps.length by omega)
        have hlt := perm_lt hp.p hil
        have e2 := List.getElem?_eq_getElem (show ps[i] < t.is.length by omega)
        rw [ih i _ _ _ hil e2 hv (ht.i _ (List.mem_of_getElem? e2))]
        exact h _ _ e2
    rw [e]
theorem flat_eq {a b : Tv} {ps qs : List Nat} (hn : ps.length = qs.length) (h : ∀ (i p q : Nat), ps[i]? = some p → qs[i]? = some q → lnx a p = lnx b q) : ps.flatMap (lnx a) = qs.flatMap (lnx b) := by
  rw [List.flatMap, List.flatMap]
  congr 1
  refine List.ext_getElem? fun i => ?_
  rw [List.getElem?_map, List.getElem?_map]
  by_cases hl : i < ps.length
  · have e1 := List.getElem?_eq_getElem hl
    have e2 := List.getElem?_eq_getElem (show i < qs.length by omega)
    rw [e1, e2, Option.map_some, Option.map_some, h i _ _ e1 e2]
  · rw [List.getElem?_eq_none (by omega), List.getElem?_eq_none (by omega)]
    rfl
theorem srp_sorted {ks : List ByteArray} {n : Nat} (h : ∀ (i j : Nat), i < j → j < n → bfr (sl (ks.getD j ⟨#[]⟩)) (sl (ks.getD i ⟨#[]⟩)) = false) : Srp ks n (List.range n) := by
  refine ⟨List.Perm.refl _, ?_⟩
  intro i j p q hij hp hq
  have h1 := (List.getElem?_eq_some_iff.1 hq).1
  rw [List.length_range] at h1
  rw [List.getElem?_range (by omega)] at hp hq
  injection hp with hp
  injection hq with hq
  subst hp hq
  exact h _ _ hij h1
theorem range_at {n i p : Nat} (h : (List.range n)[i]? = some p) : p = i := by
  have h1 := (List.getElem?_eq_some_iff.1 h).1
  rw [List.length_range] at h1
  rw [List.getElem?_range h1] at h
  injection h with h
  exact h.symm
theorem pls_srp {t : Tv} (h8 : t.k ≠ 8) : Srp t.ks (min t.ks.length t.is.length) (pls t) := by
  unfold pls
  rw [if_neg h8]
  exact ordp_srp _ _
theorem srt_links {t s : Tv} (h : SrtR t s) : Trk t → lnkf s = lnkf t := by
  induction h with
  | rest t s h9 hT hk hn hi ih =>
    intro ht
    by_cases h7 : t.k = 7
    · rw [lnkf_7 h7, lnkf_7 (hT.k.trans h7), hT.l]
    · by_cases h8 : t.k = 8
      · rw [lnkf_n h7 (.inl h8), lnkf_n (by rw [hT.k]; exact h7) (.inl (hT.k.trans h8))]
        unfold pls
        rw [if_pos h8, if_pos (hT.k.trans h8)]
        refine flat_eq (by simp [hn]) fun i p q hp hq => ?_
        rw [range_at hp, range_at hq]
        have h1 := (List.getElem?_eq_some_iff.1 hp).1
        rw [List.length_range] at h1
        have e1 := List.getElem?_eq_getElem h1
        have e2 := List.getElem?_eq_getElem (show i < t.is.length by omega)
        rw [lnx_at e1, lnx_at e2]
        exact ih i _ _ e2 e1 (ht.i _ (List.mem_of_getElem? e2))
      · rw [lnkf_0 h7 (by omega), lnkf_0 (by rw [hT.k]; exact h7) (by rw [hT.k]; omega)]
  | map t s ps h9 hT hp hk hn hi ih =>
    intro ht
    obtain ⟨hlen, hnd, _⟩ := ht.m h9
    have hpl := hp.len
    have hs := trk_srt (SrtR.map t s ps h9 hT hp hk hn hi) ht
    obtain ⟨slen, snd, _⟩ := hs.m (hT.k.trans h9)
    rw [lnkf_n (by omega) (.inr h9), lnkf_n (by rw [hT.k]; omega) (.inr (hT.k.trans h9))]
    have e1 : pls t = ps := srp_one hnd (by omega) (pls_srp (by omega)) hp
    have e2 : pls s = List.range s.is.length := by
      refine srp_one snd (by rw [slen]; omega) (pls_srp (by rw [hT.k]; omega)) ?_
      rw [show min s.ks.length s.is.length = s.is.length by omega]
      refine srp_sorted fun i j hij hj => ?_
      have a1 := List.getElem?_eq_getElem (show i < ps.length by omega)
      have a2 := List.getElem?_eq_getElem (show j < ps.length by omega)
      have b1 : s.ks.getD i ⟨#[]⟩ = t.ks.getD ps[i] ⟨#[]⟩ := by rw [hk, List.getD_eq_getElem?_getD, pickS_at a1]; rfl
      have b2 : s.ks.getD j ⟨#[]⟩ = t.ks.getD ps[j] ⟨#[]⟩ := by rw [hk, List.getD_eq_getElem?_getD, pickS_at a2]; rfl
      rw [b1, b2]
      exact hp.s i j _ _ hij a1 a2
    rw [e1, e2]
    refine flat_eq (by simp [hn]) fun i p q h1 h2 => ?_
    rw [range_at h1]
    have hil := (List.getElem?_eq_some_iff.1 h2).1
    have hlt := perm_lt hp.p h2
    have c1 := List.getElem?_eq_getElem (show i < s.is.length by omega)
    have c2 := List.getElem?_eq_getElem (show q < t.is.length by omega)
    rw [lnx_at c1, lnx_at c2]
    exact ih i q _ _ h2 c2 c1 (ht.i _ (List.mem_of_getElem? c2))
end
section
open Go.RowKit Go
/-- A value that passes is a tree. -/
theorem onef_0 {t : Tv} {a : Nat} (h : onef t a = 0) : ¬ ((t.k = 8 ∨ t.k = 9) ∧ 1024 ≤ a) ∧ tidyf t = true ∧ finb t.b = true ∧ (badb t.s || t.ks.any badb) = false ∧ ¬ (t.k = 7 ∧ ¬ lok t.l) ∧ ¬ (t.k = 9 ∧ ¬ (t.ks.length = t.is.length ∧ t.ks.Nodup)) := by
  unfold onef at h
  split at h
  · cases h
  · rename_i h1
    split at h
    · cases h
    · rename_i h2
      split at h
      · cases h
      · rename_i h3
        split at h
        · cases h
        · rename_i h4
          split at h
          · cases h
          · rename_i h5
            split at h
            · cases h
            · rename_i h6
              exact ⟨h1, by simpa using h2, by simpa using h3, by simpa using h4, h5, h6⟩
theorem chkL_all {l : List Tv} {a : Nat} (h : chkL l a = 0) : ∀ u ∈ l, chkf u a = 0 := by
  intro u hu
  obtain ⟨i, hi⟩ := List.getElem?_of_mem hu
  have key : ∀ N i : Nat, i < N → ∀ v, l[i]? = some v → chkf v a = 0 := by
    intro N
    induction N with
    | zero => intro i hi; omega
    | succ N ih =>
      intro i hi v hv
      rcases Nat.lt_or_ge i N with h1 | h1
      · exact ih i h1 v hv
      · rcases Nat.eq_zero_or_pos (chkf v a) with e | e
        · exact e
        · have := chkL_at (i := i) (fun j w hj hw => ih j (by omega) w hw) hv (by omega)
          omega
  exact key (i + 1) i (by omega) u hi
theorem chkf_0 {t : Tv} {a : Nat} (h : chkf t a = 0) : onef t a = 0 ∧ ∀ u ∈ t.is, chkf u (a + 1) = 0 := by
  rw [chkf_eq] at h
  split at h
  · rename_i h1
    exact ⟨h1, chkL_all h⟩
  · rename_i h1
    exact absurd h h1
theorem tidy_k {t : Tv} (h : tidyf t = true) : 1 ≤ t.k ∧ t.k ≤ 9 ∧ t.zr.cl = true := by
  unfold tidyf at h
  rw [Bool.and_eq_true, decide_eq_true_eq] at h
  exact ⟨h.1.1, h.1.2, h.2⟩
theorem cl_all {t : Tv} (h : t.cl = true) : t.f = false ∧ t.g = false ∧ t.n = 0 ∧ t.b = 0 ∧ t.s = ⟨#[]⟩ ∧ t.l = ⟨0, 0, 0, []⟩ ∧ t.y = [] ∧ t.ks = [] ∧ t.is = [] := by
  unfold Tv.cl at h
  simp only [Bool.and_eq_true, Bool.not_eq_true', decide_eq_true_eq, List.isEmpty_iff] at h
  exact h
theorem tidy_9 {t : Tv} (h : tidyf t = true) (h9 : t.k = 9) : t.f = false ∧ t.g = false ∧ t.n = 0 ∧ t.b = 0 ∧ t.s = ⟨#[]⟩ ∧ t.y = [] ∧ t.l = ⟨0, 0, 0, []⟩ := by
  have h1 := (tidy_k h).2.2
  have e : t.zr = .mk t.k t.f t.g t.n t.b t.s t.y t.l [] [] := by unfold Tv.zr; simp [h9]
  rw [e] at h1
  obtain ⟨a1, a2, a3, a4, a5, a6, a7, _⟩ := cl_all h1
  exact ⟨a1, a2, a3, a4, a5, a7, a6⟩
theorem tidy_ks {t : Tv} (h : tidyf t = true) (h9 : t.k ≠ 9) : t.ks = [] := by
  have h1 := (cl_all (tidy_k h).2.2).2.2.2.2.2.2.2.1
  have e : t.zr.ks = t.ks := by
    unfold Tv.zr
    rw [if_neg h9]
    repeat' split
    all_goals rfl
  rw [e] at h1
  exact h1
theorem tidy_is {t : Tv} (h : tidyf t = true) (h8 : t.k ≠ 8) (h9 : t.k ≠ 9) : t.is = [] := by
  have h1 := (cl_all (tidy_k h).2.2).2.2.2.2.2.2.2.2
  have e : t.zr.is = t.is := by
    unfold Tv.zr
    rw [if_neg h9, if_neg h8]
    repeat' split
    all_goals rfl
  rw [e] at h1
  exact h1
theorem chk_trk {t : Tv} {a : Nat} (h : chkf t a = 0) : Trk t := by
  have key : ∀ N, ∀ t : Tv, SizeOf.sizeOf t = N → ∀ a, chkf t a = 0 → Trk t := by
    intro N
    induction N using Nat.strongRecOn with
    | _ N ih =>
      intro t hN a h
      obtain ⟨h1, h2⟩ := chkf_0 h
      obtain ⟨_, htd, _, _, _, hks⟩ := onef_0 h1
      refine Trk.mk t (fun h9 => ?_) (fun h9 => tidy_ks htd h9) fun u hu => ih _ (by have := Tv.is_lt hu; omega) u rfl _ (h2 u hu)
      have h3 : t.ks.length = t.is.length ∧ t.ks.Nodup := by
        apply Classical.byContradiction
        intro hh
        exact hks ⟨h9, hh⟩
      exact ⟨h3.1, h3.2, tidy_9 htd h9⟩
  exact key _ t rfl a h

theorem cl_is {k : Int} {f g : Bool} {n b : Nat} {s : ByteArray} {y : List Nat} {l : Lk} {ks : List ByteArray} {is is' : List Tv} (he : is'.isEmpty = is.isEmpty) : (Tv.mk k f g n b s y l ks is').cl = (Tv.mk k f g n b s y l ks is).cl := by
  show (!f && (!g && (decide (n = 0) && (decide (b = 0) && (decide (s = ⟨#[]⟩) && (decide (l = ⟨0, 0, 0, []⟩) && (decide (y = []) && (decide (ks = []) && is'.isEmpty)))))))) = (!f && (!g && (decide (n = 0) && (decide (b = 0) && (decide (s = ⟨#[]⟩) && (decide (l = ⟨0, 0, 0, []⟩) && (decide (y = []) && (decide (ks = []) && is.isEmpty))))))))
  rw [he]
theorem tidy_top {t w : Tv} (hT : Top t w) (hk : w.ks = t.ks) (he : w.is.isEmpty = t.is.isEmpty) : tidyf w = tidyf t := by
  obtain ⟨k, f, g, n, b, s, y, l, ks, is⟩ := t
  obtain ⟨k', f', g', n', b', s', y', l', ks', is'⟩ := w
  obtain ⟨h1, h2, h3, h4, h5, h6, h7, h8⟩ := hT
  simp only [Tv.k, Tv.f, Tv.g, Tv.n, Tv.b, Tv.s, Tv.y, Tv.l, Tv.ks, Tv.is] at *
  subst h1 h2 h3 h4 h5 h6 h7 h8 hk
  have hz : (Tv.mk k' f' g' n' b' s' y' l' ks' is').zr.cl = (Tv.mk k' f' g' n' b' s' y' l' ks' is).zr.cl := by
    by_cases e2 : k' = 2
    · have z1 : (Tv.mk k' f' g' n' b' s' y' l' ks' is').zr = .mk k' false g' n' b' s' y' l' ks' is' := by unfold Tv.zr; simp [Tv.k, Tv.g, Tv.n, Tv.b, Tv.s, Tv.y, Tv.l, Tv.ks, Tv.is, e2]
      have z2 : (Tv.mk k' f' g' n' b' s' y' l' ks' is).zr = .mk k' false g' n' b' s' y' l' ks' is := by unfold Tv.zr; simp [Tv.k, Tv.g, Tv.n, Tv.b, Tv.s, Tv.y, Tv.l, Tv.ks, Tv.is, e2]
      rw [z1, z2, cl_is he]
    by_cases e3 : k' = 3
    · have z1 : (Tv.mk k' f' g' n' b' s' y' l' ks' is').zr = .mk k' f' false 0 b' s' y' l' ks' is' := by unfold Tv.zr; simp [Tv.k, Tv.f, Tv.b, Tv.s, Tv.y, Tv.l, Tv.ks, Tv.is, e3]
      have z2 : (Tv.mk k' f' g' n' b' s' y' l' ks' is).zr = .mk k' f' false 0 b' s' y' l' ks' is := by unfold Tv.zr; simp [Tv.k, Tv.f, Tv.b, Tv.s, Tv.y, Tv.l, Tv.ks, Tv.is, e3]
      rw [z1, z2, cl_is he]
    by_cases e4 : k' = 4
    · have z1 : (Tv.mk k' f' g' n' b' s' y' l' ks' is').zr = .mk k' f' g' n' 0 s' y' l' ks' is' := by unfold Tv.zr; simp [Tv.k, Tv.f, Tv.g, Tv.n, Tv.s, Tv.y, Tv.l, Tv.ks, Tv.is, e4]
      have z2 : (Tv.mk k' f' g' n' b' s' y' l' ks' is).zr = .mk k' f' g' n' 0 s' y' l' ks' is := by unfold Tv.zr; simp [Tv.k, Tv.f, Tv.g, Tv.n, Tv.s, Tv.y, Tv.l, Tv.ks, Tv.is, e4]
      rw [z1, z2, cl_is he]
    by_cases e5 : k' = 5
    · have z1 : (Tv.mk k' f' g' n' b' s' y' l' ks' is').zr = .mk k' f' g' n' b' ⟨#[]⟩ y' l' ks' is' := by unfold Tv.zr; simp [Tv.k, Tv.f, Tv.g, Tv.n, Tv.b, Tv.y, Tv.l, Tv.ks, Tv.is, e5]
      have z2 : (Tv.mk k' f' g' n' b' s' y' l' ks' is).zr = .mk k' f' g' n' b' ⟨#[]⟩ y' l' ks' is := by unfold Tv.zr; simp [Tv.k, Tv.f, Tv.g, Tv.n, Tv.b, Tv.y, Tv.l, Tv.ks, Tv.is, e5]
      rw [z1, z2, cl_is he]
    by_cases e6 : k' = 6
    · have z1 : (Tv.mk k' f' g' n' b' s' y' l' ks' is').zr = .mk k' f' g' n' b' s' [] l' ks' is' := by unfold Tv.zr; simp [Tv.k, Tv.f, Tv.g, Tv.n, Tv.b, Tv.s, Tv.l, Tv.ks, Tv.is, e6]
      have z2 : (Tv.mk k' f' g' n' b' s' y' l' ks' is).zr = .mk k' f' g' n' b' s' [] l' ks' is := by unfold Tv.zr; simp [Tv.k, Tv.f, Tv.g, Tv.n, Tv.b, Tv.s, Tv.l, Tv.ks, Tv.is, e6]
      rw [z1, z2, cl_is he]
    by_cases e7 : k' = 7
    · have z1 : (Tv.mk k' f' g' n' b' s' y' l' ks' is').zr = .mk k' f' g' n' b' s' y' ⟨0, 0, 0, []⟩ ks' is' := by unfold Tv.zr; simp [Tv.k, Tv.f, Tv.g, Tv.n, Tv.b, Tv.s, Tv.y, Tv.ks, Tv.is, e7]
      have z2 : (Tv.mk k' f' g' n' b' s' y' l' ks' is).zr = .mk k' f' g' n' b' s' y' ⟨0, 0, 0, []⟩ ks' is := by unfold Tv.zr; simp [Tv.k, Tv.f, Tv.g, Tv.n, Tv.b, Tv.s, Tv.y, Tv.ks, Tv.is, e7]
      rw [z1, z2, cl_is he]
    by_cases e8 : k' = 8
    · have z1 : (Tv.mk k' f' g' n' b' s' y' l' ks' is').zr = .mk k' f' g' n' b' s' y' l' ks' [] := by unfold Tv.zr; simp [Tv.k, Tv.f, Tv.g, Tv.n, Tv.b, Tv.s, Tv.y, Tv.l, Tv.ks, e8]
      have z2 : (Tv.mk k' f' g' n' b' s' y' l' ks' is).zr = .mk k' f' g' n' b' s' y' l' ks' [] := by unfold Tv.zr; simp [Tv.k, Tv.f, Tv.g, Tv.n, Tv.b, Tv.s, Tv.y, Tv.l, Tv.ks, e8]
      rw [z1, z2]
    by_cases e9 : k' = 9
    · have z1 : (Tv.mk k' f' g' n' b' s' y' l' ks' is').zr = .mk k' f' g' n' b' s' y' l' [] [] := by unfold Tv.zr; simp [Tv.k, Tv.f, Tv.g, Tv.n, Tv.b, Tv.s, Tv.y, Tv.l, e9]
      have z2 : (Tv.mk k' f' g' n' b' s' y' l' ks' is).zr = .mk k' f' g' n' b' s' y' l' [] [] := by unfold Tv.zr; simp [Tv.k, Tv.f, Tv.g, Tv.n, Tv.b, Tv.s, Tv.y, Tv.l, e9]
      rw [z1, z2]
    have z1 : (Tv.mk k' f' g' n' b' s' y' l' ks' is').zr = .mk k' f' g' n' b' s' y' l' ks' is' := by unfold Tv.zr; simp [Tv.k, e2, e3, e4, e5, e6, e7, e8, e9]
    have z2 : (Tv.mk k' f' g' n' b' s' y' l' ks' is).zr = .mk k' f' g' n' b' s' y' l' ks' is := by unfold Tv.zr; simp [Tv.k, e2, e3, e4, e5, e6, e7, e8, e9]
    rw [z1, z2, cl_is he]
  unfold tidyf
  rw [hz]
  rfl
/-! Maps' entries in another order. -/
inductive Trn : Tv → Tv → Prop
  | rest (t w : Tv) (h9 : t.k ≠ 9) (ht : Top t w) (hk : w.ks = t.ks) (hn : w.is.length = t.is.length) (hi : ∀ (i : Nat) (u v : Tv), t.is[i]? = some u → w.is[i]? = some v → Trn u v) : Trn t w
  | map (t w : Tv) (ps : List Nat) (h9 : t.k = 9) (ht : Top t w) (hp : ps.Perm (List.range t.is.length)) (hk : w.ks = pickS t.ks ps) (hn : w.is.length = t.is.length) (hi : ∀ (i p : Nat) (u v : Tv), ps[i]? = some p → t.is[p]? = some u → w.is[i]? = some v → Trn u v) : Trn t w
theorem pickS_perm {ks : List ByteArray} {ps : List Nat} {n : Nat} (hn : ks.length = n) (hp : ps.Perm (List.range n)) : (pickS ks ps).Perm ks := by
  have h1 : (pickS ks ps).Perm (pickS ks (List.range ks.length)) := by
    unfold pickS
    rw [hn]
    exact hp.map _
  rw [pickS_range] at h1
  exact h1
theorem trn_trk {t w : Tv} (h : Trn t w) : Trk t → Trk w := by
  induction h with
  | rest t w h9 hT hk hn hi ih =>
    intro ht
    refine Trk.mk w (fun h => absurd (hT.k.symm.trans h) h9) (fun _ => hk.trans (ht.e h9)) fun v hv => ?_
    obtain ⟨i, hv⟩ := List.getElem?_of_mem hv
    have hl := (List.getElem?_eq_some_iff.1 hv).1
    have e := List.getElem?_eq_getElem (show i < t.is.length by omega)
    exact ih i _ _ e hv (ht.i _ (List.mem_of_getElem? e))
  | map t w ps h9 hT hp hk hn hi ih =>
    intro ht
    obtain ⟨hlen, hnd, h1, h2, h3, h4, h5, h6, h7⟩ := ht.m h9
    refine Trk.mk w (fun _ => ⟨?_, ?_, hT.f.trans h1, hT.g.trans h2, hT.n.trans h3, hT.b.trans h4, hT.s.trans h5, hT.y.trans h6, hT.l.trans h7⟩) (fun h => absurd (hT.k.trans h9) h) fun v hv => ?_
    · rw [hk, pickS_len, perm_len hp, hn]
    · rw [hk]
      exact (pickS_perm hlen hp).nodup_iff.2 hnd
    · obtain ⟨i, hv⟩ := List.getElem?_of_mem hv
      have hl := (List.getElem?_eq_some_iff.1 hv).1
      have hpl := perm_len hp
      have e0 := List.getElem?_eq_getElem (show i < ps.length by omega)
      have hlt := perm_lt hp e0
      have e := List.getElem?_eq_getElem hlt
      exact ih i _ _ _ e0 e hv (ht.i _ (List.mem_of_getElem? e))
theorem trn_chk {t w : Tv} (h : Trn t w) : ∀ {a : Nat}, chkf t a = 0 → chkf w a = 0 := by
  induction h with
  | rest t w h9 hT hk hn hi ih =>
    intro a h
    obtain ⟨h1, h2⟩ := chkf_0 h
    obtain ⟨c1, c2, c3, c4, c5, c6⟩ := onef_0 h1
    rw [chkf_eq]
    have e : onef w a = 0 := by
      have hz : tidyf w = true := by
        have he : w.is = [] ↔ t.is = [] := by
          rw [← List.length_eq_zero_iff, ← List.length_eq_zero_iff, hn]
        have hie : w.is.isEmpty = t.is.isEmpty := by rw [Bool.eq_iff_iff, List.isEmpty_iff, List.isEmpty_iff, he]
        exact (tidy_top hT hk hie).trans c2
      unfold onef
      rw [hT.k, hz, hT.b, c3, hT.s, hk, c4, hT.l, if_neg c1, if_neg (by simp), if_neg (by simp), if_neg (by simp), if_neg c5, if_neg (fun h => h9 h.1)]
    rw [if_pos e]
    refine chkL_none fun v hv => ?_
    obtain ⟨i, hv⟩ := List.getElem?_of_mem hv
    have hl := (List.getElem?_eq_some_iff.1 hv).1
    have e2 := List.getElem?_eq_getElem (show i < t.is.length by omega)
    exact ih i _ _ e2 hv (h2 _ (List.mem_of_getElem? e2))
  | map t w ps h9 hT hp hk hn hi ih =>
    intro a h
    obtain ⟨h1, h2⟩ := chkf_0 h
    obtain ⟨c1, c2, c3, c4, c5, c6⟩ := onef_0 h1
    have htk := chk_trk h
    obtain ⟨hlen, hnd, _⟩ := htk.m h9
    have hpm := pickS_perm hlen hp
    rw [chkf_eq]
    have e : onef w a = 0 := by
      have hz : tidyf w = true := by
        obtain ⟨b1, b2, b3, b4, b5, b6, b7⟩ := tidy_9 c2 h9
        have ez : w.zr = .mk w.k w.f w.g w.n w.b w.s w.y w.l [] [] := by unfold Tv.zr; simp [hT.k, h9]
        unfold tidyf
        rw [ez, hT.k, hT.f, hT.g, hT.n, hT.b, hT.s, hT.y, hT.l, b1, b2, b3, b4, b5, b6, b7, h9]
        decide
      have hb : w.ks.any badb = t.ks.any badb := by rw [hk]; exact hpm.any_eq
      unfold onef
      rw [hT.k, hz, hT.b, c3, hT.s, hb, c4, hT.l, if_neg c1, if_neg (by simp), if_neg (by simp), if_neg (by simp), if_neg c5, if_neg (fun h => h.2 ⟨by rw [hk, pickS_len, perm_len hp, hn], by rw [hk]; exact hpm.nodup_iff.2 hnd⟩)]
    rw [if_pos e]
    refine chkL_none fun v hv => ?_
    obtain ⟨i, hv⟩ := List.getElem?_of_mem hv
    have hl := (List.getElem?_eq_some_iff.1 hv).1
    have hpl := perm_len hp
    have e0 := List.getElem?_eq_getElem (show i < ps.length by omega)
    have hlt := perm_lt hp e0
    have e2 := List.getElem?_eq_getElem hlt
    exact ih i _ _ _ e0 e2 hv (h2 _ (List.mem_of_getElem? e2))
/-- Turned values are sorted alike. -/
theorem trn_srt {t s : Tv} (h : SrtR t s) : ∀ {w : Tv}, Trk t → Trn t w → SrtR w s := by
  induction h with
  | rest t s h9 hT hk hn hi ih =>
    intro w ht h'
    cases h' with
    | map _ _ _ h9' => exact absurd h9' h9
    | rest _ _ _ hT' hk' hn' hi' =>
      refine SrtR.rest w s (by rw [hT'.k]; exact h9) (hT'.both hT) (hk.trans hk'.symm) (hn.trans hn'.symm) fun i u v hu hv => ?_
      have hl := (List.getElem?_eq_some_iff.1 hu).1
      have e := List.getElem?_eq_getElem (show i < t.is.length by omega)
      exact ih i _ _ e hv (ht.i _ (List.mem_of_getElem? e)) (hi' i _ _ e hu)
  | map t s ps h9 hT hp hk hn hi ih =>
    intro w ht h'
    cases h' with
    | rest _ _ h9' => exact absurd h9 h9'
    | map _ _ pt _ hT' hp' hk' hn' hi' =>
      obtain ⟨hlen, hnd, _⟩ := ht.m h9
      have hmin : min t.ks.length t.is.length = t.is.length := by omega
      rw [hmin] at hp
      have hpl := hp.len
      have hptl := perm_len hp'
      have hwk : w.ks.length = w.is.length := by rw [hk', pickS_len, hptl, hn']
      have hat : ∀ {p}, p < t.is.length → pt[pt.idxOf p]? = some p := fun {p} hpp => by
        have hm : p ∈ pt := hp'.mem_iff.2 (by simpa using hpp)
        rw [List.getElem?_eq_getElem (List.idxOf_lt_length_of_mem hm)]
        simp
      have hkey : ∀ {p}, p < t.is.length → w.ks.getD (pt.idxOf p) ⟨#[]⟩ = t.ks.getD p ⟨#[]⟩ := fun {p} hpp => by
        rw [hk', List.getD_eq_getElem?_getD, pickS_at (hat hpp)]
        rfl
      have hlt : ∀ {p}, p < t.is.length → pt.idxOf p < t.is.length := fun {p} hpp => by
        have := (List.getElem?_eq_some_iff.1 (hat hpp)).1
        omega
      have hnp : ps.Nodup := hp.p.nodup_iff.2 List.nodup_range
      have hqs : (ps.map fun p => pt.idxOf p).Perm (List.range t.is.length) := by
        have hnq : (ps.map fun p => pt.idxOf p).Nodup := by
          rw [List.nodup_iff_pairwise_ne, List.pairwise_map]
          refine hnp.imp_of_mem ?_
          intro a b ha hb hab e
          have e1 := hat (hp.lt a ha)
          have e2 := hat (hp.lt b hb)
          rw [e, e2] at e1
          injection e1 with e1
          exact hab e1.symm
        refine (List.perm_ext_iff_of_nodup hnq List.nodup_range).2 fun q => ?_
        rw [List.mem_range, List.mem_map]
        constructor
        · rintro ⟨p, hpm, rfl⟩
          exact hlt (hp.lt p hpm)
        · intro hq
          have hq2 : q < pt.length := by omega
          have hpp := perm_lt hp' (List.getElem?_eq_getElem hq2)
          refine ⟨pt[q], hp.p.mem_iff.2 (by simpa using hpp), ?_⟩
          exact (hp'.nodup_iff.2 List.nodup_range).idxOf_getElem q hq2
      refine SrtR.map w s (ps.map fun p => pt.idxOf p) (hT'.k.trans h9) (hT'.both hT) ?_ ?_ ?_ ?_
      · rw [show min w.ks.length w.is.length = t.is.length by omega]
        refine ⟨hqs, ?_⟩
        intro i j p q hij hpi hqj
        rw [List.getElem?_map] at hpi hqj
        obtain ⟨a, ha, rfl⟩ := Option.map_eq_some_iff.1 hpi
        obtain ⟨b, hb, rfl⟩ := Option.map_eq_some_iff.1 hqj
        rw [hkey (hp.lt a (List.mem_of_getElem? ha)), hkey (hp.lt b (List.mem_of_getElem? hb))]
        exact hp.s i j a b hij ha hb
      · rw [hk]
        unfold pickS
        rw [List.map_map]
        refine List.map_congr_left fun p hpm => ?_
        exact (hkey (hp.lt p hpm)).symm
      · rw [hn, List.length_map]
      · intro i q u v hq hu hv
        rw [List.getElem?_map] at hq
        obtain ⟨p, hpi, rfl⟩ := Option.map_eq_some_iff.1 hq
        have hpp := hp.lt p (List.mem_of_getElem? hpi)
        have e := List.getElem?_eq_getElem hpp
        exact ih i p _ v hpi e hv (ht.i _ (List.mem_of_getElem? e)) (hi' _ p _ u (hat hpp) e hu)
end
section
open Go.RowKit Go
theorem much_sum : ∀ l : List Tv, tmuchL l = (l.map tmuch).sum
  | [] => by simp [tmuchL]
  | t :: r => by rw [tmuchL, much_sum r]; simp
theorem pick_nat {l ps : List Nat} (hp : ps.Perm (List.range l.length)) : (ps.map fun p => l.getD p 0).sum = l.sum := by
  have h1 : (ps.map fun p => l.getD p 0).Perm ((List.range l.length).map fun p => l.getD p 0) := hp.map _
  have h2 : ((List.range l.length).map fun p => l.getD p 0) = l := by
    refine List.ext_getElem? fun i => ?_
    rw [List.getElem?_map]
    by_cases hi : i < l.length
    · rw [List.getElem?_range hi]
      simp [List.getD, hi]
    · rw [List.getElem?_eq_none (by simpa using hi), List.getElem?_eq_none (by omega)]
      rfl
  rw [h2] at h1
  exact h1.sum_nat
theorem trn_much {t w : Tv} (h : Trn t w) : Trk t → tmuch w = tmuch t := by
  induction h with
  | rest t w h9 hT hk hn hi ih =>
    intro ht
    have e : tmuchL w.is = tmuchL t.is := by
      rw [much_sum, much_sum]
      congr 1
      refine List.ext_getElem? fun i => ?_
      rw [List.getElem?_map, List.getElem?_map]
      by_cases hl : i < t.is.length
      · have e1 := List.getElem?_eq_getElem hl
        have e2 := List.getElem?_eq_getElem (show i < w.is.length by omega)
        rw [e1, e2, Option.map_some, Option.map_some, ih i _ _ e1 e2 (ht.i _ (List.getElem_mem hl))]
      · rw [List.getElem?_eq_none (by omega), List.getElem?_eq_none (by omega)]
    rw [tmuch_eq, tmuch_eq, e, hk, hT.y, hT.s, hT.l]
  | map t w ps h9 hT hp hk hn hi ih =>
    intro ht
    obtain ⟨hlen, _⟩ := ht.m h9
    have hpl := perm_len hp
    have e : tmuchL w.is = tmuchL t.is := by
      rw [much_sum, much_sum, ← pick_nat (l := t.is.map tmuch) (ps := ps) (by rw [List.length_map]; exact hp)]
      congr 1
      refine List.ext_getElem? fun i => ?_
      rw [List.getElem?_map, List.getElem?_map]
      by_cases hl : i < ps.length
      · have e0 := List.getElem?_eq_getElem hl
        have hlt := perm_lt hp e0
        have e1 := List.getElem?_eq_getElem hlt
        have e2 := List.getElem?_eq_getElem (show i < w.is.length by omega)
        rw [e0, e2, Option.map_some, Option.map_some, ih i _ _ _ e0 e1 e2 (ht.i _ (List.getElem_mem hlt))]
        simp [List.getD, hlt]
      · rw [List.getElem?_eq_none (by omega), List.getElem?_eq_none (by omega)]
        rfl
    have hkp := pickS_perm hlen hp
    rw [← hk] at hkp
    have e2 : (w.ks.map fun k => k.size / 64).sum = (t.ks.map fun k => k.size / 64).sum := (hkp.map _).sum_nat
    rw [tmuch_eq, tmuch_eq, e, e2, hkp.length_eq, hT.y, hT.s, hT.l]
theorem srt_trn {t s : Tv} (h : SrtR t s) : Trk t → Trn t s := by
  induction h with
  | rest t s h9 hT hk hn hi ih =>
    intro ht
    exact Trn.rest t s h9 hT hk hn fun i u v hu hv => ih i u v hu hv (ht.i _ (List.mem_of_getElem? hu))
  | map t s ps h9 hT hp hk hn hi ih =>
    intro ht
    obtain ⟨hlen, _⟩ := ht.m h9
    have e : min t.ks.length t.is.length = t.is.length := by omega
    have hpp := hp.p
    rw [e] at hpp
    exact Trn.map t s ps h9 hT hpp hk (by rw [hn, perm_len hpp]) fun i p u v hp' hu hv => ih i p u v hp' hu hv (ht.i _ (List.mem_of_getElem? hu))
end
section
open Go.RowKit Go
/-! Checked at another depth. -/
theorem onef_at (t : Tv) (a : Nat) : onef t a = 0 ↔ onef t 0 = 0 ∧ ((t.k = 8 ∨ t.k = 9) → a < 1024) := by
  constructor
  · intro h
    obtain ⟨h1, h2, h3, h4, h5, h6⟩ := onef_0 h
    refine ⟨?_, fun hk => by
      rcases Nat.lt_or_ge a 1024 with h | h
      · exact h
      · exact absurd ⟨hk, h⟩ h1⟩
    unfold onef
    rw [if_neg (fun h => by have := h.2; omega), if_neg (by rw [h2]; simp), if_neg (by rw [h3]; simp), if_neg (by rw [h4]; simp), if_neg h5, if_neg h6]
  · rintro ⟨h, hk⟩
    obtain ⟨_, h2, h3, h4, h5, h6⟩ := onef_0 h
    unfold onef
    rw [if_neg (fun h => by have := hk h.1; have := h.2; omega), if_neg (by rw [h2]; simp), if_neg (by rw [h3]; simp), if_neg (by rw [h4]; simp), if_neg h5, if_neg h6]
theorem chkf_mk {t : Tv} {a : Nat} (h : onef t a = 0) (hi : ∀ u ∈ t.is, chkf u (a + 1) = 0) : chkf t a = 0 := by
  rw [chkf_eq, if_pos h]
  exact chkL_none hi
theorem depth_mem {l : List Tv} {u : Tv} (h : u ∈ l) : tdepth u ≤ tdepthL l := by
  obtain ⟨i, hi⟩ := List.getElem?_of_mem h
  exact depthL_le.1 (Nat.le_refl _) i u hi
theorem chk_depth (t : Tv) : ∀ a, chkf t a = 0 ↔ chkf t 0 = 0 ∧ (tdepth t = 0 ∨ a + tdepth t ≤ 1024) := by
  have key : ∀ N, ∀ t : Tv, SizeOf.sizeOf t = N → ∀ a, chkf t a = 0 ↔ chkf t 0 = 0 ∧ (tdepth t = 0 ∨ a + tdepth t ≤ 1024) := by
    intro N
    induction N using Nat.strongRecOn with
    | _ N ih =>
      intro t hN a
      have ih2 : ∀ u ∈ t.is, ∀ a, chkf u a = 0 ↔ chkf u 0 = 0 ∧ (tdepth u = 0 ∨ a + tdepth u ≤ 1024) := fun u hu => ih _ (by rw [← hN]; exact Tv.is_lt hu) u rfl
      have hd := depth_eq t
      by_cases hk : t.k = 8 ∨ t.k = 9
      · rw [if_pos hk] at hd
        constructor
        · intro h
          obtain ⟨h1, h2⟩ := chkf_0 h
          obtain ⟨h3, h4⟩ := (onef_at t a).1 h1
          have ha := h4 hk
          have hb : a + 1 + tdepthL t.is ≤ 1024 := by
            have h5 : tdepthL t.is ≤ 1024 - (a + 1) := depthL_le.2 fun i u hu => by
              have := ((ih2 u (List.mem_of_getElem? hu) (a + 1)).1 (h2 u (List.mem_of_getElem? hu))).2
              omega
            omega
          refine ⟨chkf_mk h3 fun u hu => ?_, .inr (by omega)⟩
          obtain ⟨h5, h6⟩ := (ih2 u hu (a + 1)).1 (h2 u hu)
          exact (ih2 u hu (0 + 1)).2 ⟨h5, by omega⟩
        · rintro ⟨h, hb⟩
          obtain ⟨h1, h2⟩ := chkf_0 h
          refine chkf_mk ((onef_at t a).2 ⟨h1, fun _ => by omega⟩) fun u hu => ?_
          have h5 := ((ih2 u hu (0 + 1)).1 (h2 u hu)).1
          have h6 := depth_mem hu
          exact (ih2 u hu (a + 1)).2 ⟨h5, by omega⟩
      · rw [if_neg hk] at hd
        have he : ∀ {b}, onef t b = 0 → t.is = [] := fun {b} h => tidy_is (onef_0 h).2.1 (fun e => hk (.inl e)) (fun e => hk (.inr e))
        constructor
        · intro h
          obtain ⟨h1, _⟩ := chkf_0 h
          have e := he h1
          exact ⟨chkf_mk ((onef_at t a).1 h1).1 (by rw [e]; simp), .inl hd⟩
        · rintro ⟨h, _⟩
          obtain ⟨h1, _⟩ := chkf_0 h
          have e := he h1
          exact chkf_mk ((onef_at t a).2 ⟨h1, fun h => absurd h hk⟩) (by rw [e]; simp)
  exact key _ t rfl
end
section
open Go.RowKit Go
/-! One item is another one. -/
theorem wi_top (t : Tv) (l : List Tv) : Top t (t.wi l) := ⟨rfl, rfl, rfl, rfl, rfl, rfl, rfl, rfl⟩
theorem teq_repl {t t' : Tv} (ht : Trk t) (ht' : Trk t') (hk : t'.k = t.k) (hks : t'.ks = t.ks) (hn : t'.is.length = t.is.length) {i : Nat} {u u' : Tv} (hu : t.is[i]? = some u) (hu' : t'.is[i]? = some u') (h : Teq t t') : Teq u u' := by
  by_cases h9 : t.k = 9
  · obtain ⟨hlen, _⟩ := ht.m h9
    have spa := pls_srp (t := t) (by omega)
    have spb : Srp t'.ks (min t'.ks.length t'.is.length) (pls t) := by rw [hks, hn]; exact spa
    have h1 := ((teq_map ht ht' h9 (hk.trans h9) spa spb).1 h).2
    have hil := (List.getElem?_eq_some_iff.1 hu).1
    obtain ⟨j, hj⟩ := perm_at spa.p (show i < min t.ks.length t.is.length by omega)
    exact (h1 j i i hj hj).2 u u' hu hu'
  · exact (teq_items h9 h).2 i u u' hu hu'
theorem chk_repl {t : Tv} {l : List Tv} {i : Nat} {u u' : Tv} (h : chkf t 0 = 0) (hu : t.is[i]? = some u) (hl : l = t.is.set i u') (hc : chkf u' 0 = 0) (hd : tdepth u' ≤ tdepth u) : chkf (t.wi l) 0 = 0 ∧ tdepth (t.wi l) ≤ tdepth t := by
  obtain ⟨h1, h2⟩ := chkf_0 h
  have hil := (List.getElem?_eq_some_iff.1 hu).1
  have hlen : (t.wi l).is.length = t.is.length := by show l.length = _; rw [hl, List.length_set]
  have hat : ∀ v ∈ (t.wi l).is, v = u' ∨ v ∈ t.is := fun v hv => by
    have hv2 : v ∈ l := hv
    rw [hl] at hv2
    rcases List.mem_or_eq_of_mem_set hv2 with h | h
    · exact .inr h
    · exact .inl h
  have hum := List.mem_of_getElem? hu
  constructor
  · refine chkf_mk ?_ fun v hv => ?_
    · obtain ⟨c1, c2, c3, c4, c5, c6⟩ := onef_0 h1
      have he : (t.wi l).is.isEmpty = t.is.isEmpty := by
        rw [Bool.eq_iff_iff, List.isEmpty_iff, List.isEmpty_iff, ← List.length_eq_zero_iff, ← List.length_eq_zero_iff, hlen]
      have hz : tidyf (t.wi l) = true := (tidy_top (wi_top t l) rfl he).trans c2
      have hT := wi_top t l
      have hks : (t.wi l).ks = t.ks := rfl
      unfold onef
      rw [hT.k, hz, hT.b, c3, hT.s, hks, c4, hT.l, if_neg c1, if_neg (by simp), if_neg (by simp), if_neg (by simp), if_neg c5, if_neg (fun h => by rw [hlen] at h; exact c6 h)]
    · rcases hat v hv with rfl | hv
      · have h5 := ((chk_depth u (0 + 1)).1 (h2 u hum)).2
        exact (chk_depth v (0 + 1)).2 ⟨hc, by omega⟩
      · exact h2 v hv
  · rw [depth_eq, depth_eq, (wi_top t l).k]
    have hle : tdepthL (t.wi l).is ≤ tdepthL t.is := depthL_le.2 fun j v hv => by
      rcases hat v (List.mem_of_getElem? hv) with rfl | hv
      · exact Nat.le_trans hd (depth_mem hum)
      · exact depth_mem hv
    split <;> omega
theorem teq_len {a b : Tv} (ha : Trk a) (hb : Trk b) (h : Teq a b) : a.is.length = b.is.length := by
  have hk := (teq_top h).k
  by_cases h9 : a.k = 9
  · have spa := pls_srp (t := a) (by omega)
    have spb := pls_srp (t := b) (by omega)
    have h1 := ((teq_map ha hb h9 (hk.trans h9) spa spb).1 h).1
    have l1 := spa.len
    have l2 := spb.len
    have k1 := (ha.m h9).1
    have k2 := (hb.m (hk.trans h9)).1
    omega
  · exact (teq_items h9 h).1
end
section
open Go.RowKit Go
theorem cell_lt6 {w : World} {a : Addr} {v : Value} (h : w.cell? a = some v) : a.block < w.heap.size := by
  rcases Nat.lt_or_ge a.block w.heap.size with h1 | h1
  · exact h1
  · unfold World.cell? at h
    rw [Array.getElem?_eq_none h1] at h
    cases h
/-! A value in memory that does not lie in a set of blocks. -/
inductive Tis (w : World) (S : Nat → Prop) : Tv → Array Value → Prop
  | mk (t : Tv) (vy vk vi : Value) (hb : Tbd t) (hy : BSl w vy t.y) (hys : t.y ≠ [] → ∀ q, vy.ownBlock = some q → ¬ S q) (hk : SSl w vk t.ks) (hks : t.ks ≠ [] → ∀ q, vk.ownBlock = some q → ¬ S q)
      (cs : Nat → Array Value) (a : Option Addr) (cap : Nat) (hv : vi = .slice a t.is.length cap) (hc : t.is.length ≤ cap ∧ (a = none → cap = 0)) (hm : t.is.length ≤ 140737488351232) (hi : ∀ i u, t.is[i]? = some u → Tis w S u (cs i))
      (ha : t.is = [] ∨ ∃ b off, a = some ⟨b, off, none⟩ ∧ ¬ S b ∧ ∀ i, i < t.is.length → ∀ j u, (cs i)[j]? = some u → w.cell? ⟨b, off + i * 13 + j, none⟩ = some u) : Tis w S t (vcs t vy vk vi)
theorem Tis.tin {w : World} {S : Nat → Prop} {t : Tv} {c : Array Value} (h : Tis w S t c) : Tin w t c := by
  induction h with
  | mk t vy vk vi hb hy hys hk hks cs a cap hv hc hm hi ha ih =>
    subst hv
    refine Tin.mk t vy vk a cap cs hb.n hb.b hb.s hy hb.y hb.l hb.d hk hc hm ih ?_
    rcases ha with ha | ⟨b, off, e, _, ha⟩
    · exact .inl ha
    · exact .inr ⟨b, off, e, ha⟩
theorem bsl_nil6 {w w' : World} {v : Value} (h : BSl w v []) : BSl w' v [] := by
  obtain ⟨⟨a, c, hv, hn, hc⟩, h1, h2⟩ := h
  exact ⟨⟨a, c, hv, hn, .inl rfl⟩, h1, h2⟩
theorem ssl_nil6 {w w' : World} {v : Value} (h : SSl w v []) : SSl w' v [] := by
  obtain ⟨⟨a, c, hv, hn, hc⟩, h1, h2⟩ := h
  exact ⟨⟨a, c, hv, hn, .inl rfl⟩, h1, h2⟩
theorem Kp.ssl {S : Nat → Prop} {w w' : World} (h : Kp S w w') {v : Value} {ks : List ByteArray} (hb : SSl w v ks) (hs : ∀ k, v.ownBlock = some k → ¬ S k) : SSl w' v ks := by
  obtain ⟨⟨a, c, hv, hn, hc⟩, h1, h2⟩ := hb
  refine ⟨⟨a, c, hv, hn, ?_⟩, h1, h2⟩
  rcases hc with hc | ⟨b, off, ha, hc⟩
  · exact .inl hc
  · refine .inr ⟨b, off, ha, fun j s hj => h.cell (hc j s hj) (hs b ?_)⟩
    rw [hv, ha]
    rfl
theorem Tis.kp {w w' : World} {S : Nat → Prop} {t : Tv} {c : Array Value} (h : Tis w S t c) (hk : Kp S w w') : Tis w' S t c := by
  induction h with
  | mk t vy vk vi hb hy hys hkk hks cs a cap hv hc hm hi ha ih =>
    refine Tis.mk t vy vk vi hb ?_ hys ?_ hks cs a cap hv hc hm ih ?_
    · by_cases e : t.y = []
      · rw [e] at hy ⊢
        exact bsl_nil6 hy
      · exact hk.bsl hy (hys e)
    · by_cases e : t.ks = []
      · rw [e] at hkk ⊢
        exact ssl_nil6 hkk
      · exact hk.ssl hkk (hks e)
    · rcases ha with ha | ⟨b, off, e, hs, ha⟩
      · exact .inl ha
      · exact .inr ⟨b, off, e, hs, fun i hi j u hu => hk.cell (ha i hi j u hu) hs⟩
theorem Tis.mono {w : World} {S T : Nat → Prop} {t : Tv} {c : Array Value} (h : Tis w S t c) (hs : ∀ q, T q → S q) : Tis w T t c := by
  induction h with
  | mk t vy vk vi hb hy hys hk hks cs a cap hv hc hm hi ha ih =>
    refine Tis.mk t vy vk vi hb hy (fun e q hq h => hys e q hq (hs q h)) hk (fun e q hq h => hks e q hq (hs q h)) cs a cap hv hc hm ih ?_
    rcases ha with ha | ⟨b, off, e, h1, ha⟩
    · exact .inl ha
    · exact .inr ⟨b, off, e, fun h => h1 (hs b h), ha⟩
theorem Tis.of_tin {w : World} {S : Nat → Prop} {t : Tv} {c : Array Value} (h : Tin w t c) (hs : ∀ q, S q → w.heap.size ≤ q) : Tis w S t c := by
  induction h with
  | mk t vy vk a cap cs hn hb hsz hy hyl hl hld hk hc hm hi ha ih =>
    refine Tis.mk t vy vk _ ⟨hn, hb, hsz, hyl, hl, hld⟩ hy ?_ hk ?_ cs a cap rfl hc hm ih ?_
    · intro e q hq h
      obtain ⟨⟨a', c', hv, _, hcc⟩, _, _⟩ := hy
      obtain ⟨b, off, ha', hcd⟩ := hcc.resolve_left e
      subst hv
      subst ha'
      have e3 : b = q := by simpa [Value.ownBlock] using hq
      subst e3
      have hl : 0 < t.y.length := List.length_pos_iff.2 e
      have h1 := cell_lt6 (hcd 0 hl)
      have := hs _ h
      simp only at h1
      omega
    · intro e q hq h
      obtain ⟨⟨a', c', hv, _, hcc⟩, _, _⟩ := hk
      obtain ⟨b, off, ha', hcd⟩ := hcc.resolve_left e
      subst hv
      subst ha'
      have e3 : b = q := by simpa [Value.ownBlock] using hq
      subst e3
      obtain ⟨s, hs0⟩ : ∃ s, t.ks[0]? = some s := by
        cases hks : t.ks with
        | nil => exact absurd hks e
        | cons s r => exact ⟨s, rfl⟩
      have h1 := cell_lt6 (hcd 0 s hs0)
      have := hs _ h
      simp only at h1
      omega
    · rcases ha with ha | ⟨b, off, e, ha⟩
      · exact .inl ha
      · by_cases e2 : t.is = []
        · exact .inl e2
        · refine .inr ⟨b, off, e, fun h => ?_, ha⟩
          have hl : 0 < t.is.length := List.length_pos_iff.2 e2
          have hz := (hi 0 _ (List.getElem?_eq_getElem hl)).size13
          have h1 := cell_lt6 (ha 0 hl 0 ((cs 0)[0]'(by omega)) (Array.getElem?_eq_getElem (by omega)))
          have := hs _ h
          simp only at h1
          omega
/-- Nor does it lie in what is made later. -/
theorem Tis.widen {w : World} {S : Nat → Prop} {t : Tv} {c : Array Value} (h : Tis w S t c) : Tis w (fun q => S q ∨ w.heap.size ≤ q) t c := by
  induction h with
  | mk t vy vk vi hb hy hys hk hks cs a cap hv hc hm hi ha ih =>
    have hi2 := hi
    refine Tis.mk t vy vk vi hb hy ?_ hk ?_ cs a cap hv hc hm ih ?_
    · intro e q hq h
      rcases h with h | h
      · exact hys e q hq h
      · obtain ⟨⟨a', c', hv', _, hcc⟩, _, _⟩ := hy
        obtain ⟨b, off, ha', hcd⟩ := hcc.resolve_left e
        subst hv'
        subst ha'
        have e3 : b = q := by simpa [Value.ownBlock] using hq
        subst e3
        have hl : 0 < t.y.length := List.length_pos_iff.2 e
        have h1 := cell_lt6 (hcd 0 hl)
        simp only at h1
        omega
    · intro e q hq h
      rcases h with h | h
      · exact hks e q hq h
      · obtain ⟨⟨a', c', hv', _, hcc⟩, _, _⟩ := hk
        obtain ⟨b, off, ha', hcd⟩ := hcc.resolve_left e
        subst hv'
        subst ha'
        have e3 : b = q := by simpa [Value.ownBlock] using hq
        subst e3
        obtain ⟨s, hs0⟩ : ∃ s, t.ks[0]? = some s := by
          cases hks' : t.ks with
          | nil => exact absurd hks' e
          | cons s r => exact ⟨s, rfl⟩
        have h1 := cell_lt6 (hcd 0 s hs0)
        simp only at h1
        omega
    · rcases ha with ha | ⟨b, off, e, hs, ha⟩
      · exact .inl ha
      · by_cases e2 : t.is = []
        · exact .inl e2
        · refine .inr ⟨b, off, e, fun h => ?_, ha⟩
          rcases h with h | h
          · exact hs h
          · have hl : 0 < t.is.length := List.length_pos_iff.2 e2
            have hz := (hi2 0 _ (List.getElem?_eq_getElem hl)).tin.size13
            have h1 := cell_lt6 (ha 0 hl 0 ((cs 0)[0]'(by omega)) (Array.getElem?_eq_getElem (by omega)))
            simp only at h1
            omega
end
section
open Go.RowKit Go
/-- A value out of its parts, none of which lies in S. -/
theorem Tis.of {w : World} {S : Nat → Prop} {t : Tv} {vy vk vi : Value} {B : Nat} {L : List (Array Value)} (hb : Tbd t) (hy : BSl w vy t.y) (hys : t.y ≠ [] → ∀ q, vy.ownBlock = some q → ¬ S q) (hk : SSl w vk t.ks) (hks : t.ks ≠ [] → ∀ q, vk.ownBlock = some q → ¬ S q)
    (hv : w.ownsRow B 29 13 vi t.is.length (vfl L)) (hvs : t.is ≠ [] → ∀ q, vi.ownBlock = some q → ¬ S q) (hm : t.is.length ≤ 140737488351232) (hL : L.length = t.is.length) (h13 : ∀ c ∈ L, c.size = 13) (hi : ∀ (i : Nat) (u : Tv) (c : Array Value), t.is[i]? = some u → L[i]? = some c → Tis w S u c) : Tis w S t (vcs t vy vk vi) := by
  rcases id hv.2 with ⟨e, h0⟩ | ⟨g, cap, cur, e, _, _, h1, _⟩
  · subst e
    have e2 : t.is = [] := List.length_eq_zero_iff.1 h0
    exact Tis.mk t vy vk _ hb hy hys hk hks (fun _ => #[]) none 0 (by rw [h0]) ⟨by omega, fun _ => rfl⟩ hm (fun i u hu => by rw [e2] at hu; simp at hu) (.inl e2)
  · subst e
    refine Tis.mk t vy vk _ hb hy hys hk hks (fun i => L.getD i #[]) (some ⟨g, 0, none⟩) cap rfl ⟨by omega, fun h => by cases h⟩ hm (fun i u hu => ?_) ?_
    · have hil := (List.getElem?_eq_some_iff.1 hu).1
      have hc : L[i]? = some (L.getD i #[]) := by rw [List.getD_eq_getElem?_getD, List.getElem?_eq_getElem (by omega)]; rfl
      exact hi i u _ hu hc
    · by_cases e2 : t.is = []
      · exact .inl e2
      · refine .inr ⟨g, 0, rfl, hvs e2 g rfl, fun i hil j u hu => ?_⟩
        rw [Nat.zero_add]
        have hc : L[i]? = some (L.getD i #[]) := by rw [List.getD_eq_getElem?_getD, List.getElem?_eq_getElem (by omega)]; rfl
        exact own_val hv h13 hc j u hu
end
section
open Go.RowKit Go
/-- A value in new memory, each part of which has blocks of its own. -/
inductive Nts (w : World) : Nat → Nat → Tv → Array Value → Prop
  | mk (lo hi : Nat) (t : Tv) (vy vk vi : Value) (L : List (Array Value)) (a b : Nat → Nat) (hbd : Tbd t) (hyb : ∀ x ∈ t.y, x < 256) (hy : w.ownsRow lo 5 1 vy t.y.length (bv t.y)) (hgy : ∀ q, vy.ownBlock = some q → q < hi) (hk : w.ownsRow lo 9 1 vk t.ks.length (sv t.ks)) (hgk : ∀ q, vk.ownBlock = some q → q < hi) (hkl : t.ks.length ≤ 140737488351232) (hks : ∀ s ∈ t.ks, s.size ≤ 140737488351232)
      (hv : w.ownsRow lo 29 13 vi t.is.length (vfl L)) (hgi : ∀ q, vi.ownBlock = some q → q < hi) (hil : t.is.length ≤ 140737488351232) (hL : L.length = t.is.length) (h13 : ∀ c ∈ L, one13 c)
      (hab : ∀ i, i < t.is.length → lo ≤ a i ∧ a i ≤ b i ∧ b i ≤ hi) (hdj : ∀ i j, i < j → j < t.is.length → b i ≤ a j) (hoi : ∀ i, i < t.is.length → ∀ q, vi.ownBlock = some q → q < a i ∨ b i ≤ q) (hoy : ∀ i, i < t.is.length → ∀ q, vy.ownBlock = some q → q < a i ∨ b i ≤ q) (hok : ∀ i, i < t.is.length → ∀ q, vk.ownBlock = some q → q < a i ∨ b i ≤ q)
      (hcs : ∀ (i : Nat) (u : Tv) (c : Array Value), t.is[i]? = some u → L[i]? = some c → Nts w (a i) (b i) u c) :
      Nts w lo hi t (vcs t vy vk vi)
theorem Nts.ntv {w : World} {lo hi : Nat} {t : Tv} {c : Array Value} (h : Nts w lo hi t c) : Ntv w lo hi t c := by
  induction h with
  | mk lo hi t vy vk vi L a b hbd hyb hy hgy hk hgk hkl hks hv hgi hil hL h13 hab hdj hoi hoy hok hcs ih =>
    exact Ntv.mk t vy vk vi L hbd hyb hy hgy hk hgk hkl hks hv hgi hil hL (fun c hc => (h13 c hc).1) (fun i u c h1 h2 => (ih i u c h1 h2).mono (hab i (List.getElem?_eq_some_iff.1 h1).1).1 (hab i (List.getElem?_eq_some_iff.1 h1).1).2.2)
theorem Nts.one {w : World} {lo hi : Nat} {t : Tv} {c : Array Value} (h : Nts w lo hi t c) : one13 c := h.ntv.one
theorem Nts.tin {w : World} {lo hi : Nat} {t : Tv} {c : Array Value} (h : Nts w lo hi t c) : Tin w t c := h.ntv.tin
theorem Nts.kp {w w' : World} {lo hi : Nat} {t : Tv} {c : Array Value} {S : Nat → Prop} (h : Nts w lo hi t c) (hk : Kp S w w') (hs : ∀ q, lo ≤ q → q < hi → ¬ S q) : Nts w' lo hi t c := by
  induction h with
  | mk lo hi t vy vk vi L a b hbd hyb hy hgy hkk hgk hkl hks hv hgi hil hL h13 hab hdj hoi hoy hok hcs ih =>
    exact Nts.mk lo hi t vy vk vi L a b hbd hyb (hk.owns hy (fun q hq => hs q (hy.lt q hq).1 (hgy q hq))) hgy (hk.owns hkk (fun q hq => hs q (hkk.lt q hq).1 (hgk q hq))) hgk hkl hks (hk.owns hv (fun q hq => hs q (hv.lt q hq).1 (hgi q hq))) hgi hil hL h13 hab hdj hoi hoy hok
      (fun i u c h1 h2 => ih i u c h1 h2 (fun q e1 e2 => hs q (Nat.le_trans (hab i (List.getElem?_eq_some_iff.1 h1).1).1 e1) (Nat.lt_of_lt_of_le e2 (hab i (List.getElem?_eq_some_iff.1 h1).1).2.2)))
theorem Nts.kept {w w' : World} {lo hi : Nat} {t : Tv} {c : Array Value} (h : Nts w lo hi t c) (hb : Below w.heap.size w w') : Nts w' lo hi t c := h.kp (Kp.of_below (S := fun _ => False) hb) (fun _ _ _ h => h)
theorem Nts.mono {w : World} {lo hi lo' hi' : Nat} {t : Tv} {c : Array Value} (h : Nts w lo hi t c) (h1 : lo' ≤ lo) (h2 : hi ≤ hi') : Nts w lo' hi' t c := by
  cases h with
  | mk _ _ _ vy vk vi L a b hbd hyb hy hgy hkk hgk hkl hks hv hgi hil hL h13 hab hdj hoi hoy hok hcs =>
    exact Nts.mk lo' hi' t vy vk vi L a b hbd hyb (own_mono hy h1) (fun q hq => Nat.lt_of_lt_of_le (hgy q hq) h2) (own_mono hkk h1) (fun q hq => Nat.lt_of_lt_of_le (hgk q hq) h2) hkl hks (own_mono hv h1) (fun q hq => Nat.lt_of_lt_of_le (hgi q hq) h2) hil hL h13 (fun i hi => ⟨Nat.le_trans h1 (hab i hi).1, (hab i hi).2.1, Nat.le_trans (hab i hi).2.2 h2⟩) hdj hoi hoy hok hcs
theorem Nts.tis {w : World} {lo hi : Nat} {t : Tv} {c : Array Value} (h : Nts w lo hi t c) : Tis w (fun q => q < lo ∨ hi ≤ q) t c := by
  induction h with
  | mk lo hi t vy vk vi L a b hbd hyb hy hgy hk hgk hkl hks hv hgi hil hL h13 hab hdj hoi hoy hok hcs ih =>
    refine Tis.of hbd (BSl.own hy hyb) (fun _ q hq h => ?_) (SSl.own hk rfl hkl hks) (fun _ q hq h => ?_) hv (fun _ q hq h => ?_) hil hL (fun c hc => (h13 c hc).1) (fun i u c h1 h2 => (ih i u c h1 h2).mono fun q hq => ?_)
    · have := (hy.lt q hq).1; have := hgy q hq; omega
    · have := (hk.lt q hq).1; have := hgk q hq; omega
    · have := (hv.lt q hq).1; have := hgi q hq; omega
    · have := hab i (List.getElem?_eq_some_iff.1 h1).1
      omega
end
section
open Go.RowKit Go
/-- What other gives where it tells true. -/
structure Oth (t t' : Tv) : Prop where
  c : chkf t' 0 = 0
  d : tdepth t' ≤ tdepth t
  n : ¬ Teq t t'
  m : tmuch t' ≤ tmuch t + 2
/-- A value of one kind and nothing else. -/
def tk (k : Int) : Tv := .mk k false false 0 0 ⟨#[]⟩ [] ⟨0, 0, 0, []⟩ [] []
theorem tk_depth (k : Int) : tdepth (tk k) ≤ 1 := by
  rw [depth_eq]
  show (if _ then tdepthL [] + 1 else 0) ≤ 1
  rw [tdepthL]
  split <;> simp
theorem tk_much (k : Int) : tmuch (tk k) = 1 := by
  rw [tmuch_eq]
  show 1 + 0 + 0 / 64 + (ByteArray.mk #[]).size / 64 + 0 / 64 + 0 + tmuchL [] = 1
  rw [tmuchL]
  rfl
theorem tk_chk {k : Int} (h1 : 1 ≤ k) (h2 : k ≤ 8) (h7 : k ≠ 7) : chkf (tk k) 0 = 0 := by
  refine chkf_mk ?_ (fun u hu => by cases hu)
  have e : k = 1 ∨ k = 2 ∨ k = 3 ∨ k = 4 ∨ k = 5 ∨ k = 6 ∨ k = 8 := by omega
  rcases e with rfl | rfl | rfl | rfl | rfl | rfl | rfl <;> first | rfl | decide +kernel | kernel_rfl
theorem Oth.of {t t' : Tv} (hc : chkf t' 0 = 0) (hk : t'.k = t.k) (his : t'.is = t.is) (hm : tmuch t' ≤ tmuch t + 2) (hn : ¬ Top t t') : Oth t t' :=
  ⟨hc, by rw [depth_eq, depth_eq, hk, his]; exact Nat.le_refl _, fun h => hn (teq_top h), hm⟩
theorem Oth.kind {t : Tv} {k : Int} (h1 : 1 ≤ k) (h2 : k ≤ 8) (h7 : k ≠ 7) (hk : t.k ≠ k) (hd : k = 8 → t.k = 9) : Oth t (tk k) := by
  refine ⟨tk_chk h1 h2 h7, ?_, fun h => hk (teq_top h).k.symm, by have := tk_much k; omega⟩
  by_cases e : k = 8
  · have := tk_depth k
    rw [depth_eq t, if_pos (.inr (hd e))]
    omega
  · have e2 : tdepth (tk k) = 0 := by rw [depth_eq, if_neg (by show ¬ (k = 8 ∨ k = 9); omega)]
    omega
theorem depthL_app (a b : List Tv) : tdepthL (a ++ b) = max (tdepthL a) (tdepthL b) := by
  induction a with
  | nil => simp [tdepthL]
  | cons u r ih => rw [List.cons_append, tdepthL, tdepthL, ih, Nat.max_assoc]
theorem muchL_app (a b : List Tv) : tmuchL (a ++ b) = tmuchL a + tmuchL b := by
  rw [much_sum, much_sum, much_sum, List.map_append, List.sum_append]
theorem Oth.more {t : Tv} (ht : chkf t 0 = 0) (h8 : t.k = 8) (hc : chkf (t.wi (t.is ++ [tk 1])) 0 = 0) : Oth t (t.wi (t.is ++ [tk 1])) := by
  refine ⟨hc, ?_, fun h => ?_, ?_⟩
  · rw [depth_eq, depth_eq, (wi_top t _).k, h8, if_pos (.inl rfl), if_pos (.inl rfl)]
    show tdepthL (t.is ++ [tk 1]) + 1 ≤ _
    rw [depthL_app]
    have e : tdepthL [tk 1] = 0 := by
      rw [tdepthL, tdepthL]
      have : tdepth (tk 1) = 0 := by rw [depth_eq, if_neg (by decide)]
      omega
    omega
  · have h1 := teq_len (chk_trk ht) (chk_trk hc) h
    have h2 : (t.wi (t.is ++ [tk 1])).is.length = t.is.length + 1 := by show (t.is ++ [tk 1]).length = _; simp
    omega
  · rw [tmuch_eq, tmuch_eq t]
    show 1 + t.ks.length + t.y.length / 64 + t.s.size / 64 + t.l.d.length / 64 + (t.ks.map fun k => k.size / 64).sum + tmuchL (t.is ++ [tk 1]) ≤ _
    rw [muchL_app, tmuchL, tmuchL, tk_much]
    omega
/-- A map without its last entry. -/
def Tv.wl (t : Tv) : Tv := .mk t.k t.f t.g t.n t.b t.s t.y t.l (t.ks.take (t.ks.length - 1)) (t.is.take (t.is.length - 1))
theorem depthL_take (l : List Tv) (k : Nat) : tdepthL (l.take k) ≤ tdepthL l := by
  have h := depthL_app (l.take k) (l.drop k)
  rw [List.take_append_drop] at h
  omega
theorem muchL_take (l : List Tv) (k : Nat) : tmuchL (l.take k) ≤ tmuchL l := by
  have h := muchL_app (l.take k) (l.drop k)
  rw [List.take_append_drop] at h
  omega
theorem sum_take (l : List Nat) (k : Nat) : (l.take k).sum ≤ l.sum := by
  have h : (l.take k ++ l.drop k).sum = (l.take k).sum + (l.drop k).sum := List.sum_append
  rw [List.take_append_drop] at h
  omega
theorem Oth.less {t : Tv} (ht : chkf t 0 = 0) (h9 : t.k = 9) (hne : 0 < t.is.length) (hc : chkf t.wl 0 = 0) : Oth t t.wl := by
  refine ⟨hc, ?_, fun h => ?_, ?_⟩
  · rw [depth_eq, depth_eq t]
    have e : t.wl.k = t.k := rfl
    rw [e, h9, if_pos (.inr rfl), if_pos (.inr rfl)]
    have := depthL_take t.is (t.is.length - 1)
    show tdepthL (t.is.take (t.is.length - 1)) + 1 ≤ _
    omega
  · have h1 := teq_len (chk_trk ht) (chk_trk hc) h
    have h2 : t.wl.is.length = t.is.length - 1 := by show (t.is.take (t.is.length - 1)).length = _; rw [List.length_take]; omega
    omega
  · rw [tmuch_eq, tmuch_eq t]
    show 1 + (t.ks.take (t.ks.length - 1)).length + t.y.length / 64 + t.s.size / 64 + t.l.d.length / 64 + ((t.ks.take (t.ks.length - 1)).map fun k => k.size / 64).sum + tmuchL (t.is.take (t.is.length - 1)) ≤ _
    have h1 := muchL_take t.is (t.is.length - 1)
    have h2 := sum_take (t.ks.map fun k => k.size / 64) (t.ks.length - 1)
    rw [← List.map_take] at h2
    have h3 : (t.ks.take (t.ks.length - 1)).length ≤ t.ks.length := by rw [List.length_take]; omega
    omega
theorem muchL_set {l : List Tv} {i : Nat} {u u' : Tv} (h : l[i]? = some u) (hm : tmuch u' ≤ tmuch u + 2) : tmuchL (l.set i u') ≤ tmuchL l + 2 := by
  induction l generalizing i with
  | nil => simp at h
  | cons a r ih =>
    cases i with
    | zero =>
      simp at h
      subst h
      rw [List.set_cons_zero, tmuchL, tmuchL]
      omega
    | succ i =>
      simp at h
      have := ih h
      rw [List.set_cons_succ, tmuchL, tmuchL]
      omega
theorem Oth.down {t u u' : Tv} {i : Nat} (ht : chkf t 0 = 0) (hu : t.is[i]? = some u) (h : Oth u u') : Oth t (t.wi (t.is.set i u')) := by
  obtain ⟨hc, hd⟩ := chk_repl ht hu rfl h.c h.d
  have hil := (List.getElem?_eq_some_iff.1 hu).1
  refine ⟨hc, hd, fun he => h.n ?_, ?_⟩
  · refine teq_repl (chk_trk ht) (chk_trk hc) rfl rfl ?_ hu ?_ he (i := i)
    · show (t.is.set i u').length = _
      simp
    · show (t.is.set i u')[i]? = _
      simp [hil]
  · rw [tmuch_eq, tmuch_eq t]
    show 1 + t.ks.length + t.y.length / 64 + t.s.size / 64 + t.l.d.length / 64 + (t.ks.map fun k => k.size / 64).sum + tmuchL (t.is.set i u') ≤ _
    have := muchL_set hu h.m
    omega
/-! The changes of a part that has no items. -/
def Tv.xf (t : Tv) : Tv := .mk t.k (!t.f) t.g t.n t.b t.s t.y t.l t.ks t.is
def Tv.xg (t : Tv) : Tv := .mk t.k t.f (!t.g) t.n t.b t.s t.y t.l t.ks t.is
def Tv.xn (t : Tv) (n : Nat) : Tv := .mk t.k t.f t.g n t.b t.s t.y t.l t.ks t.is
def Tv.xb (t : Tv) (b : Nat) : Tv := .mk t.k t.f t.g t.n b t.s t.y t.l t.ks t.is
def Tv.xs (t : Tv) (s : ByteArray) : Tv := .mk t.k t.f t.g t.n t.b s t.y t.l t.ks t.is
def Tv.xy (t : Tv) (y : List Nat) : Tv := .mk t.k t.f t.g t.n t.b t.s y t.l t.ks t.is
theorem Oth.flag {t : Tv} (hc : chkf t.xf 0 = 0) : Oth t t.xf :=
  .of hc rfl rfl (by rw [tmuch_eq, tmuch_eq t]; exact Nat.le_add_right _ 2) (fun h => by have := h.f; revert this; show (!t.f) = t.f → False; cases t.f <;> simp)
theorem Oth.neg {t : Tv} (hc : chkf t.xg 0 = 0) : Oth t t.xg :=
  .of hc rfl rfl (by rw [tmuch_eq, tmuch_eq t]; exact Nat.le_add_right _ 2) (fun h => by have := h.g; revert this; show (!t.g) = t.g → False; cases t.g <;> simp)
theorem Oth.num {t : Tv} {n : Nat} (hc : chkf (t.xn n) 0 = 0) (hn : n ≠ t.n) : Oth t (t.xn n) :=
  .of hc rfl rfl (by rw [tmuch_eq, tmuch_eq t]; exact Nat.le_add_right _ 2) (fun h => hn h.n)
theorem Oth.bits {t : Tv} {b : Nat} (hc : chkf (t.xb b) 0 = 0) (hn : b ≠ t.b) : Oth t (t.xb b) :=
  .of hc rfl rfl (by rw [tmuch_eq, tmuch_eq t]; exact Nat.le_add_right _ 2) (fun h => hn h.b)
theorem Oth.text {t : Tv} {s : ByteArray} (hc : chkf (t.xs s) 0 = 0) (hn : s.size = t.s.size + 1) : Oth t (t.xs s) :=
  .of hc rfl rfl (by
    rw [tmuch_eq, tmuch_eq t]
    show 1 + t.ks.length + t.y.length / 64 + s.size / 64 + t.l.d.length / 64 + (t.ks.map fun k => k.size / 64).sum + tmuchL t.is ≤ _
    omega) (fun h => by have e : s = t.s := h.s; rw [e] at hn; omega)
theorem Oth.byte {t : Tv} {y : List Nat} (hc : chkf (t.xy y) 0 = 0) (hn : y.length = t.y.length + 1) : Oth t (t.xy y) :=
  .of hc rfl rfl (by
    rw [tmuch_eq, tmuch_eq t]
    show 1 + t.ks.length + y.length / 64 + t.s.size / 64 + t.l.d.length / 64 + (t.ks.map fun k => k.size / 64).sum + tmuchL t.is ≤ _
    omega) (fun h => by have e : y = t.y := h.y; rw [e] at hn; omega)
end
section
open Go.RowKit Go
theorem info5_ex6 : ∃ i, Tryd.prog.info? 5 = some i ∧ i.zero = some (.int .u8 0) ∧ i.size = 1 ∧ i.bytes = 1 := by
  have h : (Tryd.prog.info? 5).map (fun i => (i.zero, i.size, i.bytes)) = some (some (.int .u8 0), 1, 1) := by kernel_rfl
  cases hi : Tryd.prog.info? 5 with
  | none => rw [hi] at h; cases h
  | some i => rw [hi] at h; simp at h; exact ⟨i, rfl, h.1, h.2.1, h.2.2⟩
/-- 'append(bytes, x)', and where it lies then. -/
theorem append_byte6 {ops : Array Oper} {rest : List Oper} {o : Oper} {a : Act} {Q : Exit → Act → World → Prop} {w : World} (hgd : o.guard = none) (s x : Operand)
    (ho : o.op = .call { callee := .builtin .append, args := #[s, x], argTypes := #[23, 23] }) (B : Nat) (v : Value) (n : Nat) (ds : List Value) (hs : a.eval s = v) (hown : w.ownsRow B 5 1 v n ds)
    (y : Int) (S : Nat) (hS : w.heap.size = S) (hx : a.eval x = .slice (some ⟨S, 0, none⟩) 1 1) (hlen : n < 1099511627776) (hbase : B ≤ w.heap.size)
    (h : ∀ v' w', w'.ownsRow B 5 1 v' (n + 1) (ds ++ [.int .u8 y]) → (w.alloc (.cells #[.int .u8 y] 5)).grownBy w' v.ownBlock → (v'.ownBlock = v.ownBlock ∨ v'.ownBlock = some (w.heap.size + 1)) → wpList Tryd.prog ops Q rest (a.put o.dst v') w') : wpList Tryd.prog ops Q (o :: rest) a (w.alloc (.cells #[.int .u8 y] 5)) := by
  obtain ⟨i, hi, hz0, hz1, hz2⟩ := info5_ex6
  subst hS
  refine wpList_append_own_at _ hgd s x 23 ho B 5 i (.int .u8 0) 1 1 Tryd.underlying23 hi hz0 hz1 hz2 rfl (by decide) v n ds hs (hown.alloc _) ⟨w.heap.size, 0, none⟩ 1 1 [.int .u8 y] hx rfl (cell_one_new _ _ _) ?_ (by unfold maxLen; omega) (by omega) (by simp; omega) fun v' w' h1 h2 _ h4 => h v' w' h1 h2 (by simpa using h4)
  intro u hu
  simp at hu
  subst hu
  rfl
theorem vfl_set : ∀ {L : List (Array Value)}, (∀ c ∈ L, c.size = 13) → ∀ (j : Nat) (c' : Array Value), j < L.length → c'.size = 13 → ∀ (X : List Value), (splice (vfl L ++ X) (j * 13) c'.toList).take (L.length * 13) = vfl (L.set j c')
  | [], _, j, _, h, _, _ => by simp at h
  | c :: r, hL, 0, c', _, hc, X => by
    have h1 : c.size = 13 := hL c (List.mem_cons_self ..)
    have e1 : vfl (c :: r) = c.toList ++ vfl r := by simp [vfl]
    have e2 : vfl ((c :: r).set 0 c') = c'.toList ++ vfl r := by simp [vfl]
    have h2 := vfl_len (l := r) (fun d hd => hL d (List.mem_cons_of_mem _ hd))
    rw [e1, e2]
    unfold splice
    have l1 : c.toList.length = 13 := by simpa using h1
    have l2 : c'.toList.length = 13 := by simpa using hc
    rw [Nat.zero_mul, List.take_zero, List.nil_append, Nat.zero_add, l2, List.append_assoc, List.drop_append_of_le_length (by omega), List.drop_of_length_le (by omega), List.nil_append, List.length_cons, List.take_append, l2, List.take_of_length_le (by omega)]
    congr 1
    rw [show (r.length + 1) * 13 - 13 = (vfl r).length by omega, List.take_append_of_le_length (by omega), List.take_length]
  | c :: r, hL, j + 1, c', hj, hc, X => by
    have h1 : c.size = 13 := hL c (List.mem_cons_self ..)
    have ih := vfl_set (L := r) (fun d hd => hL d (List.mem_cons_of_mem _ hd)) j c' (by simpa using hj) hc X
    have e1 : vfl (c :: r) = c.toList ++ vfl r := by simp [vfl]
    have e2 : vfl ((c :: r).set (j + 1) c') = c.toList ++ vfl (r.set j c') := by simp [vfl]
    have l1 : c.toList.length = 13 := by simpa using h1
    have l2 : c'.toList.length = 13 := by simpa using hc
    have h2 := vfl_len (l := r) (fun d hd => hL d (List.mem_cons_of_mem _ hd))
    have hsp : splice (c.toList ++ (vfl r ++ X)) ((j + 1) * 13) c'.toList = c.toList ++ splice (vfl r ++ X) (j * 13) c'.toList := by
      have hk : (j + 1) * 13 = c.toList.length + j * 13 := by omega
      unfold splice
      rw [hk, List.take_length_add_append, Nat.add_assoc, List.drop_length_add_append, List.append_assoc]
    rw [e1, e2, ← ih, List.append_assoc, hsp]
    have hk2 : (c :: r).length * 13 = c.toList.length + r.length * 13 := by rw [List.length_cons]; omega
    rw [hk2, List.take_length_add_append]
/-- One item of a row of values is written over. -/
theorem own_part {w w' : World} {B g n cap : Nat} {L : List (Array Value)} {cur : Array Value} {j : Nat} {c' : Array Value} (h : w.ownsRow B 29 13 (.slice (some ⟨g, 0, none⟩) n cap) n (vfl L)) (hL : L.length = n) (h13 : ∀ c ∈ L, c.size = 13) (hg : w.heap[g]? = some (.cells cur 29 (0, 0))) (hj : j < n) (hc : c'.size = 13)
    (hw : w'.heap[g]? = some (.cells (splice cur.toList (j * 13) c'.toList).toArray 29 (0, 0))) : w'.ownsRow B 29 13 (.slice (some ⟨g, 0, none⟩) n cap) n (vfl (L.set j c')) := by
  rcases h.2 with ⟨hv, _⟩ | ⟨g', cap', cur', hv, hb, hg', h1, h2, h3, h4⟩
  · cases hv
  injection hv with e1 e2 e3
  injection e1 with e1
  injection e1 with e1 _ _
  subst e1
  subst e3
  rw [hg'] at hg
  injection hg with hg
  injection hg with hg _ _
  subst hg
  have l13 := vfl_len h13
  have hlc : cur'.toList.length = cap * 13 := by simpa using h3
  have hcl : c'.toList.length = 13 := by simpa using hc
  have hs13 : ∀ c ∈ L.set j c', c.size = 13 := fun d hd => by
    rcases List.mem_or_eq_of_mem_set hd with e | e
    · exact h13 d e
    · rw [e]; exact hc
  refine ⟨by rw [vfl_len hs13, List.length_set, hL], .inr ⟨g, cap, _, rfl, hb, hw, h1, h2, ?_, ?_⟩⟩
  · rw [List.size_toArray, length_splice _ _ _ (by omega), hlc]
  · have e : cur'.toList = vfl L ++ cur'.toList.drop (n * 13) := by
      conv => lhs; rw [← List.take_append_drop (n * 13) cur'.toList, h4]
    rw [e, List.toList_toArray]
    have := vfl_set h13 j c' (by omega) hc (cur'.toList.drop (n * 13))
    rw [hL] at this
    exact this
end
section
open Go.RowKit Go
/-- What CopyValues has in hand: each item has blocks of its own. -/
structure Nwi (w : World) (B : Nat) (wx : World) (v : Value) (L : List (Array Value)) (is : List Tv) (fa fb : Nat → Nat) : Prop where
  o : wx.ownsRow B 29 13 v L.length (vfl L)
  s : ∀ c ∈ L, one13 c
  b : Below B w wx
  z : B ≤ wx.heap.size
  r : ∀ j, j < L.length → B ≤ fa j ∧ fa j ≤ fb j ∧ fb j ≤ wx.heap.size ∧ (∀ q, v.ownBlock = some q → q < fa j ∨ fb j ≤ q)
  d : ∀ i j, i < j → j < L.length → fb i ≤ fa j
  i : ∀ (j : Nat) (u : Tv) (c : Array Value), is[j]? = some u → L[j]? = some c → Nts wx (fa j) (fb j) u c
theorem Nwi.next {w : World} {B : Nat} {wx wy : World} {v : Value} {L : List (Array Value)} {is : List Tv} {a b : Nat → Nat} (h : Nwi w B wx v L is a b) (hb : Below wx.heap.size wx wy) : Nwi w B wy v L is a b :=
  ⟨(Kp.of_below (S := fun _ => False) hb).owns h.o (fun _ _ hf => hf), h.s, h.b.trans (hb.mono h.z), Nat.le_trans h.z hb.size, fun j hj => ⟨(h.r j hj).1, (h.r j hj).2.1, Nat.le_trans (h.r j hj).2.2.1 hb.size, (h.r j hj).2.2.2⟩, h.d, fun j u c h1 h2 => (h.i j u c h1 h2).kept hb⟩
theorem Nwi.app {w : World} {B : Nat} {wx wy : World} {v v' : Value} {L : List (Array Value)} {is : List Tv} {a b : Nat → Nat} (h : Nwi w B wx v L is a b) {c : Array Value} (hc : one13 c) (ho : wy.ownsRow B 29 13 v' (L.length + 1) (vfl L ++ c.toList)) (hg : wx.grownBy wy v.ownBlock) (hv : v'.ownBlock = v.ownBlock ∨ v'.ownBlock = some wx.heap.size)
    {lo hi : Nat} (h1 : B ≤ lo) (h12 : lo ≤ hi) (h2 : hi ≤ wx.heap.size) (h3 : ∀ q, v.ownBlock = some q → q < lo ∨ hi ≤ q) (h4 : ∀ j, j < L.length → b j ≤ lo) (hnew : ∀ u, is[L.length]? = some u → Nts wx lo hi u c) : Nwi w B wy v' (L ++ [c]) is (fun j => if j = L.length then lo else a j) (fun j => if j = L.length then hi else b j) := by
  have hk : Kp (fun q => v.ownBlock = some q) wx wy := (Kp.refl _ _).grown hg (fun k _ h => h)
  have hz := hk.size
  have hr : ∀ j, j < L.length + 1 → B ≤ (if j = L.length then lo else a j) ∧ (if j = L.length then lo else a j) ≤ (if j = L.length then hi else b j) ∧ (if j = L.length then hi else b j) ≤ wx.heap.size ∧ (∀ q, v.ownBlock = some q → q < (if j = L.length then lo else a j) ∨ (if j = L.length then hi else b j) ≤ q) := fun j hj => by
    by_cases e : j = L.length
    · simp only [e, if_true]
      exact ⟨h1, h12, h2, h3⟩
    · simp only [if_neg e]
      exact h.r j (by omega)
  refine ⟨?_, ?_, h.b.grown hg h.z (fun g hg => (h.o.lt g hg).1), Nat.le_trans h.z hz, fun j hj => ?_, fun i j hij hj => ?_, fun j u c' e1 e2 => ?_⟩
  · rw [vfl_app, List.length_append]
    have e : vfl [c] = c.toList := by simp [vfl]
    rw [e]
    exact ho
  · intro d hd
    rcases List.mem_append.1 hd with hd | hd
    · exact h.s d hd
    · simp only [List.mem_singleton] at hd
      rw [hd]
      exact hc
  · obtain ⟨r1, r12, r2, r3⟩ := hr j (by simpa using hj)
    refine ⟨r1, r12, Nat.le_trans r2 hz, fun q hq => ?_⟩
    rcases hv with hv | hv
    · exact r3 q (by rw [← hv]; exact hq)
    · rw [hv] at hq
      injection hq with hq
      subst hq
      exact .inr r2
  · have hj2 : j < L.length + 1 := by simpa using hj
    have ei : i ≠ L.length := by omega
    simp only [if_neg ei]
    by_cases e : j = L.length
    · simp only [e, if_true]
      exact h4 i (by omega)
    · simp only [if_neg e]
      exact h.d i j hij (by omega)
  · have key : Nts wx (if j = L.length then lo else a j) (if j = L.length then hi else b j) u c' := by
      rcases Nat.lt_or_ge j L.length with hj | hj
      · rw [List.getElem?_append_left hj] at e2
        rw [if_neg (by omega), if_neg (by omega)]
        exact h.i j u c' e1 e2
      · rw [List.getElem?_append_right hj] at e2
        have hj0 : j = L.length := by
          rcases Nat.eq_or_lt_of_le hj with e | e
          · exact e.symm
          · rw [List.getElem?_eq_none (by simp; omega)] at e2
            cases e2
        subst hj0
        simp at e2
        subst e2
        rw [if_pos rfl, if_pos rfl]
        exact hnew u e1
    have hjl : j < L.length + 1 := by simpa using (List.getElem?_eq_some_iff.1 e2).1
    refine key.kp hk (fun q h5 h6 e => ?_)
    rcases (hr j hjl).2.2.2 q e with h | h <;> omega
/-- What CopyValues gives. -/
structure NwP (w w' : World) (is : List Tv) (v : Value) (L : List (Array Value)) (fa fb : Nat → Nat) : Prop where
  o : w'.ownsRow w.heap.size 29 13 v is.length (vfl L)
  n : L.length = is.length
  s : ∀ c ∈ L, one13 c
  r : ∀ j, j < is.length → w.heap.size ≤ fa j ∧ fa j ≤ fb j ∧ fb j ≤ w'.heap.size ∧ (∀ q, v.ownBlock = some q → q < fa j ∨ fb j ≤ q)
  d : ∀ i j, i < j → j < is.length → fb i ≤ fa j
  i : ∀ (j : Nat) (u : Tv) (c : Array Value), is[j]? = some u → L[j]? = some c → Nts w' (fa j) (fb j) u c
  b : Below w.heap.size w w'
def CopsW (N : Nat) : Prop := ∀ t : Tv, SizeOf.sizeOf t < N → ∀ (w : World) (cs : Array Value), Tin w t cs → tmuch t ≤ 100000 → Calls Tryd.prog 19 #[.agg cs] w fun e w' => ∃ c, e = .returned (.agg c) ∧ Nts w' w.heap.size w'.heap.size t c ∧ Below w.heap.size w w'
set_option maxRecDepth 1000000 in
set_option maxHeartbeats 1000000 in
theorem copyValues_nts (N : Nat) (ih : CopsW N) (is : List Tv) (hN : ∀ u ∈ is, SizeOf.sizeOf u < N) (w : World) (v : Value) (hsl : VSl w v is) (hm : tmuchL is ≤ 100000) :
    Calls Tryd.prog 39 #[v] w fun e w' => ∃ v' L a b, e = .returned v' ∧ NwP w w' is v' L a b := by
  have HIH := hide ih
  have HNN := hide hN
  have HMM := hide hm
  have hlen : is.length ≤ 100000 := Nat.le_trans (tmuchL_len is) hm
  obtain ⟨⟨a, cap, rfl, hn, hc⟩, hmax⟩ := hsl
  have HF := hide hc
  clear ih hN hm hn hc hmax
  have HL0 : Hid (Nwi w w.heap.size w (.slice none 0 0) [] is (fun _ => 0) (fun _ => 0)) := ⟨World.ownsRow_nil _ _ _ _, by simp, Below.refl _ _, Nat.le_refl _, fun j h => by simp at h, fun i j _ h => by simp at h, fun j u c _ h => by simp at h⟩
  generalize hB : w.heap.size = B at *
  have HBe := hide hB
  clear hB
  go_enter Tryd.func39, Tryd.ntmps39
  go_wp2_with fail
  go_loopw [3, 4] (fun v ii wx => ∃ (i : Nat) (L : List (Array Value)) (fa fb : Nat → Nat), i ≤ is.length ∧ ii = .int .i64 (i : Nat) ∧ Hid (L.length = i) ∧ Hid (Nwi w B wx v L is fa fb)) (fun _ ii _ => is.length - (intOf ii).toNat)
  case atStart => exact ⟨0, [], _, _, by omega, rfl, rfl, HL0⟩
  case round =>
    obtain ⟨i, L, fa, fb, hi, rfl, HLn, HL⟩ := hrel
    clear HL0
    by_cases hlt : i < is.length
    · as_aux_lemma =>
      have g1 : (i : Int) < (is.length : Int) := by omega
      obtain ⟨u, hu⟩ : ∃ u, is[i]? = some u := ⟨is[i], List.getElem?_eq_getElem hlt⟩
      obtain ⟨b, off, rfl, hcells⟩ := HF.out.resolve_left (fun h => by rw [h] at hlt; simp at hlt)
      obtain ⟨cu, hcu, hcc⟩ := hcells i u hu
      have hkb : ∀ p x, w.cell? p = some x → wr.cell? p = some x := keep_below (by have e := HL.out.b; rw [← HBe.out] at e; exact e)
      have HCC : Hid (∀ j x, cu[j]? = some x → wr.cell? ⟨b, off + i * 13 + j, none⟩ = some x) := fun j x hx => hkb _ _ (hcc j x hx)
      have hmem := List.mem_of_getElem? hu
      have HSZ : Hid (cu.size = 13) := by
        obtain ⟨y1, y2, y3, e, _⟩ := hcu.parts
        show _ = _
        rw [e]
        rfl
      have HCA := hide (HIH.out u (HNN.out u hmem) wr cu (hcu.move hkb) (Nat.le_trans (tmuchL_mem hmem) HMM.out))
      have HU := hide hu
      clear hu hcells hcu hcc hmem hkb
      obtain ⟨ax, cx, hvx⟩ : ∃ ax cx, u3 = .slice ax L.length cx := by
        rcases HL.out.o.2 with ⟨e, h0⟩ | ⟨g, c, cur, e, _⟩
        · exact ⟨none, 0, by rw [e, h0]⟩
        · exact ⟨_, c, e⟩
      subst hvx
      go_wp2_with (refine wpList_valAt rfl rfl b (off + i * 13) cu rfl HSZ.out HCC.out ?_)
      refine HCA.out.mono ?_
      rintro e w5 ⟨c, rfl, hlt5, hb5⟩
      have HL5 := hide (HL.out.next hb5)
      have HC5 := hide hlt5
      have HO := hide hlt5.one
      have HQ : Hid (∀ q, (Value.slice ax L.length cx).ownBlock = some q → q < wr.heap.size) := fun q hq => (HL.out.o.lt q hq).2
      have HZ5 : Hid (B ≤ wr.heap.size) := HL.out.z
      have HH5 : Hid (wr.heap.size ≤ w5.heap.size) := hb5.size
      have HFB : Hid (∀ j, j < L.length → fb j ≤ wr.heap.size) := fun j hj => (HL.out.r j hj).2.2.1
      clear hlt5 hb5 HL HCC HCA
      have HL6 := hide (HL5.out.next (below_alloc4 w5 (.cells c 29)))
      have HC6 : Hid (Nts (w5.alloc (.cells c 29)) wr.heap.size w5.heap.size u c) := HC5.out.kept (below_alloc4 w5 _)
      have HG6 : Hid ((w5.alloc (.cells c 29)).heap[w5.heap.size]? = some (.cells c 29 (0, 0))) := heap_alloc_new w5 _
      have HS6 : Hid (w5.heap.size ≤ (w5.alloc (.cells c 29)).heap.size) := (below_alloc4 w5 (.cells c 29)).size
      have HLL : Hid (L.length < 1099511627) := by have := HLn.out; show _ < _; omega
      clear HL5 HC5
      go_wp2_with (first
        | (refine wpList_val1 rfl rfl c HO.out.1 rfl ?_)
        | (at_builtin; refine append_val rfl _ _ rfl B _ L.length (vfl L) rfl HL6.out.o w5.heap.size c HO.out rfl HG6.out HLL.out HL6.out.z ?_))
      intro v7 w7 ho7 hg7 hv7
      have HL7 := hide (HL6.out.app HO.out ho7 hg7 (by simpa using hv7) HZ5.out HH5.out HS6.out (fun q hq => .inl (HQ.out q hq)) HFB.out (fun u' hu' => by
        rw [HLn.out, HU.out] at hu'
        injection hu' with hu'
        subst hu'
        exact HC6.out))
      have HLn7 : Hid ((L ++ [c]).length = i + 1) := by show _ = _; rw [List.length_append, HLn.out]; rfl
      clear ho7 hg7 hv7 HL6 HC6 HG6
      go_wp2_with fail
      go_roundw
      case rel => exact ⟨i + 1, L ++ [c], _, _, by omega, by go_num, HLn7, HL7⟩
      case measure => simp [intOf]; omega
    · as_aux_lemma =>
      have g1 : ¬ (i : Int) < (is.length : Int) := by omega
      have HLe : Hid (L.length = is.length) := by have := HLn.out; show _ = _; omega
      have HP : Hid (NwP w wr is u3 L fa fb) := by
        have h := HL.out
        rw [← HBe.out] at h
        exact ⟨by have e := h.o; rw [HLe.out] at e; exact e, HLe.out, h.s, fun j hj => h.r j (by rw [HLe.out]; exact hj), fun i j hij hj => h.d i j hij (by rw [HLe.out]; exact hj), h.i, h.b⟩
      go_wp2_with fail
      go_ret
      exact ⟨_, rfl, L, fa, fb, HP.out⟩
end
section
open Go.RowKit Go
set_option maxRecDepth 1000000 in
set_option maxHeartbeats 1000000 in
theorem copyNts_step (N : Nat) (ih : CopsW N) (t : Tv) (hN : SizeOf.sizeOf t = N) (w : World) (cs : Array Value) (ht : Tin w t cs) (hm : tmuch t ≤ 100000) :
    Calls Tryd.prog 19 #[.agg cs] w fun e w' => ∃ c, e = .returned (.agg c) ∧ Nts w' w.heap.size w'.heap.size t c ∧ Below w.heap.size w w' := by
  have hme := tmuch_eq t
  have HIH := hide ih
  have HNN : Hid (∀ u ∈ t.is, SizeOf.sizeOf u < N) := fun u hu => by rw [← hN]; exact Tv.is_lt hu
  have HKL : Hid (t.ks.length ≤ 100000) := by show _ ≤ _; omega
  have HIL : Hid (t.is.length ≤ 100000) := by have := tmuchL_len t.is; show _ ≤ _; omega
  have HML : Hid (tmuchL t.is ≤ 100000) := by show _ ≤ _; omega
  clear ih hN hme hm
  obtain ⟨vy, vk, vi, rfl, hy, hk, hv, hb⟩ := ht.parts
  have HY := hide hy
  have HK := hide hk
  have HV := hide hv
  have HBD := hide hb
  obtain ⟨⟨ay, cy, rfl, _, _⟩, _, _⟩ := hy
  obtain ⟨⟨ak, ck, rfl, _, _⟩, _, _⟩ := hk
  obtain ⟨⟨ai, ci, rfl, _, _⟩, _⟩ := hv
  clear ht hb
  unfold vcs
  have HW0 : Hid (Lw w (((w.alloc (.cells #[.int .i64 t.k, .bool t.f, .bool t.g, .int .u64 (t.n : Nat), .int .u64 (t.b : Nat), .string t.s, .slice ay t.y.length cy, .int .i64 t.l.v, .int .u64 (t.l.c : Nat), .int .u64 (t.l.h : Nat), .string (nstr t.l.d), .slice ak t.ks.length ck, .slice ai t.is.length ci] 29)).alloc (.cells #[.int .i64 0, .bool false, .bool false, .int .u64 0, .int .u64 0, .string ⟨#[]⟩, .slice none 0 0, .int .i64 0, .int .u64 0, .int .u64 0, .string ⟨#[]⟩, .slice none 0 0, .slice none 0 0] 29)).alloc (.cells #[.int .i64 t.k, .bool t.f, .bool t.g, .int .u64 (t.n : Nat), .int .u64 (t.b : Nat), .string t.s, .slice ay t.y.length cy, .int .i64 t.l.v, .int .u64 (t.l.c : Nat), .int .u64 (t.l.h : Nat), .string (nstr t.l.d), .slice ak t.ks.length ck, .slice ai t.is.length ci] 29)) (vcs t (.slice ay t.y.length cy) (.slice ak t.ks.length ck) (.slice ai t.is.length ci)) (vcs t (.slice ay t.y.length cy) (.slice ak t.ks.length ck) (.slice ai t.is.length ci))) := Lw.start w _
  have HZ0 : Hid ((((w.alloc (.cells #[.int .i64 t.k, .bool t.f, .bool t.g, .int .u64 (t.n : Nat), .int .u64 (t.b : Nat), .string t.s, .slice ay t.y.length cy, .int .i64 t.l.v, .int .u64 (t.l.c : Nat), .int .u64 (t.l.h : Nat), .string (nstr t.l.d), .slice ak t.ks.length ck, .slice ai t.is.length ci] 29)).alloc (.cells #[.int .i64 0, .bool false, .bool false, .int .u64 0, .int .u64 0, .string ⟨#[]⟩, .slice none 0 0, .int .i64 0, .int .u64 0, .int .u64 0, .string ⟨#[]⟩, .slice none 0 0, .slice none 0 0] 29)).alloc (.cells #[.int .i64 t.k, .bool t.f, .bool t.g, .int .u64 (t.n : Nat), .int .u64 (t.b : Nat), .string t.s, .slice ay t.y.length cy, .int .i64 t.l.v, .int .u64 (t.l.c : Nat), .int .u64 (t.l.h : Nat), .string (nstr t.l.d), .slice ak t.ks.length ck, .slice ai t.is.length ci] 29)).heap.size = w.heap.size + 3) := by show _ = _; simp
  go_enter Tryd.func19, Tryd.ntmps19
  go_wp2_with fail
  generalize ((w.alloc (.cells #[.int .i64 t.k, .bool t.f, .bool t.g, .int .u64 (t.n : Nat), .int .u64 (t.b : Nat), .string t.s, .slice ay t.y.length cy, .int .i64 t.l.v, .int .u64 (t.l.c : Nat), .int .u64 (t.l.h : Nat), .string (nstr t.l.d), .slice ak t.ks.length ck, .slice ai t.is.length ci] 29)).alloc (.cells #[.int .i64 0, .bool false, .bool false, .int .u64 0, .int .u64 0, .string ⟨#[]⟩, .slice none 0 0, .int .i64 0, .int .u64 0, .int .u64 0, .string ⟨#[]⟩, .slice none 0 0, .slice none 0 0] 29)).alloc (.cells #[.int .i64 t.k, .bool t.f, .bool t.g, .int .u64 (t.n : Nat), .int .u64 (t.b : Nat), .string t.s, .slice ay t.y.length cy, .int .i64 t.l.v, .int .u64 (t.l.c : Nat), .int .u64 (t.l.h : Nat), .string (nstr t.l.d), .slice ak t.ks.length ck, .slice ai t.is.length ci] 29) = w3 at *
  have hz3 := HZ0.out
  refine (copy_any w3 _ t.y (HY.out.move (keep_below HW0.out.b)) HBD.out.y).mono ?_
  rintro e w4 ⟨vy4, rfl, ho4, hb4⟩
  obtain ⟨ya, yc, hv4⟩ := own_slice ho4
  subst hv4
  have hs4 := hb4.size
  have HGY : Hid (∀ q, (Value.slice ya t.y.length yc).ownBlock = some q → w.heap.size + 3 ≤ q ∧ q < w4.heap.size) := fun q hq => by have := ho4.lt q hq; exact ⟨by omega, this.2⟩
  have HY4 := hide (own_mono ho4 (show w.heap.size + 3 ≤ w3.heap.size by omega))
  have HW4 := hide (HW0.out.next hb4)
  have HS4 : Hid (w.heap.size + 3 ≤ w4.heap.size) := by show _ ≤ _; omega
  have HKS := hide HK.out.size
  clear ho4 hb4 HW0 hs4
  have c6 := blk_cell (j := 6) HW4.out.x rfl
  have f6 := blk_frozen 6 HW4.out.x
  have hset := HW4.out.set 6 (.slice ya t.y.length yc)
  rw [(setv t _ _ _ _).1] at hset
  have HW5 := hide hset.1
  have HY5 := hide (hset.2.owns HY4.out (fun q hq e => by have := HGY.out q hq; omega))
  have HS5 : Hid (w.heap.size + 3 ≤ (w4.setCell ⟨w.heap.size + 1 + 1, 6, none⟩ (.slice ya t.y.length yc)).heap.size ∧ w4.heap.size ≤ (w4.setCell ⟨w.heap.size + 1 + 1, 6, none⟩ (.slice ya t.y.length yc)).heap.size) := by
    have h1 := hset.2.size
    have h2 := HS4.out
    exact ⟨by omega, by omega⟩
  have c11 := blk_cell (j := 11) HW5.out.a rfl
  clear hset HW4 HY4
  go_wp2_with fail
  clear c6 f6 c11
  generalize w4.setCell ⟨w.heap.size + 1 + 1, 6, none⟩ (.slice ya t.y.length yc) = w5 at *
  refine (copyStrings_any w5 _ t.ks (HK.out.move (keep_below HW5.out.b)) (by have := HKL.out; omega)).mono ?_
  rintro e w6 ⟨vk6, rfl, ho6, hb6⟩
  obtain ⟨ka, kc, hv6⟩ := own_slice ho6
  subst hv6
  have hs6 := hb6.size
  have HGK : Hid (∀ q, (Value.slice ka t.ks.length kc).ownBlock = some q → w.heap.size + 3 ≤ q ∧ q < w6.heap.size) := fun q hq => by have := ho6.lt q hq; have := HS5.out; exact ⟨by omega, by omega⟩
  have HS6 : Hid (w.heap.size + 3 ≤ w6.heap.size ∧ w4.heap.size ≤ w6.heap.size) := by have := HS5.out; exact ⟨by omega, by omega⟩
  have HK6 := hide (own_mono ho6 (show w.heap.size + 3 ≤ w5.heap.size by have := HS5.out; omega))
  have HY6 := hide ((Kp.of_below (S := fun _ => False) hb6).owns HY5.out (fun _ _ h => h))
  have HW6 := hide (HW5.out.next hb6)
  clear ho6 hb6 hs6 HW5 HY5 HS5
  have c11 := blk_cell (j := 11) HW6.out.x rfl
  have f11 := blk_frozen 11 HW6.out.x
  have hset := HW6.out.set 11 (.slice ka t.ks.length kc)
  rw [(setv t _ _ _ _).2.1] at hset
  have HW7 := hide hset.1
  have HY7 := hide (hset.2.owns HY6.out (fun q hq e => by have := HGY.out q hq; omega))
  have HK7 := hide (hset.2.owns HK6.out (fun q hq e => by have := HGK.out q hq; omega))
  have HS7 : Hid (w.heap.size + 3 ≤ (w6.setCell ⟨w.heap.size + 1 + 1, 11, none⟩ (.slice ka t.ks.length kc)).heap.size ∧ w4.heap.size ≤ (w6.setCell ⟨w.heap.size + 1 + 1, 11, none⟩ (.slice ka t.ks.length kc)).heap.size ∧ w6.heap.size ≤ (w6.setCell ⟨w.heap.size + 1 + 1, 11, none⟩ (.slice ka t.ks.length kc)).heap.size) := by
    have h1 := hset.2.size
    have h2 := HS6.out
    exact ⟨by omega, by omega, by omega⟩
  have c12 := blk_cell (j := 12) HW7.out.a rfl
  clear hset HW6 HY6 HK6
  go_wp2_with fail
  clear c11 f11 c12
  generalize w6.setCell ⟨w.heap.size + 1 + 1, 11, none⟩ (.slice ka t.ks.length kc) = w7 at *
  refine (copyValues_nts N HIH.out t.is HNN.out w7 _ (HV.out.move (keep_below HW7.out.b)) HML.out).mono ?_
  rintro e w8 ⟨vi8, L, fa, fb, rfl, hp8⟩
  obtain ⟨ia, ic, hv8⟩ := own_slice hp8.o
  subst hv8
  have hs8 := hp8.b.size
  have HGI : Hid (∀ q, (Value.slice ia t.is.length ic).ownBlock = some q → w.heap.size + 3 ≤ q ∧ q < w8.heap.size) := fun q hq => by have := hp8.o.lt q hq; have := HS7.out; exact ⟨by omega, by omega⟩
  have HS8 : Hid (w4.heap.size ≤ w8.heap.size ∧ w6.heap.size ≤ w8.heap.size) := by have := HS7.out; exact ⟨by omega, by omega⟩
  have HP8 := hide hp8
  have HY8 := hide ((Kp.of_below (S := fun _ => False) hp8.b).owns HY7.out (fun _ _ h => h))
  have HK8 := hide ((Kp.of_below (S := fun _ => False) hp8.b).owns HK7.out (fun _ _ h => h))
  have HW8 := hide (HW7.out.next hp8.b)
  have HB7 := hide HS7.out
  clear hp8 hs8 HW7 HY7 HK7 HS7
  have c12 := blk_cell (j := 12) HW8.out.x rfl
  have f12 := blk_frozen 12 HW8.out.x
  have hset := HW8.out.set 12 (.slice ia t.is.length ic)
  rw [(setv t _ _ _ _).2.2] at hset
  have HW9 := hide hset.1
  have HLT : Hid (Nts (w8.setCell ⟨w.heap.size + 1 + 1, 12, none⟩ (.slice ia t.is.length ic)) (w.heap.size + 3) w8.heap.size t (vcs t (.slice ya t.y.length yc) (.slice ka t.ks.length kc) (.slice ia t.is.length ic))) := by
    have h4 := HB7.out
    have h5 := HS8.out
    have h6 := HP8.out.r
    refine Nts.mk _ _ t _ _ _ L fa fb HBD.out HY.out.byte ?_ (fun q hq => by have := HGY.out q hq; omega) ?_ (fun q hq => by have := HGK.out q hq; omega) (by have := HKL.out; omega) HKS.out ?_ (fun q hq => by have := HGI.out q hq; omega) (by have := HIL.out; omega) HP8.out.n HP8.out.s (fun i hi => by have := h6 i hi; omega) HP8.out.d (fun i hi => (h6 i hi).2.2.2) (fun i hi q hq => by have := h6 i hi; have := HGY.out q hq; omega) (fun i hi q hq => by have := h6 i hi; have := HGK.out q hq; omega) (fun i u c e1 e2 => ?_)
    · exact hset.2.owns HY8.out (fun q hq e => by have := HGY.out q hq; omega)
    · exact hset.2.owns HK8.out (fun q hq e => by have := HGK.out q hq; omega)
    · exact own_mono (hset.2.owns HP8.out.o (fun q hq e => by have := HGI.out q hq; omega)) (by omega)
    · have h7 := h6 i (List.getElem?_eq_some_iff.1 e1).1
      exact (HP8.out.i i u c e1 e2).kp hset.2 (fun q h8 h9 e => by omega)
  have HS9 : Hid (w8.heap.size ≤ (w8.setCell ⟨w.heap.size + 1 + 1, 12, none⟩ (.slice ia t.is.length ic)).heap.size) := hset.2.size
  clear hset HW8 HY8 HK8 HP8
  have HXL : Hid (∀ j v, (vcs t (.slice ya t.y.length yc) (.slice ka t.ks.length kc) (.slice ia t.is.length ic))[j]? = some v → (w8.setCell ⟨w.heap.size + 1 + 1, 12, none⟩ (.slice ia t.is.length ic)).cell? ⟨w.heap.size + 1 + 1, 0 + j, none⟩ = some v) := fun j v hv => by
    rw [Nat.zero_add]
    exact blk_cell HW9.out.x hv
  have HON := hide HLT.out.one
  have HONA : Hid ((vcs t (.slice ya t.y.length yc) (.slice ka t.ks.length kc) (.slice ia t.is.length ic)).all (·.oneCell') = true) := by
    show _ = _
    rw [Array.all_eq_true']
    intro u hu
    exact HON.out.2 u (by simpa using hu)
  have HIN : Hid ((Tryd.prog.info? 29).map (·.size) = some (vcs t (.slice ya t.y.length yc) (.slice ka t.ks.length kc) (.slice ia t.is.length ic)).size) := infoV
  have HR9 := hide HW9.out.r
  have HZV : Hid (zv.size = (vcs t (.slice ya t.y.length yc) (.slice ka t.ks.length kc) (.slice ia t.is.length ic)).size) := rfl
  go_wp2_with (first
    | (refine wpList_valAt rfl rfl (w.heap.size + 1 + 1) 0 (vcs t (.slice ya t.y.length yc) (.slice ka t.ks.length kc) (.slice ia t.is.length ic)) rfl rfl HXL.out ?_)
    | (refine wpList_storeRow rfl rfl (w.heap.size + 1) zv (vcs t (.slice ya t.y.length yc) (.slice ka t.ks.length kc) (.slice ia t.is.length ic)) 29 rfl rfl HR9.out HIN.out HZV.out HONA.out ?_))
  have hkr := row_kp (w8.setCell ⟨w.heap.size + 1 + 1, 12, none⟩ (.slice ia t.is.length ic)) (w.heap.size + 1) (vcs t (.slice ya t.y.length yc) (.slice ka t.ks.length kc) (.slice ia t.is.length ic))
  have hzr := hkr.size
  have h89 := HS9.out
  exact bodyPost_ret (end_v1c rfl (row_same HR9.out) rfl) rfl ⟨_, rfl, (HLT.out.kp hkr (fun q h1 h2 e => by omega)).mono (by omega) (by omega), HW9.out.b.trans (hkr.below HW9.out.b.size (fun q e => by omega))⟩
theorem copyNts_any (t : Tv) (w : World) (cs : Array Value) (ht : Tin w t cs) (hm : tmuch t ≤ 100000) :
    Calls Tryd.prog 19 #[.agg cs] w fun e w' => ∃ c, e = .returned (.agg c) ∧ Nts w' w.heap.size w'.heap.size t c ∧ Below w.heap.size w w' := by
  have h : ∀ N, CopsW N := by
    intro N
    induction N with
    | zero => exact fun t h => absurd h (by omega)
    | succ N ih =>
      intro t htN w cs ht hm
      exact copyNts_step (SizeOf.sizeOf t) (fun u hu => ih u (by omega)) t rfl w cs ht hm
  exact h _ t (Nat.lt_succ_self _) w cs ht hm
end
section
open Go.RowKit Go
/-- Where a key stands first, or -1. -/
def Fnd (ks : List ByteArray) (key : ByteArray) (r : Int) : Prop := (r = -1 ∧ key ∉ ks) ∨ ∃ i : Nat, r = i ∧ ks[i]? = some key ∧ ∀ j s, j < i → ks[j]? = some s → s ≠ key
/-- What Find answers. -/
def Fdd (t : Tv) (key : ByteArray) (lo : Nat) (e : Ending) (w' : World) : Prop :=
  ∃ r : Int, Fnd t.ks key r ∧ ((∃ (i : Nat) (u : Tv) (c : Array Value), r = i ∧ t.k = 9 ∧ t.is[i]? = some u ∧ e = .returned (.tuple #[.agg c, .bool true]) ∧ Ntv w' lo w'.heap.size u c) ∨ ((t.k ≠ 9 ∨ r < 0 ∨ (t.is.length : Int) ≤ r) ∧ e = .returned (.tuple #[.agg zv, .bool false])))
end
section
open Go.RowKit Go
/-- A variable that holds a lent value. -/
structure Vr (wx : World) (g : Nat) (c : Array Value) (u : Tv) : Prop where
  x : wx.heap[g]? = some (.cells c 29 (0, 0))
  l : ∃ lo hi, Ltv wx lo hi u c
theorem Vr.next {wx wy : World} {g : Nat} {c : Array Value} {u : Tv} (h : Vr wx g c u) (hb : Below wx.heap.size wx wy) : Vr wy g c u :=
  ⟨(hb.block _ (blk_lt h.x)).trans h.x, by obtain ⟨lo, hi, hl⟩ := h.l; exact ⟨lo, hi, hl.kept hb⟩⟩
theorem Vr.start {w : World} {lo hi : Nat} {c : Array Value} {u : Tv} (h : Ltv w lo hi u c) : Vr ((w.alloc (.cells zv 29)).setRow w.heap.size c) w.heap.size c u :=
  ⟨(itm_mk w c).r, lo, hi, h.kept (itm_mk w c).b⟩
theorem Vr.size {wx : World} {g : Nat} {c : Array Value} {u : Tv} (h : Vr wx g c u) : c.size = 13 := by obtain ⟨lo, hi, hl⟩ := h.l; exact hl.size
theorem Vr.tin {wx : World} {g : Nat} {c : Array Value} {u : Tv} (h : Vr wx g c u) : Tin wx u c := by obtain ⟨lo, hi, hl⟩ := h.l; exact hl.tin
theorem Vr.cells {wx : World} {g : Nat} {c : Array Value} {u : Tv} (h : Vr wx g c u) : ∀ j x, c[j]? = some x → wx.cell? ⟨g, 0 + j, none⟩ = some x := fun j x hx => by rw [Nat.zero_add]; exact blk_cell h.x hx
theorem exec_valAt {o : Oper} {a : Act} {p : Operand} {g off : Nat} {cs : Array Value} {w : World} (ho : o.op = .load 29 p) (hp : a.eval p = .pointer (some ⟨g, off, none⟩)) (hn : cs.size = 13) (hc : ∀ j u, cs[j]? = some u → w.cell? ⟨g, off + j, none⟩ = some u) : (execOp a.eval o).run Tryd.prog w = .ok (.value (.agg cs)) w := by
  unfold execOp
  have hr := load_val (w := w) g off cs hn hc
  simp only [ho, Sem.run_bind, hp, hr, Result.andThen_ok]
  rfl
theorem wp_storeRow {o : Oper} {a : Act} {K : Act → World → Prop} {Q : Exit → Act → World → Prop} {w : World} {T : TypeId} {p x : Operand} (ho : o.op = .store T p x) (g : Nat) (old cs : Array Value) (t : TypeId)
    (hp : a.eval p = .pointer (some ⟨g, 0, none⟩)) (hx : a.eval x = .agg cs) (hg : w.heap[g]? = some (.cells old t (0, 0))) (hi : (Tryd.prog.info? T).map (·.size) = some cs.size) (hn : old.size = cs.size) (h1 : cs.all (·.oneCell') = true)
    (h : K (a.put o.dst undef) (w.setRow g cs)) : Oper.wp Tryd.prog o a w K Q := by
  unfold Oper.wp execOp
  have hr : (Instr.storeAt T (.pointer (some ⟨g, 0, none⟩)) (.agg cs)).run Tryd.prog w = .ok () (w.setRow g cs) := by
    simp only [Instr.storeAt, Instr.sureAddr, Sem.run_bind, Sem.run_pure, Result.andThen]
    exact run_storeVar_row (P := Tryd.prog) w g t T old cs hg hi hn h1
  simp only [ho, Sem.run_bind, hp, hx, hr, Result.andThen_ok]
  exact h
theorem step_storeRow {ops : Array Oper} {o : Oper} {a : Act} {K : Act → World → Prop} {Q : Exit → Act → World → Prop} {w : World} {T : TypeId} {p x : Operand} (hw : Region.wanted o (yielded ops a.tmps) = true) (ho : o.op = .store T p x) (g : Nat) (old cs : Array Value) (t : TypeId)
    (hp : a.eval p = .pointer (some ⟨g, 0, none⟩)) (hx : a.eval x = .agg cs) (hg : w.heap[g]? = some (.cells old t (0, 0))) (hi : (Tryd.prog.info? T).map (·.size) = some cs.size) (hn : old.size = cs.size) (h1 : cs.all (·.oneCell') = true)
    (h : K (a.put o.dst undef) (w.setRow g cs)) : if Region.wanted o (yielded ops a.tmps) = true then Oper.wp Tryd.prog o a w K Q else K (a.put o.dst undef) w := by
  rw [if_pos hw]
  exact wp_storeRow ho g old cs t hp hx hg hi hn h1 h
theorem tdepthL_much : ∀ (l : List Tv), (∀ u ∈ l, tdepth u ≤ tmuch u) → tdepthL l ≤ tmuchL l
  | [], _ => by simp [tdepthL]
  | t :: r, h => by
    have h1 := h t (List.mem_cons_self ..)
    have h2 := tdepthL_much r (fun u hu => h u (List.mem_cons_of_mem _ hu))
    rw [tdepthL, tmuchL]
    omega
theorem tdepth_much (t : Tv) : tdepth t ≤ tmuch t := by
  have h : ∀ N, ∀ t : Tv, SizeOf.sizeOf t = N → tdepth t ≤ tmuch t := by
    intro N
    induction N using Nat.strongRecOn with
    | _ N ih =>
      intro t hN
      have h1 := tdepthL_much t.is (fun u hu => ih _ (by rw [← hN]; exact Tv.is_lt hu) u rfl)
      have h2 := tmuch_eq t
      rw [tdepth_eq]
      split <;> omega
  exact h _ t rfl
end
section
open Go.RowKit Go
/-- The place that stands at i, turned by n. -/
def trk (n m i : Nat) : Nat := if n % 2 = 1 then m - 1 - (i + n) % m else (i + n) % m
def trp (n m : Nat) : List Nat := (List.range m).map (trk n m)
theorem turn_mod (n m i : Nat) (hi : i < m) : (i + n) % m = if i + n % m < m then i + n % m else i + n % m - m := by
  have hr : n % m < m := Nat.mod_lt _ (by omega)
  rw [← Nat.add_mod_mod]
  split
  · rename_i h
    exact Nat.mod_eq_of_lt h
  · rename_i h
    rw [Nat.mod_eq_sub_mod (by omega)]
    exact Nat.mod_eq_of_lt (by omega)
theorem trk_lt (n m i : Nat) (hi : i < m) : trk n m i < m := by
  have h := turn_mod n m i hi
  have hr : n % m < m := Nat.mod_lt _ (by omega)
  unfold trk
  rw [h]
  split <;> split <;> omega
theorem trk_inj (n m i j : Nat) (hi : i < m) (hj : j < m) (h : trk n m i = trk n m j) : i = j := by
  have h1 := turn_mod n m i hi
  have h2 := turn_mod n m j hj
  have hr : n % m < m := Nat.mod_lt _ (by omega)
  unfold trk at h
  rw [h1, h2] at h
  split at h <;> split at h <;> split at h <;> omega
theorem trk_sur (n m q : Nat) (hq : q < m) : ∃ i, i < m ∧ trk n m i = q := by
  have hr : n % m < m := Nat.mod_lt _ (by omega)
  have key : ∀ q, q < m → ∃ i, i < m ∧ (i + n) % m = q := fun q hq => by
    by_cases h : n % m ≤ q
    · refine ⟨q - n % m, by omega, ?_⟩
      rw [turn_mod n m _ (by omega)]
      rw [if_pos (by omega)]
      omega
    · refine ⟨q + m - n % m, by omega, ?_⟩
      rw [turn_mod n m _ (by omega)]
      rw [if_neg (by omega)]
      omega
  unfold trk
  by_cases ho : n % 2 = 1
  · obtain ⟨i, hi, e⟩ := key (m - 1 - q) (by omega)
    exact ⟨i, hi, by rw [if_pos ho, e]; omega⟩
  · obtain ⟨i, hi, e⟩ := key q hq
    exact ⟨i, hi, by rw [if_neg ho, e]⟩
theorem trp_perm (n m : Nat) : (trp n m).Perm (List.range m) := by
  have hnd : (trp n m).Nodup := by
    unfold trp
    rw [List.nodup_iff_pairwise_ne, List.pairwise_map]
    refine List.nodup_range.imp_of_mem ?_
    intro a b ha hb hab e
    exact hab (trk_inj n m a b (by simpa using ha) (by simpa using hb) e)
  refine (List.perm_ext_iff_of_nodup hnd List.nodup_range).2 fun q => ?_
  unfold trp
  rw [List.mem_range, List.mem_map]
  constructor
  · rintro ⟨i, hi, rfl⟩
    exact trk_lt n m i (by simpa using hi)
  · intro hq
    obtain ⟨i, hi, e⟩ := trk_sur n m q hq
    exact ⟨i, by simpa using hi, e⟩
theorem trp_at {n m i : Nat} (hi : i < m) : (trp n m)[i]? = some (trk n m i) := by
  unfold trp
  rw [List.getElem?_map, List.getElem?_range hi]
  rfl
end
section
open Go.RowKit Go
/-- What turned has in hand. -/
structure Tur (w wx : World) (S : Nat → Prop) (cs : Array Value) (t : Tv) (vy vK vI : Value) (kk : List ByteArray) (ms : List Tv) (L : List (Array Value)) : Prop where
  b : Below w.heap.size w wx
  p : wx.heap[w.heap.size]? = some (.cells cs 29 (0, 0))
  r : wx.heap[w.heap.size + 1]? = some (.cells zv 29 (0, 0))
  x : wx.heap[w.heap.size + 2]? = some (.cells (vcs t vy vK vI) 29 (0, 0))
  k : wx.ownsRow (w.heap.size + 3) 9 1 vK kk.length (sv kk)
  o : wx.ownsRow (w.heap.size + 3) 29 13 vI L.length (vfl L)
  d : ∀ q, vK.ownBlock = some q → vI.ownBlock = some q → False
  n : L.length = ms.length
  h : ∀ c ∈ L, one13 c
  t : ∀ (j : Nat) (u : Tv) (c : Array Value), ms[j]? = some u → L[j]? = some c → Tis wx (fun q => S q ∨ (w.heap.size ≤ q ∧ q ≤ w.heap.size + 2) ∨ vK.ownBlock = some q ∨ vI.ownBlock = some q) u c
theorem Tur.next {w wx wy : World} {S : Nat → Prop} {cs : Array Value} {t : Tv} {vy vK vI : Value} {kk : List ByteArray} {ms : List Tv} {L : List (Array Value)} (h : Tur w wx S cs t vy vK vI kk ms L) (hb : Below wx.heap.size wx wy) : Tur w wy S cs t vy vK vI kk ms L :=
  ⟨h.b.trans (hb.mono h.b.size), (hb.block _ (blk_lt h.p)).trans h.p, (hb.block _ (blk_lt h.r)).trans h.r, (hb.block _ (blk_lt h.x)).trans h.x, (Kp.of_below (S := fun _ => False) hb).owns h.k (fun _ _ e => e), (Kp.of_below (S := fun _ => False) hb).owns h.o (fun _ _ e => e), h.d, h.n, h.h, fun j u c hu hc => (h.t j u c hu hc).kp (Kp.of_below hb)⟩
theorem setK (t : Tv) (vy vK vI v : Value) : (vcs t vy vK vI).setIfInBounds 11 v = vcs t vy v vI := rfl
theorem setI (t : Tv) (vy vK vI v : Value) : (vcs t vy vK vI).setIfInBounds 12 v = vcs t vy vK v := rfl
/-- A key more. -/
theorem Tur.addk {w wx wy : World} {S : Nat → Prop} {cs : Array Value} {t : Tv} {vy vK vI vK2 : Value} {kk kk2 : List ByteArray} {ms : List Tv} {L : List (Array Value)} (h : Tur w wx S cs t vy vK vI kk ms L) (ho : wy.ownsRow (w.heap.size + 3) 9 1 vK2 kk2.length (sv kk2)) (hg : wx.grownBy wy vK.ownBlock) (hq : vK2.ownBlock = vK.ownBlock ∨ vK2.ownBlock = some wx.heap.size) : Tur w (wy.setCell ⟨w.heap.size + 2, 11, none⟩ vK2) S cs t vy vK2 vI kk2 ms L := by
  have hk1 : Kp (fun q => vK.ownBlock = some q) wx wy := (Kp.refl _ _).grown hg (fun k _ e => e)
  have hlt := fun q hq => h.k.lt q hq
  have hli := fun q hq => h.o.lt q hq
  have hxl := blk_lt h.x
  have hx2 : wy.heap[w.heap.size + 2]? = some (.cells (vcs t vy vK vI) 29 (0, 0)) := (hk1.block _ hxl (fun e => by have := hlt _ e; omega)).trans h.x
  have hk2 : Kp (fun q => q = w.heap.size + 2) wy (wy.setCell ⟨w.heap.size + 2, 11, none⟩ vK2) := (Kp.refl _ _).setCell _ _ (fun _ => rfl)
  have hkA : Kp (fun q => vK.ownBlock = some q ∨ q = w.heap.size + 2) wx (wy.setCell ⟨w.heap.size + 2, 11, none⟩ vK2) := (hk1.mono (fun _ _ e => .inl e)).trans hk2 (fun _ _ e => .inr e)
  have hb := h.b.size
  have hl2 := fun q hq => ho.lt q hq
  refine ⟨h.b.trans (hkA.below hb (fun q e => by rcases e with e | e; have := hlt _ e; omega; omega)), ?_, ?_, ?_, ?_, ?_, ?_, h.n, h.h, ?_⟩
  · exact (hkA.block _ (blk_lt h.p) (fun e => by rcases e with e | e; have := hlt _ e; omega; omega)).trans h.p
  · exact (hkA.block _ (blk_lt h.r) (fun e => by rcases e with e | e; have := hlt _ e; omega; omega)).trans h.r
  · rw [blk_set 11 _ hx2, setK]
  · exact hk2.owns ho (fun q hq e => by have := hl2 q hq; omega)
  · refine hkA.owns h.o (fun q hq e => ?_)
    rcases e with e | e
    · exact h.d q e hq
    · have := hli q hq
      omega
  · intro q h1 h2
    rcases hq with e | e
    · exact h.d q (e.symm.trans h1) h2
    · rw [e] at h1
      injection h1 with h1
      have := hli q h2
      omega
  · intro j u c hu hc
    refine ((h.t j u c hu hc).widen.kp (hkA.mono (fun q _ e => ?_))).mono (fun q e => ?_)
    · rcases e with e | e
      · exact .inl (.inr (.inr (.inl e)))
      · exact .inl (.inr (.inl ⟨by omega, by omega⟩))
    · rcases e with e | e | e | e
      · exact .inl (.inl e)
      · exact .inl (.inr (.inl e))
      · rcases hq with e2 | e2
        · exact .inl (.inr (.inr (.inl (e2.symm.trans e))))
        · rw [e2] at e
          injection e with e
          exact .inr (by omega)
      · exact .inl (.inr (.inr (.inr e)))
/-- An item more. -/
theorem Tur.addi {w wx wy : World} {S : Nat → Prop} {cs : Array Value} {t : Tv} {vy vK vI vI2 : Value} {kk : List ByteArray} {ms : List Tv} {L : List (Array Value)} {u : Tv} {c : Array Value} (h : Tur w wx S cs t vy vK vI kk ms L) (hc1 : one13 c) (hu : Tis wx (fun q => S q ∨ (w.heap.size ≤ q ∧ q ≤ w.heap.size + 2) ∨ vK.ownBlock = some q ∨ vI.ownBlock = some q) u c) (ho : wy.ownsRow (w.heap.size + 3) 29 13 vI2 (L.length + 1) (vfl L ++ c.toList)) (hg : wx.grownBy wy vI.ownBlock) (hq : vI2.ownBlock = vI.ownBlock ∨ vI2.ownBlock = some wx.heap.size) : Tur w (wy.setCell ⟨w.heap.size + 2, 12, none⟩ vI2) S cs t vy vK vI2 kk (ms ++ [u]) (L ++ [c]) := by
  have hk1 : Kp (fun q => vI.ownBlock = some q) wx wy := (Kp.refl _ _).grown hg (fun k _ e => e)
  have hlt := fun q hq => h.k.lt q hq
  have hli := fun q hq => h.o.lt q hq
  have hxl := blk_lt h.x
  have hx2 : wy.heap[w.heap.size + 2]? = some (.cells (vcs t vy vK vI) 29 (0, 0)) := (hk1.block _ hxl (fun e => by have := hli _ e; omega)).trans h.x
  have hk2 : Kp (fun q => q = w.heap.size + 2) wy (wy.setCell ⟨w.heap.size + 2, 12, none⟩ vI2) := (Kp.refl _ _).setCell _ _ (fun _ => rfl)
  have hkA : Kp (fun q => vI.ownBlock = some q ∨ q = w.heap.size + 2) wx (wy.setCell ⟨w.heap.size + 2, 12, none⟩ vI2) := (hk1.mono (fun _ _ e => .inl e)).trans hk2 (fun _ _ e => .inr e)
  have hb := h.b.size
  have hl2 := fun q hq => ho.lt q hq
  have hT : ∀ (x : Tv) (d : Array Value), Tis wx (fun q => S q ∨ (w.heap.size ≤ q ∧ q ≤ w.heap.size + 2) ∨ vK.ownBlock = some q ∨ vI.ownBlock = some q) x d → Tis (wy.setCell ⟨w.heap.size + 2, 12, none⟩ vI2) (fun q => S q ∨ (w.heap.size ≤ q ∧ q ≤ w.heap.size + 2) ∨ vK.ownBlock = some q ∨ vI2.ownBlock = some q) x d := fun x d hx => by
    refine (hx.widen.kp (hkA.mono (fun q _ e => ?_))).mono (fun q e => ?_)
    · rcases e with e | e
      · exact .inl (.inr (.inr (.inr e)))
      · exact .inl (.inr (.inl ⟨by omega, by omega⟩))
    · rcases e with e | e | e | e
      · exact .inl (.inl e)
      · exact .inl (.inr (.inl e))
      · exact .inl (.inr (.inr (.inl e)))
      · rcases hq with e2 | e2
        · exact .inl (.inr (.inr (.inr (e2.symm.trans e))))
        · rw [e2] at e
          injection e with e
          exact .inr (by omega)
  refine ⟨h.b.trans (hkA.below hb (fun q e => by rcases e with e | e; have := hli _ e; omega; omega)), ?_, ?_, ?_, ?_, ?_, ?_, by simp [h.n], ?_, ?_⟩
  · exact (hkA.block _ (blk_lt h.p) (fun e => by rcases e with e | e; have := hli _ e; omega; omega)).trans h.p
  · exact (hkA.block _ (blk_lt h.r) (fun e => by rcases e with e | e; have := hli _ e; omega; omega)).trans h.r
  · rw [blk_set 12 _ hx2, setI]
  · refine hkA.owns h.k (fun q hq e => ?_)
    rcases e with e | e
    · exact h.d q hq e
    · have := hlt q hq
      omega
  · have h2 := hk2.owns ho (fun q hq e => by have := hl2 q hq; omega)
    rw [List.length_append, vfl_app]
    have e : vfl [c] = c.toList := by simp [vfl]
    rw [e]
    exact h2
  · intro q h1 h2
    rcases hq with e | e
    · exact h.d q h1 (e.symm.trans h2)
    · rw [e] at h2
      injection h2 with h2
      have := hlt q h1
      omega
  · intro d hd
    rcases List.mem_append.1 hd with hd | hd
    · exact h.h d hd
    · rw [List.mem_singleton.1 hd]
      exact hc1
  · intro j x d hx hd
    have hn := h.n
    rcases Nat.lt_or_ge j ms.length with h1 | h1
    · rw [List.getElem?_append_left h1] at hx
      rw [List.getElem?_append_left (by omega)] at hd
      exact hT x d (h.t j x d hx hd)
    · rw [List.getElem?_append_right h1] at hx
      rw [List.getElem?_append_right (by omega)] at hd
      have e1 := (List.getElem?_eq_some_iff.1 hx).1
      simp at e1
      have e2 : j - ms.length = 0 := by omega
      have e3 : j - L.length = 0 := by omega
      rw [e2] at hx
      rw [e3] at hd
      simp at hx hd
      rw [← hx, ← hd]
      exact hT u c hu
theorem Tur.tis {w wx wz : World} {S : Nat → Prop} {cs : Array Value} {t : Tv} {vy vK vI : Value} {kk : List ByteArray} {ms : List Tv} {L : List (Array Value)} (h : Tur w wx S cs t vy vK vI kk ms L) (hb : Tbd t) (hy : BSl w vy t.y) (hys : t.y ≠ [] → ∀ q, vy.ownBlock = some q → ¬ S q) (hS : ∀ q, S q → q < w.heap.size) (hkp : Kp (fun q => q = w.heap.size + 1) wx wz) (hkz : ∀ s ∈ kk, s.size ≤ 140737488351232) (hkl : kk.length ≤ 140737488351232) (hml : ms.length ≤ 140737488351232) : Tis wz S (Tv.mk t.k t.f t.g t.n t.b t.s t.y t.l kk ms) (vcs t vy vK vI) := by
  have hz := h.b.size
  have hbz : Below w.heap.size w wz := h.b.trans (hkp.below hz (fun q e => by omega))
  have hkz2 := hkp.owns h.k (fun q hq e => by have := h.k.lt q hq; omega)
  have hoz := hkp.owns h.o (fun q hq e => by have := h.o.lt q hq; omega)
  have hn := h.n
  have hbig : ∀ c ∈ L, c.size = 13 := fun c hc => (h.h c hc).1
  obtain ⟨a, cap, hvI, hcap, hform⟩ : ∃ a cap, vI = .slice a ms.length cap ∧ (ms.length ≤ cap ∧ (a = none → cap = 0)) ∧ (ms = [] ∨ ∃ b off, a = some ⟨b, off, none⟩ ∧ ¬ S b ∧ ∀ i, i < ms.length → ∀ j u, (L.getD i #[])[j]? = some u → wz.cell? ⟨b, off + i * 13 + j, none⟩ = some u) := by
    rcases id hoz.2 with ⟨e, h0⟩ | ⟨g, cap, cur, e, _, _, h1, _⟩
    · have e2 : ms = [] := List.length_eq_zero_iff.1 (by omega)
      subst e2
      exact ⟨none, 0, e, ⟨by simp, fun _ => rfl⟩, .inl rfl⟩
    · refine ⟨_, cap, by rw [e, hn], ⟨by omega, fun h => by cases h⟩, .inr ⟨g, 0, rfl, fun hs => ?_, fun i hi j u hu => ?_⟩⟩
      · have h1 := hS g hs
        have h2 := hoz.lt g (by rw [e]; rfl)
        omega
      · rw [Nat.zero_add]
        have hc : L[i]? = some (L[i]'(by omega)) := List.getElem?_eq_getElem (by omega)
        have hoz2 := hoz
        rw [e] at hoz2
        refine own_val hoz2 hbig hc j u ?_
        rw [List.getD_eq_getElem?_getD, hc] at hu
        exact hu
  refine Tis.mk (Tv.mk t.k t.f t.g t.n t.b t.s t.y t.l kk ms) vy vK vI ⟨hb.n, hb.b, hb.s, hb.y, hb.l, hb.d⟩ (hy.move (keep_below hbz)) hys (SSl.own hkz2 rfl hkl hkz) (fun _ q hq hs => by have := hS q hs; have := h.k.lt q hq; omega) (fun i => L.getD i #[]) a cap hvI hcap hml (fun i u hu => ?_) hform
  have hil := (List.getElem?_eq_some_iff.1 hu).1
  have hil2 : i < ms.length := hil
  have hc : L[i]? = some (L[i]'(by omega)) := List.getElem?_eq_getElem (by omega)
  have h1 := (h.t i u _ hu hc).kp (hkp.mono (fun q _ e => .inr (.inl ⟨by omega, by omega⟩)))
  have h2 := h1.mono (fun q (e : S q) => .inl e)
  rw [List.getD_eq_getElem?_getD, hc]
  exact h2
end
section
open Go.RowKit Go
theorem wp_append_at {o : Oper} {a : Act} {K : Act → World → Prop} {Q : Exit → Act → World → Prop} {w : World} (s x : Operand) (t : TypeId) (ho : o.op = .call { callee := .builtin .append, args := #[s, x], argTypes := #[t, t] })
    (base : Nat) (e : TypeId) (i : TypeInfo) (z : Value) (size bytes : Nat) (ht : Tryd.prog.underlying t = some (.slice e)) (hi : Tryd.prog.info? e = some i) (hz : i.zero = some z) (hsize : i.size = size) (hby : i.bytes = bytes) (hzs : z.cells.size = size) (hsz : 0 < size)
    (v : Value) (n : Nat) (xs : List Value) (hs : a.eval s = v) (hown : w.ownsRow base e size v n xs) (ad : Addr) (m c : Nat) (news : List Value) (hx : a.eval x = .slice (some ad) m c) (hl : news.length = m * size) (hnews : ∀ j u, news[j]? = some u → w.cell? (ad.add j) = some u) (h1 : ∀ u ∈ news, u.oneCell' = true)
    (h63 : n + m ≤ maxLen) (hbytes : (n + m) * bytes ≤ 140737488355328) (hbase : base ≤ w.heap.size)
    (h : ∀ v' w', w'.ownsRow base e size v' (n + m) (xs ++ news) → w.grownBy w' v.ownBlock → (v'.ownBlock = v.ownBlock ∨ v'.ownBlock = some w.heap.size) → K (a.put o.dst v') w') : Oper.wp Tryd.prog o a w K Q := by
  obtain ⟨v', w', hr, h2, h3, _, h5⟩ := run_append_own_at (P := Tryd.prog) w base t o.type e i z size bytes ht hi hz hsize hby hzs hsz v n xs hown ad m c news hl hnews h1 h63 hbytes hbase
  unfold Oper.wp execOp
  simp only [ho, resolve, invoke, builtin, Sem.run_bind, Sem.run_pure, Result.andThen_ok, List.map_toArray, List.map_cons, List.map_nil, hs, hx, hr]
  exact h v' w' h2 h3 h5
theorem add0 (g j : Nat) : (⟨g, 0, none⟩ : Addr).add j = ⟨g, j, none⟩ := by unfold Addr.add; split <;> simp_all
theorem step_append_val {ops : Array Oper} {o : Oper} {a : Act} {K : Act → World → Prop} {Q : Exit → Act → World → Prop} {w : World} (hw : Region.wanted o (yielded ops a.tmps) = true) (s x : Operand)
    (ho : o.op = .call { callee := .builtin .append, args := #[s, x], argTypes := #[27, 27] }) (B : Nat) (v : Value) (n : Nat) (ds : List Value) (hs : a.eval s = v) (hown : w.ownsRow B 29 13 v n ds)
    (g : Nat) (c : Array Value) (h13 : one13 c) (hx : a.eval x = .slice (some ⟨g, 0, none⟩) 1 1) (hg : w.heap[g]? = some (.cells c 29 (0, 0))) (hlen : n < 1099511627) (hbase : B ≤ w.heap.size)
    (h : ∀ v' w', w'.ownsRow B 29 13 v' (n + 1) (ds ++ c.toList) → w.grownBy w' v.ownBlock → (v'.ownBlock = v.ownBlock ∨ v'.ownBlock = some w.heap.size) → K (a.put o.dst v') w') : if Region.wanted o (yielded ops a.tmps) = true then Oper.wp Tryd.prog o a w K Q else K (a.put o.dst undef) w := by
  rw [if_pos hw]
  obtain ⟨i, hi, hz0, hz1, hz2⟩ := infoV_ex
  refine wp_append_at s x 27 ho B 29 i _ 13 160 Tryd.underlying27 hi hz0 hz1 hz2 rfl (by decide) v n ds hs hown ⟨g, 0, none⟩ 1 1 c.toList hx (by rw [Array.length_toList, h13.1]) (fun j u hu => ?_) h13.2 (by unfold maxLen; omega) (by omega) hbase h
  rw [add0]
  exact blk_cell hg (by simpa using hu)
theorem step_append_str {ops : Array Oper} {o : Oper} {a : Act} {K : Act → World → Prop} {Q : Exit → Act → World → Prop} {w : World} (hw : Region.wanted o (yielded ops a.tmps) = true) (s x : Operand)
    (ho : o.op = .call { callee := .builtin .append, args := #[s, x], argTypes := #[26, 26] }) (B : Nat) (v : Value) (n : Nat) (ks : List ByteArray) (hs : a.eval s = v) (hown : w.ownsRow B 9 1 v n (sv ks))
    (g : Nat) (str : ByteArray) (hx : a.eval x = .slice (some ⟨g, 0, none⟩) 1 1) (hg : w.heap[g]? = some (.cells #[.string str] 9 (0, 0))) (hlen : n < 1099511627) (hbase : B ≤ w.heap.size)
    (h : ∀ v' w', w'.ownsRow B 9 1 v' (n + 1) (sv (ks ++ [str])) → w.grownBy w' v.ownBlock → (v'.ownBlock = v.ownBlock ∨ v'.ownBlock = some w.heap.size) → K (a.put o.dst v') w') : if Region.wanted o (yielded ops a.tmps) = true then Oper.wp Tryd.prog o a w K Q else K (a.put o.dst undef) w := by
  rw [if_pos hw]
  obtain ⟨i, hi, hz0, hz1, hz2⟩ := info9_ex
  have e : sv (ks ++ [str]) = sv ks ++ [.string str] := by simp [sv]
  refine wp_append_at s x 26 ho B 9 i _ 1 16 Tryd.underlying26 hi hz0 hz1 hz2 rfl (by decide) v n (sv ks) hs hown ⟨g, 0, none⟩ 1 1 [.string str] hx rfl (fun j u hu => ?_) (fun u hu => by rw [List.mem_singleton.1 hu]; rfl) (by unfold maxLen; omega) (by omega) hbase (fun v' w' h1 h2 h3 => h v' w' (by rw [e]; exact h1) h2 h3)
  rw [add0]
  exact blk_cell hg (by simpa using hu)
theorem step_val1 {ops : Array Oper} {o : Oper} {a : Act} {K : Act → World → Prop} {Q : Exit → Act → World → Prop} {w : World} (hw : Region.wanted o (yielded ops a.tmps) = true) {x0 : Operand} (ho : o.op = .buildSlice 27 1 #[(0, x0)]) (c : Array Value) (hc : c.size = 13) (h0 : a.eval x0 = .agg c)
    (h : K (a.put o.dst (.slice (some ⟨w.heap.size, 0, none⟩) 1 1)) (w.alloc (.cells c 29))) : if Region.wanted o (yielded ops a.tmps) = true then Oper.wp Tryd.prog o a w K Q else K (a.put o.dst undef) w := by
  rw [if_pos hw]
  obtain ⟨i, hi, hz, hs, _⟩ := infoV_ex
  refine wp_buildSlice 27 29 1 _ ho c i _ Tryd.underlying27 hi hz (by rw [hs]; decide) (by rw [hs]; decide) ?_ h
  rw [hs]
  have e : ((#[(0, x0)] : Array (Nat × Operand)).map fun (i, x) => (i, a.eval x)).toList = [(0, .agg c)] := by simp [h0]
  rw [e]
  exact fill_one c _ hc (by simp)
/-- What turned does. -/
def TurC (n : Nat) (t : Tv) : Prop := ∀ (w : World) (S : Nat → Prop) (cs : Array Value), Tis w S t cs → (∀ q, S q → q < w.heap.size) → Trk t → tmuch t ≤ 100000 → Calls Tryd.prog 9 #[.agg cs, .int .i64 (n : Nat)] w fun e w' => ∃ c t', e = .returned (.agg c) ∧ Tis w' S t' c ∧ Trn t t' ∧ Below w.heap.size w w'
end
section
open Go.RowKit Go
/-! The value with one thing changed. -/
def OthP (w : World) (lo hi : Nat) (t : Tv) (e : Ending) (w' : World) : Prop := ∃ c' ok, e = .returned (.tuple #[.agg c', .bool ok]) ∧ one13 c' ∧ Kp (fun q => lo ≤ q ∧ q < hi) w w' ∧ (ok = true → ∃ t', Tis w' (fun q => q < lo ∨ (hi ≤ q ∧ q < w.heap.size)) t' c' ∧ Oth t t')
theorem OthP.mk {w w' : World} {lo hi : Nat} {t : Tv} (c' : Array Value) (ok : Bool) (h1 : one13 c') (h2 : Kp (fun q => lo ≤ q ∧ q < hi) w w') (h3 : ok = true → ∃ t', Tis w' (fun q => q < lo ∨ (hi ≤ q ∧ q < w.heap.size)) t' c' ∧ Oth t t') : OthP w lo hi t (.returned (.tuple #[.agg c', .bool ok])) w' := ⟨c', ok, rfl, h1, h2, h3⟩
def OthC (W : World) (N : Nat) : Prop := ∀ t : Tv, SizeOf.sizeOf t < N → ∀ (w : World) (lo hi n : Nat) (c : Array Value), Nts w lo hi t c → hi ≤ w.heap.size → W.heap.size ≤ lo → lo ≤ hi → Below W.heap.size W w → chkf t 0 = 0 → tmuch t ≤ 30000 → n < 1048576 →
  Calls Tryd.prog 18 #[.agg c, .int .i64 (n : Nat)] w (OthP w lo hi t)
/-- What other stands on: its own copy of the value, and its answer. -/
structure Ozw (w wx : World) (lo hi : Nat) (c : Array Value) : Prop where
  p : wx.heap[w.heap.size]? = some (.cells c 29 (0, 0))
  r : wx.heap[w.heap.size + 1]? = some (.cells zv 29 (0, 0))
  k : Kp (fun q => lo ≤ q ∧ q < hi) w wx
theorem Ozw.start (w : World) (lo hi : Nat) (c : Array Value) : Ozw w ((w.alloc (.cells c 29)).alloc (.cells zv 29)) lo hi c := by
  refine ⟨blk_alloc _ (heap_alloc_new w _), ?_, ((Kp.refl _ w).alloc _).alloc _⟩
  have h := heap_alloc_new (w.alloc (.cells c 29)) (.cells zv 29)
  have e : (w.alloc (.cells c 29)).heap.size = w.heap.size + 1 := by simp
  rw [e] at h
  exact h
theorem Ozw.next {w wx wy : World} {lo hi : Nat} {c : Array Value} (h : Ozw w wx lo hi c) (hi2 : hi ≤ w.heap.size) {S : Nat → Prop} (hk : Kp S wx wy) (hs : ∀ q, S q → (lo ≤ q ∧ q < hi) ∨ w.heap.size + 2 ≤ q) : Ozw w wy lo hi c :=
  ⟨(hk.block _ (blk_lt h.p) (fun e => by have := hs _ e; omega)).trans h.p, (hk.block _ (blk_lt h.r) (fun e => by have := hs _ e; omega)).trans h.r, h.k.trans hk (fun q hq e => by have := hs q e; omega)⟩
theorem Ozw.size {w wx : World} {lo hi : Nat} {c : Array Value} (h : Ozw w wx lo hi c) : w.heap.size + 2 ≤ wx.heap.size := blk_lt h.r
theorem wp_storePart {o : Oper} {a : Act} {K : Act → World → Prop} {Q : Exit → Act → World → Prop} {w : World} {T : TypeId} {p x : Operand} (ho : o.op = .store T p x) (g off : Nat) (cur cs : Array Value) (t : TypeId)
    (hp : a.eval p = .pointer (some ⟨g, off, none⟩)) (hx : a.eval x = .agg cs) (hg : w.heap[g]? = some (.cells cur t (0, 0))) (hi : (Tryd.prog.info? T).map (·.size) = some cs.size) (hf : off + cs.size ≤ cur.size) (h1 : ∀ v ∈ cs.toList, v.oneCell' = true)
    (h : K (a.put o.dst undef) (w.setRow g (splice cur.toList off cs.toList).toArray)) : Oper.wp Tryd.prog o a w K Q := by
  unfold Oper.wp execOp
  have hr := part_store (w := w) (T := T) (t := t) g off cur.toList cs.toList (by simpa using hg) (by simpa using hi) (by simpa using hf) h1
  simp only [Array.toArray_toList] at hr
  simp only [ho, Sem.run_bind, hp, hx, hr, Result.andThen_ok]
  exact h
theorem step_storePart {ops : Array Oper} {o : Oper} {a : Act} {K : Act → World → Prop} {Q : Exit → Act → World → Prop} {w : World} {T : TypeId} {p x : Operand} (hw : Region.wanted o (yielded ops a.tmps) = true) (ho : o.op = .store T p x) (g off : Nat) (cur cs : Array Value) (t : TypeId)
    (hp : a.eval p = .pointer (some ⟨g, off, none⟩)) (hx : a.eval x = .agg cs) (hg : w.heap[g]? = some (.cells cur t (0, 0))) (hi : (Tryd.prog.info? T).map (·.size) = some cs.size) (hf : off + cs.size ≤ cur.size) (h1 : ∀ v ∈ cs.toList, v.oneCell' = true)
    (h : K (a.put o.dst undef) (w.setRow g (splice cur.toList off cs.toList).toArray)) : if Region.wanted o (yielded ops a.tmps) = true then Oper.wp Tryd.prog o a w K Q else K (a.put o.dst undef) w := by
  rw [if_pos hw]
  exact wp_storePart ho g off cur cs t hp hx hg hi hf h1 h
/-- What stands behind the call for an item. -/
structure Ow2 (w wz : World) (lo hi : Nat) (t : Tv) (vy vk vi : Value) (L : List (Array Value)) (a b : Nat → Nat) (j gx : Nat) (cx : Array Value) (ok : Bool) (u : Tv) : Prop where
  z : Ozw w wz lo hi (vcs t vy vk vi)
  x : wz.heap[gx]? = some (.cells cx 29 (0, 0))
  gx : w.heap.size + 2 ≤ gx
  o : one13 cx
  y : wz.ownsRow lo 5 1 vy t.y.length (bv t.y)
  k : wz.ownsRow lo 9 1 vk t.ks.length (sv t.ks)
  v : wz.ownsRow lo 29 13 vi t.is.length (vfl L)
  i : ∀ (i : Nat) (v : Tv) (c : Array Value), i ≠ j → t.is[i]? = some v → L[i]? = some c → Nts wz (a i) (b i) v c
  u : ok = true → ∃ u', Tis wz (fun q => q < a j ∨ (b j ≤ q ∧ q < w.heap.size + 2)) u' cx ∧ Oth u u'
theorem Ow2.of {w w2 wg : World} {lo hi : Nat} {t : Tv} {vy vk vi : Value} {L : List (Array Value)} {a b : Nat → Nat} {j gx : Nat} {cx : Array Value} {ok : Bool} {u : Tv} (hw : hi ≤ w.heap.size) (hz : Ozw w w2 lo hi (vcs t vy vk vi)) (hj : j < t.is.length)
    (hy : w2.ownsRow lo 5 1 vy t.y.length (bv t.y)) (hk : w2.ownsRow lo 9 1 vk t.ks.length (sv t.ks)) (hv : w2.ownsRow lo 29 13 vi t.is.length (vfl L)) (hab : ∀ i, i < t.is.length → lo ≤ a i ∧ a i ≤ b i ∧ b i ≤ hi) (hdj : ∀ i j, i < j → j < t.is.length → b i ≤ a j) (hoi : ∀ i, i < t.is.length → ∀ q, vi.ownBlock = some q → q < a i ∨ b i ≤ q) (hoy : ∀ i, i < t.is.length → ∀ q, vy.ownBlock = some q → q < a i ∨ b i ≤ q) (hok : ∀ i, i < t.is.length → ∀ q, vk.ownBlock = some q → q < a i ∨ b i ≤ q)
    (hcs : ∀ (i : Nat) (u : Tv) (c : Array Value), t.is[i]? = some u → L[i]? = some c → Nts w2 (a i) (b i) u c) (hkp : Kp (fun q => a j ≤ q ∧ q < b j) w2 wg) (hx : wg.heap[gx]? = some (.cells cx 29 (0, 0))) (hgx : w.heap.size + 2 ≤ gx) (ho : one13 cx)
    (hu : ok = true → ∃ u', Tis wg (fun q => q < a j ∨ (b j ≤ q ∧ q < w.heap.size + 2)) u' cx ∧ Oth u u') : Ow2 w wg lo hi t vy vk vi L a b j gx cx ok u := by
  have hjr := hab j hj
  refine ⟨hz.next hw hkp (fun q e => .inl ⟨by omega, by omega⟩), hx, hgx, ho, hkp.owns hy (fun q hq e => by have := hoy j hj q hq; omega), hkp.owns hk (fun q hq e => by have := hok j hj q hq; omega), hkp.owns hv (fun q hq e => by have := hoi j hj q hq; omega), fun i v c hi e1 e2 => ?_, hu⟩
  have hil := (List.getElem?_eq_some_iff.1 e1).1
  refine (hcs i v c e1 e2).kp hkp (fun q q1 q2 e => ?_)
  rcases Nat.lt_or_gt_of_ne hi with h | h
  · have := hdj i j h hj
    omega
  · have := hdj j i h hil
    omega
theorem getE_set {α : Type} {l : List α} {j : Nat} {x : α} {i : Nat} {y : α} (h : (l.set j x)[i]? = some y) : (i = j ∧ y = x) ∨ (i ≠ j ∧ l[i]? = some y) := by
  by_cases e : i = j
  · subst e
    have hl := (List.getElem?_eq_some_iff.1 h).1
    rw [List.length_set] at hl
    rw [List.getElem?_set_self hl] at h
    injection h with h
    exact .inl ⟨rfl, h.symm⟩
  · rw [List.getElem?_set_ne (fun e2 => e e2.symm)] at h
    exact .inr ⟨e, h⟩
/-- The item is laid back. -/
theorem Ow2.fin {w wz wh : World} {lo hi : Nat} {t : Tv} {vy vk vi : Value} {L : List (Array Value)} {a b : Nat → Nat} {j gx : Nat} {cx : Array Value} {ok : Bool} {u : Tv} (h : Ow2 w wz lo hi t vy vk vi L a b j gx cx ok u) (hw : hi ≤ w.heap.size) (hj : j < t.is.length) (hu : t.is[j]? = some u) (hct : chkf t 0 = 0) (hbd : Tbd t) (hyb : ∀ x ∈ t.y, x < 256) (hkl : t.ks.length ≤ 140737488351232) (hks : ∀ s ∈ t.ks, s.size ≤ 140737488351232) (hil : t.is.length ≤ 140737488351232) (hL : L.length = t.is.length) (h13 : ∀ c ∈ L, one13 c)
    (hgy : ∀ q, vy.ownBlock = some q → q < hi) (hgk : ∀ q, vk.ownBlock = some q → q < hi) (hgi : ∀ q, vi.ownBlock = some q → q < hi) (hab : ∀ i, i < t.is.length → lo ≤ a i ∧ a i ≤ b i ∧ b i ≤ hi) (hoi : ∀ i, i < t.is.length → ∀ q, vi.ownBlock = some q → q < a i ∨ b i ≤ q) (hoy : ∀ q, vi.ownBlock = some q → vy.ownBlock ≠ some q) (hok : ∀ q, vi.ownBlock = some q → vk.ownBlock ≠ some q)
    {g cap : Nat} (hvi : vi = .slice (some ⟨g, 0, none⟩) t.is.length cap) {cur : Array Value} (hg : wz.heap[g]? = some (.cells cur 29 (0, 0))) (hh : wh.heap[g]? = some (.cells (splice cur.toList (j * 13) cx.toList).toArray 29 (0, 0))) (hkp : Kp (fun q => q = g) wz wh) :
    Ozw w wh lo hi (vcs t vy vk vi) ∧ (ok = true → ∃ t', Tis wh (fun q => q < lo ∨ (hi ≤ q ∧ q < w.heap.size + 2)) t' (vcs t vy vk vi) ∧ Oth t t') := by
  have hgb : vi.ownBlock = some g := by rw [hvi]; rfl
  have hgr := (h.v.lt g hgb).1
  have hgh := hgi g hgb
  refine ⟨h.z.next hw hkp (fun q e => .inl ⟨by omega, by omega⟩), fun ht => ?_⟩
  obtain ⟨u', hu1, hu2⟩ := h.u ht
  refine ⟨t.wi (t.is.set j u'), ?_, Oth.down hct hu hu2⟩
  have hlen : (t.wi (t.is.set j u')).is.length = t.is.length := by show (t.is.set j u').length = _; simp
  have hrow : wh.ownsRow lo 29 13 vi t.is.length (vfl (L.set j cx)) := by
    have h0 := h.v
    rw [hvi] at h0 ⊢
    exact own_part h0 hL (fun c hc => (h13 c hc).1) hg hj h.o.1 hh
  have hjr := hab j hj
  have hjo := hoi j hj g hgb
  have e0 : vcs t vy vk vi = vcs (t.wi (t.is.set j u')) vy vk vi := rfl
  rw [e0]
  refine Tis.of (B := lo) (L := L.set j cx) (t := t.wi (t.is.set j u')) ⟨hbd.n, hbd.b, hbd.s, hbd.y, hbd.l, hbd.d⟩ (hkp.bsl (BSl.own h.y hyb) (fun q hq e => hoy g hgb (e ▸ hq))) (fun _ q hq e => ?_) (hkp.ssl (SSl.own h.k rfl hkl hks) (fun q hq e => hok g hgb (e ▸ hq))) (fun _ q hq e => ?_) (by rw [hlen]; exact hrow) (fun _ q hq e => ?_) (by rw [hlen]; exact hil) (by rw [List.length_set, hlen, hL]) (fun c hc => ?_) (fun i v c e1 e2 => ?_)
  · have := (h.y.lt q hq).1; have := hgy q hq; omega
  · have := (h.k.lt q hq).1; have := hgk q hq; omega
  · have := (h.v.lt q hq).1; have := hgi q hq; omega
  · rcases List.mem_or_eq_of_mem_set hc with e | e
    · exact (h13 c e).1
    · rw [e]; exact h.o.1
  · have e1' : (t.is.set j u')[i]? = some v := e1
    rcases getE_set e1' with ⟨f1, f2⟩ | ⟨f1, f2⟩
    · subst f1
      subst f2
      rcases getE_set e2 with ⟨_, f3⟩ | ⟨f3, _⟩
      · subst f3
        refine (hu1.kp (hkp.mono (fun q _ e => ?_))).mono (fun q e => ?_)
        · have hlt := (h.v.lt g hgb).2
          omega
        · omega
      · exact absurd rfl f3
    · rcases getE_set e2 with ⟨f3, _⟩ | ⟨_, f4⟩
      · exact absurd f3 f1
      · have hil2 := (List.getElem?_eq_some_iff.1 f2).1
        have hir := hab i hil2
        have hio := hoi i hil2 g hgb
        exact ((h.i i v c f1 f2 f4).kp hkp (fun q q1 q2 e => by omega)).tis.mono (fun q e => by omega)
end
section
open Go.RowKit Go
/-- What stands behind the change of a part that no item is asked of. -/
structure Osw (w wx : World) (lo hi : Nat) (t t' : Tv) (c' : Array Value) : Prop where
  z : Ozw w wx lo hi c'
  v : Tis wx (fun q => q < lo ∨ (hi ≤ q ∧ q < w.heap.size + 2)) t' c'
  o : chkf t' 0 = 0 → Oth t t'
  m : tmuch t' ≤ tmuch t + 2
theorem vcs_inj {t : Tv} {vy vk vi vy' vk' vi' : Value} (h : vcs t vy vk vi = vcs t vy' vk' vi') : vy = vy' ∧ vk = vk' ∧ vi = vi' := by
  have h1 : (vcs t vy vk vi)[6]? = (vcs t vy' vk' vi')[6]? := by rw [h]
  have h2 : (vcs t vy vk vi)[11]? = (vcs t vy' vk' vi')[11]? := by rw [h]
  have h3 : (vcs t vy vk vi)[12]? = (vcs t vy' vk' vi')[12]? := by rw [h]
  exact ⟨by simpa [vcs] using h1, by simpa [vcs] using h2, by simpa [vcs] using h3⟩
theorem Tis.like {w : World} {S : Nat → Prop} {t t' : Tv} {vy vk vi : Value} (h : Tis w S t (vcs t vy vk vi)) (hb : Tbd t') (hy : t'.y = t.y) (hk : t'.ks = t.ks) (hi : t'.is = t.is) : Tis w S t' (vcs t' vy vk vi) := by
  generalize hc : vcs t vy vk vi = c at h
  cases h with
  | mk _ vy2 vk2 vi2 hb2 hy2 hys hk2 hks cs a cap hv hcc hm hii ha =>
    obtain ⟨e1, e2, e3⟩ := vcs_inj hc
    subst e1 e2 e3
    exact Tis.mk t' vy vk vi hb (by rw [hy]; exact hy2) (by rw [hy]; exact hys) (by rw [hk]; exact hk2) (by rw [hk]; exact hks) cs a cap (by rw [hi]; exact hv) (by rw [hi]; exact hcc) (by rw [hi]; exact hm) (by rw [hi]; exact hii) (by rw [hi]; exact ha)
/-- A cell of the copy is written. -/
theorem Ozw.set {w wx : World} {lo hi : Nat} {c : Array Value} (h : Ozw w wx lo hi c) (k : Nat) (v : Value) : Ozw w (wx.setCell ⟨w.heap.size, k, none⟩ v) lo hi (c.setIfInBounds k v) :=
  ⟨blk_set k v h.p, blk_other k v h.r (by omega), h.k.setCell _ _ (fun h => absurd h (Nat.lt_irrefl _))⟩
theorem set_kp (w : World) (g k : Nat) (v : Value) : Kp (fun q => q = g) w (w.setCell ⟨g, k, none⟩ v) := (Kp.refl _ w).setCell _ _ (fun _ => rfl)
/-- One of the plain fields. -/
theorem Osw.plain {w w2 : World} {lo hi : Nat} {t t' : Tv} {vy vk vi : Value} (hw : hi ≤ w.heap.size) (hz : Ozw w w2 lo hi (vcs t vy vk vi)) (ht : Tis w2 (fun q => q < lo ∨ (hi ≤ q ∧ q < w.heap.size + 2)) t (vcs t vy vk vi)) (k : Nat) (v : Value) (hv : (vcs t vy vk vi).setIfInBounds k v = vcs t' vy vk vi) (hb : Tbd t') (hy : t'.y = t.y) (hk : t'.ks = t.ks) (hi2 : t'.is = t.is) (ho : chkf t' 0 = 0 → Oth t t') (hm : tmuch t' ≤ tmuch t + 2) :
    Osw w (w2.setCell ⟨w.heap.size, k, none⟩ v) lo hi t t' (vcs t' vy vk vi) := by
  refine ⟨by rw [← hv]; exact hz.set k v, (Tis.like ht hb hy hk hi2).kp ((set_kp w2 w.heap.size k v).mono (fun q _ e => by omega)), ho, hm⟩
theorem tk_tis (w : World) (S : Nat → Prop) (k : Int) : Tis w S (tk k) (vcs (tk k) (.slice none 0 0) (.slice none 0 0) (.slice none 0 0)) :=
  Tis.mk (tk k) _ _ _ ⟨by show (0 : Nat) < _; decide, by show (0 : Nat) < _; decide, by show (ByteArray.mk #[]).size ≤ _; decide, by show ([] : List Nat).length ≤ _; decide, ⟨by show (0 : Nat) < _; decide, by show (0 : Nat) < _; decide, fun x hx => (by cases hx), by show ([] : List Nat).length ≤ _; decide⟩, by show ([] : List Nat).length ≤ _; decide⟩
    ⟨⟨none, 0, rfl, ⟨Nat.le_refl _, fun _ => rfl⟩, .inl rfl⟩, by show (0 : Nat) ≤ _; decide, fun x hx => (by cases hx)⟩ (fun h => absurd rfl h) ⟨⟨none, 0, rfl, ⟨Nat.le_refl _, fun _ => rfl⟩, .inl rfl⟩, by show (0 : Nat) ≤ _; decide, fun x hx => (by cases hx)⟩ (fun h => absurd rfl h) (fun _ => #[]) none 0 rfl ⟨Nat.le_refl _, fun _ => rfl⟩ (by show (0 : Nat) ≤ _; decide) (fun i u hu => (by cases hu)) (.inl rfl)
/-- One byte more. -/
theorem Osw.bytes {w w2 w5 : World} {lo hi : Nat} {t : Tv} {vy vk vi vy' : Value} {L : List (Array Value)} {a b : Nat → Nat} (hw : hi ≤ w.heap.size) (hz : Ozw w w2 lo hi (vcs t vy vk vi)) (hbd : Tbd t) (hyb : ∀ x ∈ t.y, x < 256) (hy : w2.ownsRow lo 5 1 vy t.y.length (bv t.y)) (hgy : ∀ q, vy.ownBlock = some q → q < hi) (hk : w2.ownsRow lo 9 1 vk t.ks.length (sv t.ks)) (hgk : ∀ q, vk.ownBlock = some q → q < hi) (hkl : t.ks.length ≤ 140737488351232) (hks : ∀ s ∈ t.ks, s.size ≤ 140737488351232)
    (hv : w2.ownsRow lo 29 13 vi t.is.length (vfl L)) (hgi : ∀ q, vi.ownBlock = some q → q < hi) (hil : t.is.length ≤ 140737488351232) (hL : L.length = t.is.length) (h13 : ∀ c ∈ L, one13 c) (hab : ∀ i, i < t.is.length → lo ≤ a i ∧ a i ≤ b i ∧ b i ≤ hi) (hoy : ∀ i, i < t.is.length → ∀ q, vy.ownBlock = some q → q < a i ∨ b i ≤ q) (hcs : ∀ (i : Nat) (u : Tv) (c : Array Value), t.is[i]? = some u → L[i]? = some c → Nts w2 (a i) (b i) u c) (hyl : t.y.length ≤ 100000000)
    (ho : w5.ownsRow lo 5 1 vy' (t.y.length + 1) (bv t.y ++ [.int .u8 0])) (hg : (w2.alloc (.cells #[.int .u8 0] 5)).grownBy w5 vy.ownBlock) (hv' : vy'.ownBlock = vy.ownBlock ∨ vy'.ownBlock = some (w2.heap.size + 1)) :
    Osw w (w5.setCell ⟨w.heap.size, 6, none⟩ vy') lo hi t (t.xy (t.y ++ [0])) (vcs (t.xy (t.y ++ [0])) vy' vk vi) := by
  have hs2 := hz.size
  have hk1 : Kp (fun q => vy.ownBlock = some q) w2 w5 := (Kp.of_below (S := fun q => vy.ownBlock = some q) (below_alloc4 w2 _)).trans ((Kp.refl _ _).grown hg (fun k _ h => h)) (fun _ _ h => h)
  have hyr : ∀ q, vy.ownBlock = some q → lo ≤ q ∧ q < hi := fun q hq => ⟨(hy.lt q hq).1, hgy q hq⟩
  have hz5 : Ozw w w5 lo hi (vcs t vy vk vi) := hz.next hw hk1 (fun q e => .inl (hyr q e))
  have hkS := set_kp w5 w.heap.size 6 vy'
  have hyl2 : (t.xy (t.y ++ [0])).y = t.y ++ [0] := rfl
  have hbv : bv (t.y ++ [0]) = bv t.y ++ [.int .u8 0] := by simp [bv]
  have hy5 : (w5.setCell ⟨w.heap.size, 6, none⟩ vy').ownsRow lo 5 1 vy' (t.y ++ [0]).length (bv (t.y ++ [0])) := by
    rw [hbv, List.length_append]
    refine hkS.owns ho (fun q hq e => ?_)
    rcases hv' with h | h
    · have := hyr q (h ▸ hq); omega
    · rw [h] at hq; injection hq with hq; omega
  refine ⟨hz5.set 6 vy', ?_, fun hc => Oth.byte hc (by simp), ?_⟩
  · refine Tis.of (B := lo) (L := L) (t := t.xy (t.y ++ [0])) ⟨hbd.n, hbd.b, hbd.s, by rw [hyl2, List.length_append]; show t.y.length + 1 ≤ _; omega, hbd.l, hbd.d⟩ (BSl.own hy5 (fun x hx => ?_)) (fun _ q hq e => ?_) (SSl.own (ks := t.ks) (hkS.owns (hk1.owns hk (fun q hq e => own_apart hk hy (by decide) hq e)) (fun q hq e => by have := hgk q hq; omega)) rfl hkl hks) (fun _ q hq e => ?_) (hkS.owns (hk1.owns hv (fun q hq e => own_apart hv hy (by decide) hq e)) (fun q hq e => by have := hgi q hq; omega)) (fun _ q hq e => ?_) hil hL (fun c hc => (h13 c hc).1) (fun i u c e1 e2 => ?_)
    · rcases List.mem_append.1 hx with h | h
      · exact hyb x h
      · simp only [List.mem_singleton] at h
        rw [h]; decide
    · have h0 := (ho.lt q hq).1
      rcases hv' with h | h
      · have := hyr q (h ▸ hq); omega
      · rw [h] at hq; injection hq with hq; omega
    · have := (hk.lt q hq).1; have := hgk q hq; omega
    · have := (hv.lt q hq).1; have := hgi q hq; omega
    · have hil2 := (List.getElem?_eq_some_iff.1 e1).1
      have hir := hab i hil2
      exact (((hcs i u c e1 e2).kp hk1 (fun q q1 q2 e => by have := hoy i hil2 q e; omega)).kp hkS (fun q q1 q2 e => by omega)).tis.mono (fun q e => by omega)
  · rw [tmuch_eq, tmuch_eq t]
    show 1 + t.ks.length + (t.y ++ [0]).length / 64 + t.s.size / 64 + t.l.d.length / 64 + (t.ks.map fun k => k.size / 64).sum + tmuchL t.is ≤ _
    rw [List.length_append, List.length_singleton]
    omega
/-- One item more. -/
theorem Osw.items {w w2 w5 : World} {lo hi : Nat} {t : Tv} {vy vk vi vi' : Value} {L : List (Array Value)} {a b : Nat → Nat} (hw : hi ≤ w.heap.size) (hct : chkf t 0 = 0) (h8 : t.k = 8) (hz : Ozw w w2 lo hi (vcs t vy vk vi)) (hbd : Tbd t) (hyb : ∀ x ∈ t.y, x < 256) (hy : w2.ownsRow lo 5 1 vy t.y.length (bv t.y)) (hgy : ∀ q, vy.ownBlock = some q → q < hi) (hk : w2.ownsRow lo 9 1 vk t.ks.length (sv t.ks)) (hgk : ∀ q, vk.ownBlock = some q → q < hi) (hkl : t.ks.length ≤ 140737488351232) (hks : ∀ s ∈ t.ks, s.size ≤ 140737488351232)
    (hv : w2.ownsRow lo 29 13 vi t.is.length (vfl L)) (hgi : ∀ q, vi.ownBlock = some q → q < hi) (hil : t.is.length ≤ 100000) (hL : L.length = t.is.length) (h13 : ∀ c ∈ L, one13 c) (hab : ∀ i, i < t.is.length → lo ≤ a i ∧ a i ≤ b i ∧ b i ≤ hi) (hoi : ∀ i, i < t.is.length → ∀ q, vi.ownBlock = some q → q < a i ∨ b i ≤ q) (hcs : ∀ (i : Nat) (u : Tv) (c : Array Value), t.is[i]? = some u → L[i]? = some c → Nts w2 (a i) (b i) u c) {c1 : Array Value} (hc1 : c1 = vcs (tk 1) (.slice none 0 0) (.slice none 0 0) (.slice none 0 0))
    (ho : w5.ownsRow lo 29 13 vi' (t.is.length + 1) (vfl L ++ c1.toList)) (hg : (w2.alloc (.cells c1 29)).grownBy w5 vi.ownBlock) (hv' : vi'.ownBlock = vi.ownBlock ∨ vi'.ownBlock = some (w2.alloc (.cells c1 29)).heap.size) :
    Osw w (w5.setCell ⟨w.heap.size, 12, none⟩ vi') lo hi t (t.wi (t.is ++ [tk 1])) (vcs (t.wi (t.is ++ [tk 1])) vy vk vi') := by
  have hs2 := hz.size
  have hsz : (w2.alloc (.cells c1 29)).heap.size = w2.heap.size + 1 := by simp
  rw [hsz] at hv'
  have hk1 : Kp (fun q => vi.ownBlock = some q) w2 w5 := (Kp.of_below (S := fun q => vi.ownBlock = some q) (below_alloc4 w2 _)).trans ((Kp.refl _ _).grown hg (fun k _ h => h)) (fun _ _ h => h)
  have hir : ∀ q, vi.ownBlock = some q → lo ≤ q ∧ q < hi := fun q hq => ⟨(hv.lt q hq).1, hgi q hq⟩
  have hz5 : Ozw w w5 lo hi (vcs t vy vk vi) := hz.next hw hk1 (fun q e => .inl (hir q e))
  have hkS := set_kp w5 w.heap.size 12 vi'
  have hnew : ∀ q, vi'.ownBlock = some q → (lo ≤ q ∧ q < hi) ∨ q = w2.heap.size + 1 := fun q hq => by
    rcases hv' with h | h
    · exact .inl (hir q (h ▸ hq))
    · rw [h] at hq; injection hq with hq; exact .inr hq.symm
  have hvf : vfl (L ++ [c1]) = vfl L ++ c1.toList := by rw [vfl_app]; simp [vfl]
  have hlen : (t.wi (t.is ++ [tk 1])).is.length = t.is.length + 1 := by show (t.is ++ [tk 1]).length = _; simp
  have hoth : chkf (t.wi (t.is ++ [tk 1])) 0 = 0 → Oth t (t.wi (t.is ++ [tk 1])) := fun hc => Oth.more hct h8 hc
  refine ⟨hz5.set 12 vi', ?_, hoth, ?_⟩
  · refine Tis.of (B := lo) (L := L ++ [c1]) (t := t.wi (t.is ++ [tk 1])) ⟨hbd.n, hbd.b, hbd.s, hbd.y, hbd.l, hbd.d⟩ (BSl.own (hkS.owns (hk1.owns hy (fun q hq e => own_apart hy hv (by decide) hq e)) (fun q hq e => by have := hgy q hq; omega)) hyb) (fun _ q hq e => ?_) (SSl.own (ks := t.ks) (hkS.owns (hk1.owns hk (fun q hq e => own_apart hk hv (by decide) hq e)) (fun q hq e => by have := hgk q hq; omega)) rfl hkl hks) (fun _ q hq e => ?_) (by rw [hlen, hvf]; exact hkS.owns ho (fun q hq e => by have := hnew q hq; omega)) (fun _ q hq e => ?_) (by rw [hlen]; omega) (by rw [hlen, List.length_append, hL]; rfl) (fun c hc => ?_) (fun i u c e1 e2 => ?_)
    · have := (hy.lt q hq).1; have := hgy q hq; omega
    · have := (hk.lt q hq).1; have := hgk q hq; omega
    · have h0 := (ho.lt q hq).1; have := hnew q hq; omega
    · rcases List.mem_append.1 hc with h | h
      · exact (h13 c h).1
      · simp only [List.mem_singleton] at h
        rw [h, hc1]; rfl
    · have e1' : (t.is ++ [tk 1])[i]? = some u := e1
      by_cases hi2 : i < t.is.length
      · rw [List.getElem?_append_left hi2] at e1'
        rw [List.getElem?_append_left (by omega)] at e2
        have hirr := hab i hi2
        exact (((hcs i u c e1' e2).kp hk1 (fun q q1 q2 e => by have := hoi i hi2 q e; omega)).kp hkS (fun q q1 q2 e => by omega)).tis.mono (fun q e => by omega)
      · have hi3 := (List.getElem?_eq_some_iff.1 e1').1
        rw [List.length_append, List.length_singleton] at hi3
        have hi4 : i = t.is.length := by omega
        subst hi4
        have eu : u = tk 1 := by simpa using e1'.symm
        have ec : c = c1 := by
          rw [← hL] at e2
          simpa using e2.symm
        rw [eu, ec, hc1]
        exact tk_tis _ _ 1
  · rw [tmuch_eq, tmuch_eq t]
    show 1 + t.ks.length + t.y.length / 64 + t.s.size / 64 + t.l.d.length / 64 + (t.ks.map fun k => k.size / 64).sum + tmuchL (t.is ++ [tk 1]) ≤ _
    rw [muchL_app, tmuchL, tmuchL, tk_much]
    omega
theorem own_eq {g n c q : Nat} (h : (Value.slice (some ⟨g, 0, none⟩) n c).ownBlock = some q) : q = g := by
  simp only [Value.ownBlock, Option.some.injEq] at h
  exact h.symm
theorem own_take {w : World} {B e s g n cap k : Nat} {xs : List Value} (h : w.ownsRow B e s (.slice (some ⟨g, 0, none⟩) n cap) n xs) (hk : k ≤ n) : w.ownsRow B e s (.slice (some ⟨g, 0, none⟩) k cap) k (xs.take (k * s)) := by
  have hl := h.1
  have hm : k * s ≤ n * s := Nat.mul_le_mul_right s hk
  rcases h.2 with ⟨hv, _⟩ | ⟨g', cap', cur, hv, hb, hg, h1, h2, h3, h4⟩
  · cases hv
  injection hv with e1 e2 e3
  injection e1 with e1
  injection e1 with e1 _ _
  subst e1
  subst e3
  refine ⟨by rw [List.length_take]; omega, .inr ⟨g, cap, cur, rfl, hb, hg, by omega, h2, h3, ?_⟩⟩
  rw [← h4, List.take_take, Nat.min_eq_left hm]
theorem vfl_take : ∀ {L : List (Array Value)}, (∀ c ∈ L, c.size = 13) → ∀ k, vfl (L.take k) = (vfl L).take (k * 13)
  | [], _, k => by simp [vfl]
  | c :: r, _, 0 => by simp [vfl]
  | c :: r, h, k + 1 => by
    have h1 := h c (List.mem_cons_self ..)
    have l1 : c.toList.length = 13 := by simpa using h1
    have ih := vfl_take (L := r) (fun d hd => h d (List.mem_cons_of_mem _ hd)) k
    have e1 : vfl (c :: r) = c.toList ++ vfl r := by simp [vfl]
    have e2 : vfl ((c :: r).take (k + 1)) = c.toList ++ vfl (r.take k) := by simp [vfl]
    rw [e1, e2, ih, show (k + 1) * 13 = c.toList.length + k * 13 by omega, List.take_length_add_append]
/-- One entry less. -/
theorem Osw.less {w w2 : World} {lo hi : Nat} {t : Tv} {vy : Value} {gk gi ck ci : Nat} {L : List (Array Value)} {a b : Nat → Nat} (hw : hi ≤ w.heap.size) (hct : chkf t 0 = 0) (h9 : t.k = 9) (hkn : 0 < t.is.length) (hz : Ozw w w2 lo hi (vcs t vy (.slice (some ⟨gk, 0, none⟩) t.ks.length ck) (.slice (some ⟨gi, 0, none⟩) t.is.length ci))) (hbd : Tbd t) (hyb : ∀ x ∈ t.y, x < 256) (hy : w2.ownsRow lo 5 1 vy t.y.length (bv t.y)) (hgy : ∀ q, vy.ownBlock = some q → q < hi) (hk : w2.ownsRow lo 9 1 (.slice (some ⟨gk, 0, none⟩) t.ks.length ck) t.ks.length (sv t.ks)) (hgk : gk < hi) (hkl : t.ks.length ≤ 140737488351232) (hks : ∀ s ∈ t.ks, s.size ≤ 140737488351232)
    (hv : w2.ownsRow lo 29 13 (.slice (some ⟨gi, 0, none⟩) t.is.length ci) t.is.length (vfl L)) (hgi : gi < hi) (hil : t.is.length ≤ 100000) (hL : L.length = t.is.length) (h13 : ∀ c ∈ L, one13 c) (hab : ∀ i, i < t.is.length → lo ≤ a i ∧ a i ≤ b i ∧ b i ≤ hi) (hcs : ∀ (i : Nat) (u : Tv) (c : Array Value), t.is[i]? = some u → L[i]? = some c → Nts w2 (a i) (b i) u c) :
    Osw w ((w2.setCell ⟨w.heap.size, 11, none⟩ (.slice (some ⟨gk, 0, none⟩) (t.ks.length - 1) ck)).setCell ⟨w.heap.size, 12, none⟩ (.slice (some ⟨gi, 0, none⟩) (t.is.length - 1) ci)) lo hi t t.wl (vcs t.wl vy (.slice (some ⟨gk, 0, none⟩) (t.ks.length - 1) ck) (.slice (some ⟨gi, 0, none⟩) (t.is.length - 1) ci)) := by
  have hlenI : t.wl.is.length = t.is.length - 1 := by show (t.is.take (t.is.length - 1)).length = _; rw [List.length_take]; omega
  have hlenK : t.wl.ks.length = t.ks.length - 1 := by show (t.ks.take (t.ks.length - 1)).length = _; rw [List.length_take]; omega
  have hkS : Kp (fun q => q = w.heap.size) w2 ((w2.setCell ⟨w.heap.size, 11, none⟩ (.slice (some ⟨gk, 0, none⟩) (t.ks.length - 1) ck)).setCell ⟨w.heap.size, 12, none⟩ (.slice (some ⟨gi, 0, none⟩) (t.is.length - 1) ci)) := (set_kp w2 w.heap.size 11 _).trans (set_kp _ w.heap.size 12 _) (fun _ _ h => h)
  have hgkr := (hk.lt gk rfl).1
  have hgir := (hv.lt gi rfl).1
  have hsv : sv t.wl.ks = (sv t.ks).take ((t.ks.length - 1) * 1) := by
    show sv (t.ks.take (t.ks.length - 1)) = _
    rw [Nat.mul_one]
    simp [sv, List.map_take]
  have hvf : vfl (L.take (t.is.length - 1)) = (vfl L).take ((t.is.length - 1) * 13) := vfl_take (fun c hc => (h13 c hc).1) _
  refine ⟨(hz.set 11 _).set 12 _, ?_, fun hc => Oth.less hct h9 hkn hc, ?_⟩
  · refine Tis.of (B := lo) (L := L.take (t.is.length - 1)) (t := t.wl) ⟨hbd.n, hbd.b, hbd.s, hbd.y, hbd.l, hbd.d⟩ (BSl.own (hkS.owns hy (fun q hq e => by have := hgy q hq; omega)) hyb) (fun _ q hq e => ?_) (SSl.own (ks := t.wl.ks) (n := t.ks.length - 1) (hkS.owns (by rw [hsv]; exact own_take hk (by omega)) (fun q hq e => by have e2 := own_eq hq; omega)) hlenK.symm (by rw [hlenK]; omega) (fun s hs => hks s (List.mem_of_mem_take hs))) (fun _ q hq e => ?_) (by
        rw [hlenI, hvf]
        exact hkS.owns (own_take hv (by omega)) (fun q hq e => by have e2 := own_eq hq; omega)) (fun _ q hq e => ?_) (by rw [hlenI]; omega) (by rw [hlenI, List.length_take]; omega) (fun c hc => (h13 c (List.mem_of_mem_take hc)).1) (fun i u c e1 e2 => ?_)
    · have := (hy.lt q hq).1; have := hgy q hq; omega
    · have e2 := own_eq hq
      omega
    · have e2 := own_eq hq
      omega
    · have hi2 := (List.getElem?_eq_some_iff.1 e1).1
      rw [hlenI] at hi2
      have e1' : (t.is.take (t.is.length - 1))[i]? = some u := e1
      rw [List.getElem?_take_of_lt hi2] at e1'
      rw [List.getElem?_take_of_lt hi2] at e2
      have hir := hab i (by omega)
      exact ((hcs i u c e1' e2).kp hkS (fun q q1 q2 e => by omega)).tis.mono (fun q e => by omega)
  · rw [tmuch_eq, tmuch_eq t]
    show 1 + (t.ks.take (t.ks.length - 1)).length + t.y.length / 64 + t.s.size / 64 + t.l.d.length / 64 + ((t.ks.take (t.ks.length - 1)).map fun k => k.size / 64).sum + tmuchL (t.is.take (t.is.length - 1)) ≤ _
    have h1 := muchL_take t.is (t.is.length - 1)
    have h2 := sum_take (t.ks.map fun k => k.size / 64) (t.ks.length - 1)
    rw [← List.map_take] at h2
    have h3 : (t.ks.take (t.ks.length - 1)).length ≤ t.ks.length := by rw [List.length_take]; omega
    omega
end
end Go.Proofs.YtibcepokeaaoiabDoor
