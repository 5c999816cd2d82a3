import Derived.Test.YtibcepokeaaoiaaDoorJj
import Derived.LaidLaws
import Derived.Handed
import Derived.Lib.LaidTab
import Derived.Great.BuildSlice
import Derived.Great.FillDense
import Derived.Maps.AppendAt
import Derived.Lib.SmallJoins
import Derived.Test.YtibcepokeaaoiaaDoorTie
import Derived.Test.YtibcepokeaaoiaaDoorCards
import Derived.ProofKit
namespace Go.Proofs.YtibcepokeaaoiaaDoor
section
open Go.ChangeShapes Go.WideShapes Go.ChangeAt Go.RowKit Go
/-- What the rows lay. -/
def kki : List Int := kk.map fun n => ((n : Nat) : Int)
theorem cellsU32 : Tryd.prog.cellsOf 115 = 1 := by kernel_rfl
end
section
open Go.ChangeShapes Go.WideShapes Go.ChangeAt Go.RowKit Go.Deep Go.Joins Go

end
section
open Go.ChangeShapes Go.WideShapes Go.ChangeAt Go.RowKit Go.Deep Go.Joins Go
/-- A slice of uint64. -/
structure U64In (w : World) (v : Value) (hs : List Nat) : Prop where
  form : ∃ a c, v = .slice a hs.length c ∧ (hs = [] ∨ ∃ b off, a = some ⟨b, off, none⟩ ∧ ∀ j, j < hs.length → w.cell? ⟨b, off + j, none⟩ = some (.int .u64 ((hs.getD j 0 : Nat) : Int)))
  lt : ∀ x ∈ hs, x < 18446744073709551616
  max : hs.length ≤ 9223372036854775807
theorem U64In.move {w w' : World} {v : Value} {hs : List Nat} (h : U64In w v hs) (hm : ∀ p u, w.cell? p = some u → w'.cell? p = some u) : U64In w' v hs := by
  obtain ⟨⟨a, c, hv, hc⟩, h1, h2⟩ := h
  refine ⟨⟨a, c, hv, ?_⟩, h1, h2⟩
  rcases hc with hc | ⟨b, off, ha, hc⟩
  · exact .inl hc
  · exact .inr ⟨b, off, ha, fun j hj => hm _ _ (hc j hj)⟩
/-- The cells of links in a row. -/
def fcl (rs : List Lk) : List Value := rs.flatMap fun l => (lcs l).toList
theorem fcl_app (a b : List Lk) : fcl (a ++ b) = fcl a ++ fcl b := by simp [fcl]
theorem fcl_len : ∀ rs : List Lk, (fcl rs).length = rs.length * 4
  | [] => rfl
  | r :: rs => by
    have h := fcl_len rs
    have e : fcl (r :: rs) = (lcs r).toList ++ fcl rs := by simp [fcl]
    rw [e, List.length_append, h, List.length_cons]
    have : (lcs r).toList.length = 4 := rfl
    omega
theorem fcl_get : ∀ (rs : List Lk) (k : Nat) (l : Lk) (j : Nat) (u : Value), rs[k]? = some l → (lcs l)[j]? = some u → (fcl rs)[k * 4 + j]? = some u
  | [], k, l, j, u, h, _ => by simp at h
  | r :: rs, 0, l, j, u, h, hu => by
    simp at h
    subst h
    have e : fcl (r :: rs) = (lcs r).toList ++ fcl rs := by simp [fcl]
    have hj : j < (lcs r).size := by
      rcases Array.getElem?_eq_some_iff.1 hu with ⟨hj, _⟩
      exact hj
    rw [e, List.getElem?_append_left (by simpa using hj)]
    simpa using hu
  | r :: rs, k + 1, l, j, u, h, hu => by
    simp at h
    have e : fcl (r :: rs) = (lcs r).toList ++ fcl rs := by simp [fcl]
    have h4 : (lcs r).toList.length = 4 := rfl
    rw [e, List.getElem?_append_right (by omega)]
    have e2 : (k + 1) * 4 + j - (lcs r).toList.length = k * 4 + j := by omega
    rw [e2]
    exact fcl_get rs k l j u h hu
theorem fcl_one (rs : List Lk) : ∀ u ∈ fcl rs, u.oneCell' = true := by
  intro u hu
  simp only [fcl, List.mem_flatMap] at hu
  obtain ⟨l, _, hl⟩ := hu
  simp only [lcs, List.mem_cons, List.not_mem_nil, or_false] at hl
  rcases hl with rfl | rfl | rfl | rfl <;> rfl
theorem infoLk_ex : ∃ i, Tryd.prog.info? 27 = some i ∧ i.zero = some (.agg zlk) ∧ i.size = 4 ∧ i.bytes = 40 := by
  have h : (Tryd.prog.info? 27).map (fun i => (i.zero, i.size, i.bytes)) = some (some (.agg zlk), 4, 40) := by kernel_rfl
  cases hi : Tryd.prog.info? 27 with
  | none => rw [hi] at h; cases h
  | some i =>
    rw [hi] at h
    injection h with h
    injection h with h1 h2
    injection h2 with h2 h3
    exact ⟨i, rfl, h1, h2, h3⟩
theorem zip_parts (rs : List Lk) (i0 : Nat) : (rs.map lkv).zipIdx i0 = (rs.zipIdx i0).map fun x => (lkv x.1, x.2) := by
  rw [List.zipIdx_map]
  rfl
theorem fill_lks (rs : List Lk) (cells : Array Value) (hc : cells.size = rs.length * 4) : Instr.fill (fun i => some (i * 4, 4)) cells ((rs.zipIdx 0).map fun x => (x.2, lkv x.1)) = some (fcl rs).toArray := by
  obtain ⟨r, hr, hsz, hk⟩ := Great.fill_dense (s := 4) (by decide) (rs.map lkv) 0 cells (by
    intro v hv
    simp only [List.mem_map] at hv
    obtain ⟨l, _, rfl⟩ := hv
    rfl) (by rw [List.length_map, hc]; omega)
  have e : r = (fcl rs).toArray := by
    apply Array.ext_getElem?
    intro k
    have et : (fcl rs).toArray[k]? = (fcl rs)[k]? := List.getElem?_toArray
    rw [hk k, List.length_map, et]
    by_cases h : k < rs.length * 4
    · rw [if_pos ⟨by omega, by omega⟩, Nat.sub_zero, List.getElem?_map]
      have h4 : k / 4 < rs.length := by omega
      rw [List.getElem?_eq_getElem h4]
      simp only [Option.map_some, Option.bind_some]
      have hx : ∃ u, (lcs rs[k / 4])[k % 4]? = some u := by
        have : k % 4 < (lcs rs[k / 4]).size := by show k % 4 < 4; omega
        exact ⟨_, Array.getElem?_eq_getElem this⟩
      obtain ⟨u, hu⟩ := hx
      have hg := fcl_get rs (k / 4) rs[k / 4] (k % 4) u (List.getElem?_eq_getElem h4) hu
      have ek : k / 4 * 4 + k % 4 = k := by omega
      rw [ek] at hg
      rw [hg]
      exact hu
    · rw [if_neg (by omega), Array.getElem?_eq_none (by omega), List.getElem?_eq_none (by rw [fcl_len]; omega)]
  rw [e] at hr
  rw [zip_parts, List.map_map] at hr
  exact hr
theorem big24 {n : Nat} (h : n ≤ 1000) : ¬ n * 4 > 2 ^ 24 := by
  have : (2 : Nat) ^ 24 = 16777216 := by decide
  omega
theorem wpList_lks {ops : Array Oper} {rest : List Oper} {o : Oper} {a : Act} {w : World} {Q : Exit → Act → World → Prop} (hg : o.guard = none) (n : Nat) (parts : Array (Nat × Operand)) (ho : o.op = .buildSlice 43 n parts) (rs : List Lk) (hn : rs.length = n) (h0 : 0 < n) (h8 : n ≤ 1000)
    (hx : (parts.map fun (i, x) => (i, a.eval x)).toList = (rs.zipIdx 0).map fun x => (x.2, lkv x.1))
    (h : wpList Tryd.prog ops Q rest (a.put o.dst (.slice (some ⟨w.heap.size, 0, none⟩) n n)) (w.alloc (.cells (fcl rs).toArray 27))) : wpList Tryd.prog ops Q (o :: rest) a w := by
  obtain ⟨i, hi, hz, hs, _⟩ := infoLk_ex
  refine wpList_buildSlice hg 43 27 n _ ho (fcl rs).toArray i _ Tryd.underlying43 hi hz (by rw [hs]; exact big24 h8) (by rw [hs]; omega) ?_ h
  rw [hs, hx]
  exact fill_lks rs _ (by simp [hn])
/-- append of one link. -/
theorem append_lk {ops : Array Oper} {rest : List Oper} {o : Oper} {a : Act} {Q : Exit → Act → World → Prop} {w : World} (hgd : o.guard = none) (s x : Operand)
    (ho : o.op = .call { callee := .builtin .append, args := #[s, x], argTypes := #[43, 43] }) (B : Nat) (v : Value) (n : Nat) (rs : List Lk) (hs : a.eval s = v) (hown : w.ownsRow B 27 4 v n (fcl rs))
    (g : Nat) (l : Lk) (hx : a.eval x = .slice (some ⟨g, 0, none⟩) 1 1) (hg : w.heap[g]? = some (.cells (fcl [l]).toArray 27 (0, 0))) (hlen : n < 1099511627776) (hbase : B ≤ w.heap.size)
    (h : ∀ v' w', w'.ownsRow B 27 4 v' (n + 1) (fcl (rs ++ [l])) → w.grownBy w' v.ownBlock → wpList Tryd.prog ops Q rest (a.put o.dst v') w') : wpList Tryd.prog ops Q (o :: rest) a w := by
  obtain ⟨i, hi, hz0, hz1, hz2⟩ := infoLk_ex
  refine wpList_append_own_at w hgd s x 43 ho B 27 i _ 4 40 Tryd.underlying43 hi hz0 hz1 hz2 rfl (by decide) v n (fcl rs) hs hown ⟨g, 0, none⟩ 1 1 (fcl [l]) hx (by rw [fcl_len]; rfl) (fun j u hu => ?_) (fcl_one [l]) (by unfold maxLen; omega) (by omega) hbase fun v' w' h1 h2 _ _ => h v' w' (by rw [fcl_app]; exact h1) h2
  have hadd : (⟨g, 0, none⟩ : Addr).add j = ⟨g, j, none⟩ := by unfold Addr.add; split <;> simp_all
  rw [hadd]
  exact blk_cell hg (by rw [List.getElem?_toArray]; exact hu)
theorem own_form4 {w : World} {B : Nat} {e : TypeId} {v : Value} {n : Nat} {xs : List Value} (h : w.ownsRow B e 4 v n xs) : ∃ a cap, v = .slice a n cap ∧ (0 < n → ∃ g, a = some ⟨g, 0, none⟩) := by
  rcases h.2 with ⟨rfl, h0⟩ | ⟨g, cap, cur, rfl, _⟩
  · exact ⟨none, 0, by rw [h0], fun hp => by omega⟩
  · exact ⟨_, cap, rfl, fun _ => ⟨g, rfl⟩⟩
theorem own_lk {w : World} {B g n cap k : Nat} {rs : List Lk} {l : Lk} (h : w.ownsRow B 27 4 (.slice (some ⟨g, 0, none⟩) n cap) n (fcl rs)) (hk : rs[k]? = some l) : ∀ j u, (lcs l)[j]? = some u → w.cell? ⟨g, k * 4 + j, none⟩ = some u := fun j u hu => by
  have := h.cells (g := g) rfl (k * 4 + j) u (fcl_get rs k l j u hk hu)
  have hadd : (⟨g, 0, none⟩ : Addr).add (k * 4 + j) = ⟨g, k * 4 + j, none⟩ := by unfold Addr.add; split <;> simp_all
  rw [hadd] at this
  exact this
theorem own_lks (w : World) (rs : List Lk) (hn : 0 < rs.length) (hx : rs.length ≤ 1000) : (w.alloc (.cells (fcl rs).toArray 27)).ownsRow w.heap.size 27 4 (.slice (some ⟨w.heap.size, 0, none⟩) rs.length rs.length) rs.length (fcl rs) :=
  ⟨fcl_len rs, .inr ⟨w.heap.size, rs.length, _, rfl, Nat.le_refl _, heap_alloc_new w _, Nat.le_refl _, by unfold maxLen; omega, by simp [fcl_len], by
    show (fcl rs).toArray.toList.take (rs.length * 4) = fcl rs
    rw [List.toList_toArray, ← fcl_len, List.take_length]⟩⟩
end
section
open Go.RowKit Go

end
section
open Go.RowKit Go
theorem cells_of {w : World} {d : Nat} {l : List Value} {t : TypeId} (h : w.heap[d]? = some (.cells l.toArray t (0, 0))) : w.rangeAt d 0 l := fun j v hv => by
  rw [Nat.zero_add]
  exact blk_cell h (by rw [List.getElem?_toArray]; exact hv)
theorem bslD_of {w : World} {d : Nat} {D : List Nat} {t : TypeId} (h : w.heap[d]? = some (.cells (bv D).toArray t (0, 0))) (hb : ∀ x ∈ D, x < 256) (hl : D.length = 32) : BSl w (.slice (some ⟨d, 0, none⟩) 32 32) D := by
  have h2 := bsl_block h hb (by rw [hl]; decide)
  rw [hl] at h2
  exact h2
theorem exec_text {o : Oper} {a : Act} {x : Operand} {xs : List Nat} {w : World} {v : Value} (ho : o.op = .convert 25 9 x) (hx : a.eval x = v) (h : BSl w v xs) : (execOp a.eval o).run Tryd.prog w = .ok (.value (.string (nstr xs))) w := by
  unfold execOp
  simp only [ho, Sem.run_bind, hx, h.text, Result.andThen_ok]
  rfl
theorem exec_loadLk {o : Oper} {a : Act} {p : Operand} {g : Nat} {cs : Array Value} {w : World} (ho : o.op = .load 27 p) (hp : a.eval p = .pointer (some ⟨g, 0, none⟩)) (hn : cs.size = 4) (hg : w.heap[g]? = some (.cells cs 27 (0, 0))) : (execOp a.eval o).run Tryd.prog w = .ok (.value (.agg cs)) w := by
  unfold execOp
  have hr : (Instr.loadAt 27 (.pointer (some ⟨g, 0, none⟩))).run Tryd.prog w = .ok (.agg cs) w := by
    simp only [Instr.loadAt, Instr.sureAddr, Sem.run_bind, Sem.run_pure, Result.andThen]
    exact run_loadVar_row (P := Tryd.prog) w g 27 27 cs (0, 0) _ hg Tryd.underlying27 rfl (by rw [hn]; exact info61)
  simp only [ho, Sem.run_bind, hp, hr, Result.andThen_ok]
  rfl
theorem bv_set2 (l : List Nat) (j x : Nat) : (bv l).set j (.int .u8 ((x : Nat) : Int)) = bv (l.set j x) := by simp [bv, List.map_set]
theorem flip_bit (q j : Nat) (hq : q < 256) (hj : j < 8) : ∃ z : Nat, bits .xor .u8 (q : Int) (2 ^ j % 256) = (z : Int) ∧ z < 256 ∧ z ≠ q := by
  have h2 : 2 ^ j < 256 := by
    have : 2 ^ j ≤ 2 ^ 7 := Nat.pow_le_pow_right (by decide) (by omega)
    have e : 2 ^ 7 = 128 := rfl
    omega
  have e : (2 : Int) ^ j % 256 = ((2 ^ j : Nat) : Int) := by
    rw [Int.emod_eq_of_lt (Int.pow_nonneg (by decide))]
    · rw [Int.natCast_pow]; rfl
    · have : ((2 ^ j : Nat) : Int) < 256 := by omega
      rw [Int.natCast_pow] at this
      exact this
  refine ⟨q ^^^ 2 ^ j, by rw [e, u8_xor_nat _ _ hq h2], Nat.xor_lt_two_pow (n := 8) hq h2, fun h => ?_⟩
  have h3 : q ^^^ 2 ^ j ^^^ q = 0 := by rw [h, Nat.xor_self]
  rw [Nat.xor_comm, ← Nat.xor_assoc, Nat.xor_self, Nat.zero_xor] at h3
  have : 0 < 2 ^ j := Nat.pow_pos (by decide)
  omega
theorem set_ne {D : List Nat} {k z q : Nat} (hk : k < D.length) (hq : D.getD k 0 = q) (hz : z ≠ q) : D.set k z ≠ D := fun e => hz (by
  have h2 := congrArg (fun l => l.getD k 0) e
  have h3 : (D.set k z).getD k 0 = z := by rw [List.getD_eq_getElem?_getD, List.getElem?_set_self hk, Option.getD_some]
  rw [← h3, ← hq]
  exact h2)
theorem mod256 (i : Nat) : (i : Int) % 256 = ((i % 256 : Nat) : Int) := by omega
theorem own_ok {xs : List Nat} : lok ⟨1, 85, 0, xs⟩ ↔ xs.length ≤ 64 := by
  constructor
  · rintro (⟨h, _⟩ | ⟨_, _, h | h⟩)
    · exact absurd (show (1 : Int) = 0 from h) (by decide)
    · exact absurd (show (0 : Nat) = 18 from h.1) (by decide)
    · exact h.2
  · exact fun h => .inr ⟨rfl, (by decide : 85 < 9223372036854775808), .inr ⟨rfl, h⟩⟩
theorem own_holds {xs ys : List Nat} : (decide (lok ⟨1, 85, 0, xs⟩) && dholds 0 xs ys) = (decide (xs.length ≤ 64) && decide (xs = ys)) := by
  unfold dholds
  by_cases h : xs.length ≤ 64
  · have h1 : lok ⟨1, 85, 0, xs⟩ := own_ok.2 h
    simp [h, h1]
  · have h1 : ¬ lok ⟨1, 85, 0, xs⟩ := fun e => h (own_ok.1 e)
    simp [h, h1]
end
section
open Go.RowKit Go
theorem intact_b {w : World} {base g cap : Nat} {xs : List Nat} (h : Lnt w base g cap xs) (vb : Value) (hb : BSl w vb xs) :
    Calls Tryd.prog 35 #[.slice (some ⟨g, 0, none⟩) xs.length cap, vb] w fun e w' => e = .returned (.bool true) ∧ Below w.heap.size w w' :=
  (intact_any h vb hb).mono fun _ _ ⟨he, hk⟩ => ⟨he, hk.below (Nat.le_refl _) (fun _ h => h.elim)⟩
theorem Lnt.below4 {w w' : World} {base g cap : Nat} {xs : List Nat} (h : Lnt w base g cap xs) (hb : Below w.heap.size w w') : Lnt w' base g cap xs := h.kp (Kp.of_below (S := fun _ => False) hb) (fun h => h)
/-- A load of a link in a region that draws and then makes memory. -/
theorem still_loadLk {ops : Array Oper} {o : Oper} {a : Act} {K : Act → Prop} {p : Operand} {w : World} (hgd : Region.wanted o (yielded ops a.tmps) = true) (ho : o.op = .load 27 p) (g : Nat) (cs : Array Value)
    (hp : a.eval p = .pointer (some ⟨g, 0, none⟩)) (hn : cs.size = 4) (hg : w.heap[g]? = some (.cells cs 27 (0, 0)))
    (h : K (a.put o.dst (.agg cs))) : if Region.wanted o (yielded ops a.tmps) = true then o.still Tryd.prog a w K else K (a.put o.dst undef) := by
  rw [if_pos hgd]
  unfold Oper.still
  rw [exec_loadLk ho hp hn hg, Oper.stillUpon_value]
  exact h

theorem wpList_lks4 {ops : Array Oper} {rest : List Oper} {o : Oper} {a : Act} {w : World} {Q : Exit → Act → World → Prop} {x0 x1 x2 x3 : Operand} (hg : o.guard = none) (ho : o.op = .buildSlice 43 4 #[(0, x0), (1, x1), (2, x2), (3, x3)]) (r0 r1 r2 r3 : Lk)
    (h0 : a.eval x0 = lkv r0) (h1 : a.eval x1 = lkv r1) (h2 : a.eval x2 = lkv r2) (h3 : a.eval x3 = lkv r3)
    (h : wpList Tryd.prog ops Q rest (a.put o.dst (.slice (some ⟨w.heap.size, 0, none⟩) 4 4)) (w.alloc (.cells (fcl [r0, r1, r2, r3]).toArray 27))) : wpList Tryd.prog ops Q (o :: rest) a w :=
  wpList_lks hg 4 _ ho [r0, r1, r2, r3] rfl (by decide) (by decide) (by simp [h0, h1, h2, h3]) h
theorem wpList_lks1 {ops : Array Oper} {rest : List Oper} {o : Oper} {a : Act} {w : World} {Q : Exit → Act → World → Prop} {x0 : Operand} (hg : o.guard = none) (ho : o.op = .buildSlice 43 1 #[(0, x0)]) (r0 : Lk)
    (h0 : a.eval x0 = lkv r0)
    (h : wpList Tryd.prog ops Q rest (a.put o.dst (.slice (some ⟨w.heap.size, 0, none⟩) 1 1)) (w.alloc (.cells (fcl [r0]).toArray 27))) : wpList Tryd.prog ops Q (o :: rest) a w :=
  wpList_lks hg 1 _ ho [r0] rfl (by decide) (by decide) (by simp [h0]) h
end
section
open Go.RowKit Go
/-- The places of a value's items, in the form's order. -/
def pls (t : Tv) : List Nat := if t.k = 8 then List.range t.is.length else ordp t.ks (min t.ks.length t.is.length)
/-- A value's links, in the form's order. -/
def lnkf (t : Tv) : List Lk :=
  if t.k = 7 then [t.l]
  else if t.k = 8 ∨ t.k = 9 then (pls t).flatMap fun p => if h : p < t.is.length then lnkf (t.is[p]'h) else []
  else []
termination_by SizeOf.sizeOf t
decreasing_by exact Tv.is_lt (List.getElem_mem _)
def lnx (t : Tv) (p : Nat) : List Lk := if h : p < t.is.length then lnkf (t.is[p]'h) else []
theorem lnx_at {t u : Tv} {p : Nat} (h : t.is[p]? = some u) : lnx t p = lnkf u := by
  have h1 := (List.getElem?_eq_some_iff.1 h).1
  unfold lnx
  rw [dif_pos h1]
  rw [List.getElem?_eq_getElem h1] at h
  injection h with h
  rw [h]
theorem lnkf_7 {t : Tv} (h : t.k = 7) : lnkf t = [t.l] := by rw [lnkf, if_pos h]
theorem lnkf_n {t : Tv} (h7 : t.k ≠ 7) (h : t.k = 8 ∨ t.k = 9) : lnkf t = (pls t).flatMap (lnx t) := by
  rw [lnkf, if_neg h7, if_pos h]
  rfl
theorem lnkf_0 {t : Tv} (h7 : t.k ≠ 7) (h : ¬ (t.k = 8 ∨ t.k = 9)) : lnkf t = [] := by rw [lnkf, if_neg h7, if_neg h]
theorem flat_take {t : Tv} {ps : List Nat} {i p : Nat} (hp : ps[i]? = some p) : (ps.take (i + 1)).flatMap (lnx t) = (ps.take i).flatMap (lnx t) ++ lnx t p := by
  have hi := (List.getElem?_eq_some_iff.1 hp).1
  rw [List.take_succ_eq_append_getElem hi, List.flatMap_append]
  rw [List.getElem?_eq_getElem hi] at hp
  injection hp with hp
  simp [hp]
theorem flat_le {t : Tv} {ps : List Nat} (i : Nat) : ((ps.take i).flatMap (lnx t)).length ≤ (ps.flatMap (lnx t)).length := by
  have h : ps.flatMap (lnx t) = (ps.take i).flatMap (lnx t) ++ (ps.drop i).flatMap (lnx t) := by rw [← List.flatMap_append, List.take_append_drop]
  rw [h, List.length_append]
  omega
/-- What gathered does: links and, behind them, those of a value that lies in an older world. -/
def GatC (t : Tv) : Prop := ∀ (w0 : World) (cs : Array Value), Tin w0 t cs → tmuch t ≤ 100000 → ∀ (w : World) (v : Value) (rs : List Lk), Below w0.heap.size w0 w → w.ownsRow w0.heap.size 27 4 v rs.length (fcl rs) → (rs ++ lnkf t).length ≤ 1000000 →
  Calls Tryd.prog 52 #[v, .agg cs] w fun e w' => ∃ v', e = .returned v' ∧ w'.ownsRow w0.heap.size 27 4 v' (rs ++ lnkf t).length (fcl (rs ++ lnkf t)) ∧ Kp (fun q => v.ownBlock = some q) w w' ∧ (v'.ownBlock = v.ownBlock ∨ ∃ q, v'.ownBlock = some q ∧ w.heap.size ≤ q)
/-- What gathered has in hand within its loop; g: its argument's block. -/
structure Gth (w wx : World) (g : Nat) (cs : Array Value) (B : Nat) (v vx : Value) (rs : List Lk) : Prop where
  o : wx.ownsRow B 27 4 vx rs.length (fcl rs)
  k : Kp (fun q => v.ownBlock = some q) w wx
  r : wx.heap[g]? = some (.cells cs 30 (0, 0))
  q : vx.ownBlock = v.ownBlock ∨ ∃ q, vx.ownBlock = some q ∧ w.heap.size ≤ q
theorem Gth.below {w wx : World} {g : Nat} {cs : Array Value} {B : Nat} {v vx : Value} {rs : List Lk} {w0 : World} (h : Gth w wx g cs B v vx rs) (h0 : Below w0.heap.size w0 w) (hv : ∀ q, v.ownBlock = some q → w0.heap.size ≤ q) : Below w0.heap.size w0 wx := h0.trans (h.k.below h0.size hv)
theorem Gth.step {w wx wy : World} {g : Nat} {cs : Array Value} {B : Nat} {v vx vy : Value} {rs rs' : List Lk} (h : Gth w wx g cs B v vx rs) (hg : g < w.heap.size) (hv : ∀ q, v.ownBlock = some q → q ≠ g) (ho : wy.ownsRow B 27 4 vy rs'.length (fcl rs')) (hk : Kp (fun q => vx.ownBlock = some q) wx wy) (hq : vy.ownBlock = vx.ownBlock ∨ ∃ q, vy.ownBlock = some q ∧ wx.heap.size ≤ q) : Gth w wy g cs B v vy rs' := by
  have hg2 : ¬ vx.ownBlock = some g := fun e => by
    rcases h.q with h1 | ⟨q, h1, h2⟩
    · rw [h1] at e
      exact hv _ e rfl
    · rw [h1] at e
      injection e with e
      omega
  have hz := h.k.size
  refine ⟨ho, h.k.trans hk (fun k hkk e => ?_), (hk.block _ (blk_lt h.r) hg2).trans h.r, ?_⟩
  · rcases h.q with h1 | ⟨q, h1, h2⟩
    · rw [← h1]
      exact e
    · rw [h1] at e
      injection e with e
      omega
  · rcases hq with h1 | ⟨q, h1, h2⟩
    · rw [h1]
      exact h.q
    · exact .inr ⟨q, h1, by omega⟩
end
section
open Go.RowKit Go
theorem append_lkq {ops : Array Oper} {rest : List Oper} {o : Oper} {a : Act} {Q : Exit → Act → World → Prop} {w : World} (hgd : o.guard = none) (s x : Operand)
    (ho : o.op = .call { callee := .builtin .append, args := #[s, x], argTypes := #[43, 43] }) (B : Nat) (v : Value) (n : Nat) (rs : List Lk) (hs : a.eval s = v) (hown : w.ownsRow B 27 4 v n (fcl rs))
    (g : Nat) (l : Lk) (hx : a.eval x = .slice (some ⟨g, 0, none⟩) 1 1) (hg : w.heap[g]? = some (.cells (fcl [l]).toArray 27 (0, 0))) (hlen : n < 1099511627776) (hbase : B ≤ w.heap.size)
    (h : ∀ v' w', w'.ownsRow B 27 4 v' (n + 1) (fcl (rs ++ [l])) → w.grownBy w' v.ownBlock → (v'.ownBlock = v.ownBlock ∨ v'.ownBlock = some w.heap.size) → wpList Tryd.prog ops Q rest (a.put o.dst v') w') : wpList Tryd.prog ops Q (o :: rest) a w := by
  obtain ⟨i, hi, hz0, hz1, hz2⟩ := infoLk_ex
  refine wpList_append_own_at w hgd s x 43 ho B 27 i _ 4 40 Tryd.underlying43 hi hz0 hz1 hz2 rfl (by decide) v n (fcl rs) hs hown ⟨g, 0, none⟩ 1 1 (fcl [l]) hx (by rw [fcl_len]; rfl) (fun j u hu => ?_) (fcl_one [l]) (by unfold maxLen; omega) (by omega) hbase fun v' w' h1 h2 _ h4 => h v' w' (by rw [fcl_app]; exact h1) h2 h4
  have hadd : (⟨g, 0, none⟩ : Addr).add j = ⟨g, j, none⟩ := by unfold Addr.add; split <;> simp_all
  rw [hadd]
  exact blk_cell hg (by rw [List.getElem?_toArray]; exact hu)
set_option maxRecDepth 1000000 in
set_option maxHeartbeats 1000000 in
theorem gathered_step (t : Tv) (ih : ∀ u ∈ t.is, GatC u) : GatC t := by
  intro w0 cs ht hm w v rs hb0 hown hlen
  have HIH := hide ih
  have HT0 := hide ht
  have HSZ := hide ht.size13
  have hme := tmuch_eq t
  have HML : Hid (tmuchL t.is ≤ 100000 ∧ t.ks.length ≤ 100000) := ⟨by omega, by omega⟩
  have HB0 := hide hb0
  have HO0 := hide hown
  have HLN := hide hlen
  have HVB : Hid (∀ q, v.ownBlock = some q → w0.heap.size ≤ q ∧ q < w.heap.size) := fun q hq => hown.lt q hq
  clear ih hm hme hb0 hlen
  obtain ⟨ax, cx, hvx⟩ : ∃ ax cx, v = .slice ax rs.length cx := own_slice hown
  subst hvx
  clear hown
  obtain ⟨vy, vk, vi, rfl, hy, hk, hv, hb⟩ := ht.parts
  have HLB := hide hb.l
  obtain ⟨⟨ai, ci, rfl, _, hform⟩, hmax⟩ := hv
  have HF := hide hform
  have HC0 : Hid ((vcs t vy vk (.slice ai t.is.length ci))[0]? = some (.int .i64 t.k)) := rfl
  have HC12 : Hid ((vcs t vy vk (.slice ai t.is.length ci))[12]? = some (.slice ai t.is.length ci)) := rfl
  have HLK : Hid (∀ (wx : World) (g : Nat), wx.heap[g]? = some (.cells (vcs t vy vk (.slice ai t.is.length ci)) 30 (0, 0)) → ∀ j x, (lcs t.l)[j]? = some x → wx.cell? ⟨g, 7 + j, none⟩ = some x) := fun wx g h j x hx => lk_in h hx
  generalize vcs t vy vk (.slice ai t.is.length ci) = cs at *
  clear ht hy hk hb hform
  have HG0 : Hid (Gth w (w.alloc (.cells cs 30)) w.heap.size cs w0.heap.size (.slice ax rs.length cx) (.slice ax rs.length cx) rs) := ⟨HO0.out.alloc _, Kp.of_below (below_alloc4 w _), heap_alloc_new w _, .inl rfl⟩
  have q0 := blk_cell HG0.out.r HC0.out
  by_cases h7 : t.k = 7
  · as_aux_lemma =>
    have g7 : (t.k == 7) = true := beq_iff_eq.2 h7
    have HE : Hid (lnkf t = [t.l]) := lnkf_7 h7
    have HLA := hide (HLK.out _ _ HG0.out.r)
    have HL1 := hide (heap_alloc_new (w.alloc (.cells cs 30)) (.cells (fcl [t.l]).toArray 27))
    have HLE : Hid (rs.length ≤ 1000000) := by have := HLN.out; rw [List.length_append] at this; show _ ≤ _; omega
    have HBZ : Hid (w0.heap.size ≤ w.heap.size) := HB0.out.size
    clear h7
    go_enter Tryd.func52, Tryd.ntmps52
    go_wp2_with (first
      | (refine wpList_lkAt rfl rfl w.heap.size 7 t.l rfl HLA.out ?_)
      | (refine wpList_lks1 rfl rfl t.l rfl ?_)
      | (at_builtin; refine append_lkq rfl _ _ rfl w0.heap.size _ rs.length rs rfl (HG0.out.o.alloc _) (w.alloc (.cells cs 30)).heap.size t.l rfl HL1.out ?b1 ?b2 ?_))
    case b1 => have := HLE.out; omega
    case b2 => have := HBZ.out; simp; omega
    intro v2 w2 ho2 hg2 hv2
    have hk2 : Kp (fun q => (Value.slice ax rs.length cx).ownBlock = some q) w w2 := ((Kp.of_below (below_alloc4 w _)).trans (Kp.of_below (below_alloc4 (w.alloc (.cells cs 30)) _)) (fun _ _ h => h)).grown hg2 (fun _ _ h => h)
    have HO2 : Hid (w2.ownsRow w0.heap.size 27 4 v2 (rs ++ lnkf t).length (fcl (rs ++ lnkf t))) := by
      show World.ownsRow _ _ _ _ _ _ _
      rw [HE.out, List.length_append]
      exact ho2
    have HK2 := hide hk2
    have HQ2 : Hid (v2.ownBlock = (Value.slice ax rs.length cx).ownBlock ∨ ∃ q, v2.ownBlock = some q ∧ w.heap.size ≤ q) := hv2.imp id (fun h => ⟨_, h, by first | omega | (simp; omega) | simp⟩)
    clear ho2 hg2 hk2 hv2
    go_wp2_with fail
    go_ret
    exact ⟨_, rfl, HO2.out, HK2.out, HQ2.out⟩
  have g7 : (t.k == 7) = false := beq_eq_false_iff_ne.2 h7
  by_cases h8 : t.k = 8
  · have g8 : (t.k == 8) = true := beq_iff_eq.2 h8
    have HE : Hid (lnkf t = (List.range t.is.length).flatMap (lnx t)) := by
      show _ = _
      rw [lnkf_n h7 (.inl h8)]
      unfold pls
      rw [if_pos h8]
    have q12 := blk_cell HG0.out.r HC12.out
    have HB1 : Hid (Below w0.heap.size w0 (w.alloc (.cells cs 30))) := HB0.out.trans ((below_alloc4 w _).mono HB0.out.size)
    have HG1 : Hid (Gth (w.alloc (.cells cs 30)) (w.alloc (.cells cs 30)) w.heap.size cs w0.heap.size (.slice ax rs.length cx) (.slice ax rs.length cx) rs) := ⟨HG0.out.o, Kp.refl _ _, HG0.out.r, .inl rfl⟩
    have HK1 : Hid (Kp (fun q => (Value.slice ax rs.length cx).ownBlock = some q) w (w.alloc (.cells cs 30)) ∧ (w.alloc (.cells cs 30)).heap.size = w.heap.size + 1) := ⟨Kp.of_below (below_alloc4 w _), by simp⟩
    clear h7 h8 HG0
    go_enter Tryd.func52, Tryd.ntmps52
    go_wp2_with fail
    clear q0 q12
    generalize w.alloc (.cells cs 30) = w1 at *
    go_loopw [0, 23] (fun vv ii wx => ∃ i : Nat, i ≤ t.is.length ∧ ii = .int .i64 (i : Nat) ∧ Hid (Gth w1 wx w.heap.size cs w0.heap.size (.slice ax rs.length cx) vv (rs ++ ((List.range t.is.length).take i).flatMap (lnx t)))) (fun _ ii _ => t.is.length - (intOf ii).toNat)
    case atStart => exact ⟨0, by omega, rfl, by simpa using HG1⟩
    case round =>
      obtain ⟨i, hi, rfl, HG⟩ := hrel
      clear HG1
      obtain ⟨bx, dx, hux⟩ := own_slice HG.out.o
      subst hux
      have HBW := hide (HG.out.below HB1.out (fun q hq => (HVB.out q hq).1))
      by_cases hlt : i < t.is.length
      · as_aux_lemma =>
        have g1 : (i : Int) < (t.is.length : Int) := by omega
        obtain ⟨u, hu⟩ : ∃ u, t.is[i]? = some u := ⟨t.is[i], List.getElem?_eq_getElem hlt⟩
        obtain ⟨b, off, rfl, hcells⟩ := HF.out.resolve_left (fun h => by rw [h] at hlt; simp at hlt)
        obtain ⟨cu, hcu, hcc⟩ := hcells i u hu
        have HCC : Hid (∀ j x, cu[j]? = some x → wr.cell? ⟨b, off + i * 13 + j, none⟩ = some x) := fun j x hx => keep_below HBW.out _ _ (hcc j x hx)
        have hmem := List.mem_of_getElem? hu
        have HZ1 := hide hcu.size13
        have HA1 := hide hcu.all1
        have HIT := hide (itm_mk wr cu)
        have HGN := hide (heap_alloc_new wr (.cells zv 30))
        have HIN : Hid ((Tryd.prog.info? 30).map (·.size) = some cu.size) := by show _ = _; rw [HZ1.out]; exact infoV
        have HZV : Hid (zv.size = cu.size) := by show _ = _; rw [HZ1.out]; rfl
        have HCX := hide HIT.out.cells
        have hfl : ((List.range t.is.length).take (i + 1)).flatMap (lnx t) = ((List.range t.is.length).take i).flatMap (lnx t) ++ lnkf u := by rw [flat_take (List.getElem?_range hlt), lnx_at hu]
        have hle := flat_le (t := t) (ps := List.range t.is.length) (i + 1)
        have HGI : Hid (Gth w1 ((wr.alloc (.cells zv 30)).setRow wr.heap.size cu) w.heap.size cs w0.heap.size (.slice ax rs.length cx) (.slice bx (rs ++ ((List.range t.is.length).take i).flatMap (lnx t)).length dx) (rs ++ ((List.range t.is.length).take i).flatMap (lnx t))) := HG.out.step (by have := HK1.out.2; omega) (fun q hq e => by have := HVB.out q hq; omega) ((Kp.of_below (S := fun _ => False) HIT.out.b).owns HG.out.o (fun _ _ h => h)) (Kp.of_below HIT.out.b) (.inl rfl)
        have HCA := hide (HIH.out u hmem w0 cu hcu (Nat.le_trans (tmuchL_mem hmem) HML.out.1) _ _ _ (HBW.out.trans (HIT.out.b.mono HBW.out.size)) HGI.out.o (by
          have h1 := HLN.out
          rw [HE.out, List.length_append] at h1
          rw [List.append_assoc, ← hfl, List.length_append]
          omega))
        rw [List.append_assoc, ← hfl] at HCA
        clear hu hcells hcu hcc hmem hfl hle
        generalize hnn : (rs ++ ((List.range t.is.length).take i).flatMap (lnx t)).length = nn at *
        clear hnn
        go_wp2_with (first
          | (refine wpList_valAt rfl rfl b (off + i * 13) cu rfl HZ1.out HCC.out ?_)
          | (refine wpList_storeRow rfl rfl wr.heap.size zv cu 30 rfl rfl HGN.out HIN.out HZV.out HA1.out ?_)
          | (refine wpList_valAt rfl rfl wr.heap.size 0 cu rfl HZ1.out HCX.out ?_))
        refine HCA.out.mono ?_
        rintro e w5 ⟨v5, rfl, ho5, hk5, hq5⟩
        have HG5 := hide (HGI.out.step (by have := HK1.out.2; omega) (fun q hq e => by have := HVB.out q hq; omega) ho5 hk5 hq5)
        clear ho5 hk5 hq5 HCA HGI HCX HIT HGN HCC
        go_wp2_with fail
        go_roundw
        case rel => exact ⟨i + 1, by omega, by go_num, HG5⟩
        case measure => simp [intOf]; omega
      · as_aux_lemma =>
        have g1 : ¬ (i : Int) < (t.is.length : Int) := by omega
        have hL : i = t.is.length := by omega
        have HGE : Hid (Gth w1 wr w.heap.size cs w0.heap.size (.slice ax rs.length cx) (.slice bx (rs ++ ((List.range t.is.length).take i).flatMap (lnx t)).length dx) (rs ++ lnkf t)) := by
          have h := HG.out
          rw [HE.out]
          have e : (List.range t.is.length).take i = (List.range t.is.length) := List.take_of_length_le (by simp; omega)
          rw [e] at h ⊢
          exact h
        clear HG
        generalize (rs ++ ((List.range t.is.length).take i).flatMap (lnx t)).length = nn at *
        go_wp2_with fail
        go_ret
        exact ⟨_, rfl, by first | exact HGE.out.o | (have h := HGE.out.o; rw [List.length_append] at h; exact h), HK1.out.1.trans HGE.out.k (fun _ _ h => h), HGE.out.q.imp id (fun ⟨q, h1, h2⟩ => ⟨q, h1, by have := HK1.out.2; omega⟩)⟩
  have g8 : (t.k == 8) = false := beq_eq_false_iff_ne.2 h8
  by_cases h9 : t.k = 9
  · have g9 : (t.k == 9) = true := beq_iff_eq.2 h9
    have HE0 : Hid (lnkf t = (ordp t.ks (min t.ks.length t.is.length)).flatMap (lnx t)) := by
      show _ = _
      rw [lnkf_n h7 (.inr h9)]
      unfold pls
      rw [if_neg h8]
    have HV0 : Hid (∀ j u, cs[j]? = some u → (w.alloc (.cells cs 30)).cell? ⟨w.heap.size, 0 + j, none⟩ = some u) := fun j u hu => by rw [Nat.zero_add]; exact blk_cell HG0.out.r hu
    clear h7 h8 h9
    go_enter Tryd.func52, Tryd.ntmps52
    go_wp2_with (refine wpList_valAt rfl rfl w.heap.size 0 cs rfl HSZ.out HV0.out ?_)
    refine (order6_any t _ cs ((HT0.out.move (keep_below HB0.out)).move (keep_below (below_alloc4 w _))) (by have := HML.out; omega)).mono ?_
    rintro e w2 ⟨vp, ps, rfl, hpo, hsp, hop, hb2⟩
    have HE : Hid (lnkf t = ps.flatMap (lnx t)) := by show _ = _; rw [HE0.out, hpo]
    clear hpo HE0
    have HSP := hide hsp
    have hpl : ps.length ≤ 100000 := by have := hsp.len; have := HML.out; omega
    have hi2 := ISl.own hop rfl (by omega)
    have e1 : (w.alloc (.cells cs 30)).heap.size = w.heap.size + 1 := by simp
    have HK1 : Hid (Kp (fun q => (Value.slice ax rs.length cx).ownBlock = some q) w w2 ∧ w.heap.size < w2.heap.size) := ⟨(Kp.of_below (below_alloc4 w _)).trans (Kp.of_below hb2) (fun _ _ h => h), by have := hb2.size; omega⟩
    have HB1 : Hid (Below w0.heap.size w0 w2) := (HB0.out.trans ((below_alloc4 w _).mono HB0.out.size)).trans (hb2.mono (by have := HB0.out.size; omega))
    have hpg : ∀ q, vp.ownBlock = some q → w.heap.size < q := fun q hq => by
      have := hop.lt q hq
      omega
    obtain ⟨⟨pa, pc, rfl, _, hpf⟩, _⟩ := hi2
    have HPG : Hid (∀ q, (Value.slice pa ps.length pc).ownBlock = some q → w.heap.size < q) := hpg
    have HPF := hide hpf
    have HG1 : Hid (Gth w2 w2 w.heap.size cs w0.heap.size (.slice ax rs.length cx) (.slice ax rs.length cx) rs) := ⟨(Kp.of_below (S := fun _ => False) hb2).owns HG0.out.o (fun _ _ h => h), Kp.refl _ _, (hb2.block _ (by omega)).trans HG0.out.r, .inl rfl⟩
    clear hsp hop hb2 hpf hpg e1 HG0 HV0 q0
    go_wp2_with fail
    go_loopw [0, 36] (fun vv ii wx => ∃ i : Nat, i ≤ ps.length ∧ ii = .int .i64 (i : Nat) ∧ Hid (Gth w2 wx w.heap.size cs w0.heap.size (.slice ax rs.length cx) vv (rs ++ (ps.take i).flatMap (lnx t)))) (fun _ ii _ => ps.length - (intOf ii).toNat)
    case atStart => exact ⟨0, by omega, rfl, by simpa using HG1⟩
    case round =>
      obtain ⟨i, hi, rfl, HG⟩ := hrel
      clear HG1
      obtain ⟨bx, dx, hux⟩ := own_slice HG.out.o
      subst hux
      have HBW := hide (HG.out.below HB1.out (fun q hq => (HVB.out q hq).1))
      by_cases hlt : i < ps.length
      · as_aux_lemma =>
        have g1 : (i : Int) < (ps.length : Int) := by omega
        obtain ⟨p, hp⟩ : ∃ p, ps[i]? = some p := ⟨ps[i], List.getElem?_eq_getElem hlt⟩
        have hpl := HSP.out.lt p (List.mem_of_getElem? hp)
        have hp2 : p < t.is.length := by omega
        obtain ⟨u, hu⟩ : ∃ u, t.is[p]? = some u := ⟨t.is[p], List.getElem?_eq_getElem hp2⟩
        obtain ⟨b, off, rfl, hcells⟩ := HF.out.resolve_left (fun h => by rw [h] at hp2; simp at hp2)
        obtain ⟨cu, hcu, hcc⟩ := hcells p u hu
        obtain ⟨b1, off1, rfl, hc1⟩ := HPF.out.resolve_left (fun h => by rw [h] at hlt; simp at hlt)
        have HCC : Hid (∀ j x, cu[j]? = some x → wr.cell? ⟨b, off + p * 13 + j, none⟩ = some x) := fun j x hx => keep_below HBW.out _ _ (hcc j x hx)
        have hmem := List.mem_of_getElem? hu
        have HZ1 := hide hcu.size13
        have c1 : wr.cell? ⟨b1, off1 + i, none⟩ = some (.int .i64 (p : Nat)) := HG.out.k.cell (hc1 i p hp) (fun e => by have h1 := HVB.out b1 e; have h2 := HPG.out b1 rfl; omega)
        have c12 : wr.cell? ⟨w.heap.size, 12, none⟩ = some (.slice (some ⟨b, off, none⟩) t.is.length ci) := blk_cell HG.out.r HC12.out
        have g2 : (p : Int) < (t.is.length : Int) := by omega
        have hfl : (ps.take (i + 1)).flatMap (lnx t) = (ps.take i).flatMap (lnx t) ++ lnkf u := by rw [flat_take hp, lnx_at hu]
        have hle := flat_le (t := t) (ps := ps) (i + 1)
        have HCA := hide (HIH.out u hmem w0 cu hcu (Nat.le_trans (tmuchL_mem hmem) HML.out.1) wr _ _ HBW.out HG.out.o (by
          have h1 := HLN.out
          rw [HE.out, List.length_append] at h1
          rw [List.append_assoc, ← hfl, List.length_append]
          omega))
        rw [List.append_assoc, ← hfl] at HCA
        have HGI := hide HG.out
        clear hu hcells hcu hcc hmem hfl hle hc1 hp HG
        generalize hnn : (rs ++ (ps.take i).flatMap (lnx t)).length = nn at *
        clear hnn
        go_wp2_with (refine wpList_valAt rfl rfl b (off + p * 13) cu rfl HZ1.out HCC.out ?_)
        refine HCA.out.mono ?_
        rintro e w5 ⟨v5, rfl, ho5, hk5, hq5⟩
        have HG5 := hide (HGI.out.step (by have := HK1.out.2; omega) (fun q hq e => by have := HVB.out q hq; omega) ho5 hk5 hq5)
        clear ho5 hk5 hq5 HCA HGI HCC c1 c12
        go_wp2_with fail
        go_roundw
        case rel => exact ⟨i + 1, by omega, by go_num, HG5⟩
        case measure => simp [intOf]; omega
      · as_aux_lemma =>
        have g1 : ¬ (i : Int) < (ps.length : Int) := by omega
        have hL : i = ps.length := by omega
        have HGE : Hid (Gth w2 wr w.heap.size cs w0.heap.size (.slice ax rs.length cx) (.slice bx (rs ++ (ps.take i).flatMap (lnx t)).length dx) (rs ++ lnkf t)) := by
          have h := HG.out
          rw [HE.out]
          have e : ps.take i = ps := List.take_of_length_le (by omega)
          rw [e] at h ⊢
          exact h
        clear HG
        generalize (rs ++ (ps.take i).flatMap (lnx t)).length = nn at *
        go_wp2_with fail
        go_ret
        exact ⟨_, rfl, by first | exact HGE.out.o | (have h := HGE.out.o; rw [List.length_append] at h; exact h), HK1.out.1.trans HGE.out.k (fun _ _ h => h), HGE.out.q.imp id (fun ⟨q, h1, h2⟩ => ⟨q, h1, by have := HK1.out.2; omega⟩)⟩
  · as_aux_lemma =>
    have g9 : (t.k == 9) = false := beq_eq_false_iff_ne.2 h9
    have HE : Hid (lnkf t = []) := lnkf_0 h7 (fun h => h.elim h8 h9)
    clear h7 h8 h9
    go_enter Tryd.func52, Tryd.ntmps52
    go_wp2_with fail
    go_ret
    exact ⟨_, rfl, by rw [HE.out, List.append_nil]; exact HG0.out.o, HG0.out.k, .inl rfl⟩
theorem gathered_any (t : Tv) : GatC t := by
  have h : ∀ N, ∀ t : Tv, SizeOf.sizeOf t = N → GatC t := by
    intro N
    induction N using Nat.strongRecOn with
    | _ N ih => exact fun t hN => gathered_step t (fun u hu => ih _ (by rw [← hN]; exact Tv.is_lt hu) u rfl)
  exact h _ t rfl
end
section
open Go.RowKit Go
theorem sum_range (is : List Tv) (g : Nat → Nat) (hg : ∀ p u, is[p]? = some u → g p ≤ tmuch u) : ∀ n, n ≤ is.length → ((List.range n).map g).sum ≤ tmuchL (is.take n)
  | 0, _ => by simp
  | n + 1, h => by
    have ih := sum_range is g hg n (by omega)
    have hu := List.getElem?_eq_getElem (show n < is.length by omega)
    have h1 := hg n _ hu
    rw [List.range_succ, List.map_append, List.sum_append, takeT _ _ _ hu, tmuchL_app]
    have e : tmuchL [is[n]] = tmuch is[n] := by rw [tmuchL, tmuchL]; omega
    rw [e]
    simp
    omega
theorem tmuchL_take (is : List Tv) (n : Nat) : tmuchL (is.take n) ≤ tmuchL is := by
  have h : tmuchL is = tmuchL (is.take n) + tmuchL (is.drop n) := by rw [← tmuchL_app, List.take_append_drop]
  omega
theorem pls_perm (t : Tv) : ∃ n, n ≤ t.is.length ∧ (pls t).Perm (List.range n) := by
  unfold pls
  by_cases h : t.k = 8
  · rw [if_pos h]
    exact ⟨_, Nat.le_refl _, List.Perm.refl _⟩
  · rw [if_neg h]
    exact ⟨_, by omega, (ordp_srp t.ks (min t.ks.length t.is.length)).p⟩
/-- No more links than parts. -/
theorem lnkf_le (t : Tv) : (lnkf t).length ≤ tmuch t := by
  have h : ∀ N, ∀ t : Tv, SizeOf.sizeOf t = N → (lnkf t).length ≤ tmuch t := by
    intro N
    induction N using Nat.strongRecOn with
    | _ N ih =>
      intro t hN
      have hme := tmuch_eq t
      by_cases h7 : t.k = 7
      · rw [lnkf_7 h7]
        simp
        omega
      · by_cases h8 : t.k = 8 ∨ t.k = 9
        · rw [lnkf_n h7 h8]
          obtain ⟨n, hn, hp⟩ := pls_perm t
          have e : ((pls t).flatMap (lnx t)).length = ((pls t).map (fun p => (lnx t p).length)).sum := by rw [List.length_flatMap]
          have e2 : ((pls t).map (fun p => (lnx t p).length)).sum = ((List.range n).map (fun p => (lnx t p).length)).sum := (hp.map _).sum_nat
          rw [e, e2]
          have h1 := sum_range t.is (fun p => (lnx t p).length) (fun p u hu => by
            rw [lnx_at hu]
            exact ih _ (by rw [← hN]; exact Tv.is_lt (List.mem_of_getElem? hu)) u rfl) n hn
          have h2 := tmuchL_take t.is n
          omega
        · rw [lnkf_0 h7 h8]
          simp
  exact h _ t rfl
set_option maxRecDepth 1000000 in
theorem links6_any (t : Tv) (w : World) (cs : Array Value) (ht : Tin w t cs) (hm : tmuch t ≤ 100000) : Calls Tryd.prog 24 #[.agg cs] w fun e w' => ∃ v', e = .returned v' ∧ w'.ownsRow w.heap.size 27 4 v' (lnkf t).length (fcl (lnkf t)) ∧ Below w.heap.size w w' := by
  have HTN := hide ht
  have HSZ := hide ht.size13
  have HQ0 : Hid (Aln w (w.alloc (.cells cs 30)) cs) := box_mk0 w _
  have HV0 := hide HQ0.out.va
  have HLE := hide (Nat.le_trans (lnkf_le t) hm)
  have HMM := hide hm
  clear ht hm
  have HCA := hide (gathered_any t w cs HTN.out HMM.out (w.alloc (.cells cs 30)) (.slice none 0 0) [] HQ0.out.1 (World.ownsRow_nil _ _ _ _) (by have := HLE.out; rw [List.nil_append]; omega))
  go_enter Tryd.func24, Tryd.ntmps24
  go_wp2_with (refine wpList_valAt rfl rfl w.heap.size 0 cs rfl HSZ.out HV0.out ?_)
  refine HCA.out.mono ?_
  rintro e w1 ⟨v1, rfl, ho, hk, _⟩
  rw [List.nil_append] at ho
  have HO := hide ho
  have HB1 : Hid (Below w.heap.size w w1) := HQ0.out.1.trans ((hk.below (Nat.le_refl _) (fun q h => by cases h)).mono HQ0.out.1.size)
  clear ho hk HCA HQ0 HV0
  go_wp2_with fail
  go_ret
  exact ⟨_, rfl, HO.out, HB1.out⟩
end
section
open Go.RowKit Go
/-- Where a key stands first, or -1. -/
def Fnd (ks : List ByteArray) (key : ByteArray) (r : Int) : Prop := (r = -1 ∧ key ∉ ks) ∨ ∃ i : Nat, r = i ∧ ks[i]? = some key ∧ ∀ j s, j < i → ks[j]? = some s → s ≠ key
set_option maxRecDepth 1000000 in
theorem index6_any (w : World) (v : Value) (ks : List ByteArray) (key : ByteArray) (hv : SSl w v ks) : Calls Tryd.prog 59 #[v, .string key] w fun e w' => ∃ r : Int, e = .returned (.int .i64 r) ∧ Fnd ks key r ∧ Below w.heap.size w w' := by
  obtain ⟨⟨a, cap, rfl, _, hc⟩, hmax, _⟩ := hv
  have HC := hide hc
  clear hc
  go_enter Tryd.func59, Tryd.ntmps59
  go_wp2_with fail
  go_loopw [8] (fun ii wx => ∃ i : Nat, i ≤ ks.length ∧ ii = .int .i64 (i : Nat) ∧ Hid (∀ j s, j < i → ks[j]? = some s → s ≠ key) ∧ Hid (Below w.heap.size w wx)) (fun ii _ => ks.length - (intOf ii).toNat)
  case atStart => exact ⟨0, by omega, rfl, fun j s hj => absurd hj (by omega), Below.refl _ _⟩
  case round =>
    obtain ⟨i, hi, rfl, HI, HBw⟩ := hrel
    by_cases hlt : i < ks.length
    · have g1 : (i : Int) < (ks.length : Int) := by omega
      obtain ⟨s, hs⟩ : ∃ s, ks[i]? = some s := ⟨ks[i], List.getElem?_eq_getElem hlt⟩
      obtain ⟨b, off, rfl, hcc⟩ := HC.out.resolve_left (fun h => by rw [h] at hlt; simp at hlt)
      have c1 := keep_below HBw.out _ _ (hcc i s hs)
      clear hcc HC
      by_cases he : key = s
      · as_aux_lemma =>
        have hne : (key.toList == s.toList) = true := by rw [he]; simp
        have HA : Hid (Fnd ks key i) := Or.inr ⟨i, rfl, by rw [hs, he], HI.out⟩
        clear he hs HI
        go_wp2_with fail
        go_ret
        exact ⟨_, rfl, HA.out, HBw.out⟩
      · as_aux_lemma =>
        have hne : (key.toList == s.toList) = false := by have h := str_bne key s; simp [he] at h; exact beq_eq_false_iff_ne.2 h
        have HI2 : Hid (∀ j s, j < i + 1 → ks[j]? = some s → s ≠ key) := fun j s' hj h1 => by
          by_cases hji : j = i
          · subst hji
            rw [hs] at h1
            injection h1 with h1
            rw [← h1]
            exact fun e => he e.symm
          · exact HI.out j s' (by omega) h1
        clear he hs HI
        go_wp2_with fail
        go_roundw
        case rel => exact ⟨i + 1, by omega, by go_num, HI2, HBw⟩
        case measure => simp [intOf]; omega
    · as_aux_lemma =>
      have g1 : ¬ (i : Int) < (ks.length : Int) := by omega
      have HA : Hid (Fnd ks key (-1)) := Or.inl ⟨rfl, fun h => by
        obtain ⟨j, hj⟩ := List.mem_iff_getElem?.1 h
        have := (List.getElem?_eq_some_iff.1 hj).1
        exact HI.out j _ (by omega) hj rfl⟩
      go_wp2_with fail
      go_ret
      exact ⟨_, rfl, HA.out, HBw.out⟩
theorem end_fd {wx : World} {R : Nat} {c : Array Value} {x : Value} {tmps : Array Value} (hn : c.size = 13) (hr : wx.heap[R]? = some (.cells c 30 (0, 0))) (hp : tmps.getD 4 undef = .pointer (some ⟨R, 0, none⟩)) (hx : tmps.getD 5 undef = x) : (results Tryd.f29 tmps).run Tryd.prog wx = .ok (.tuple #[.agg c, x]) wx :=
  end_c2 (fn := Tryd.f29) (p := 4) (q := 5) rfl Tryd.underlying30 infoV hn hr hp hx
/-- What Find answers. -/
def Fdd (t : Tv) (key : ByteArray) (lo : Nat) (e : Ending) (w' : World) : Prop :=
  ∃ r : Int, Fnd t.ks key r ∧ ((∃ (i : Nat) (u : Tv) (c : Array Value), r = i ∧ t.k = 9 ∧ t.is[i]? = some u ∧ e = .returned (.tuple #[.agg c, .bool true]) ∧ Ntv w' lo w'.heap.size u c) ∨ ((t.k ≠ 9 ∨ r < 0 ∨ (t.is.length : Int) ≤ r) ∧ e = .returned (.tuple #[.agg zv, .bool false])))
set_option maxRecDepth 1000000 in
set_option maxHeartbeats 1000000 in
theorem find6_any (t : Tv) (key : ByteArray) (w : World) (cs : Array Value) (ht : Tin w t cs) (hm : tmuch t ≤ 100000) : Calls Tryd.prog 29 #[.agg cs, .string key] w fun e w' => Fdd t key w.heap.size e w' ∧ Below w.heap.size w w' := by
  have hlen : t.is.length ≤ 100000 := by have := tmuch_eq t; have := tmuchL_len t.is; omega
  have HML : Hid (tmuchL t.is ≤ 100000) := by have := tmuch_eq t; show _ ≤ _; omega
  obtain ⟨vy, vk, vi, rfl, hy, hk, hv, hb⟩ := ht.parts
  have HD := hide hb.l.d
  have HK := hide hk
  obtain ⟨⟨a, cap, rfl, _, hform⟩, hmax⟩ := hv
  have HF := hide hform
  have HC0 : Hid ((vcs t vy vk (.slice a t.is.length cap))[0]? = some (.int .i64 t.k)) := rfl
  have HC11 : Hid ((vcs t vy vk (.slice a t.is.length cap))[11]? = some vk) := rfl
  have HC12 : Hid ((vcs t vy vk (.slice a t.is.length cap))[12]? = some (.slice a t.is.length cap)) := rfl
  generalize vcs t vy vk (.slice a t.is.length cap) = cs at *
  clear ht hm hy hk hb hform
  have HW0 := hide (Rm.start w cs)
  have q11 := blk_cell (j := 11) HW0.out.p HC11.out
  unfold zv at HW0 q11
  go_enter Tryd.func29, Tryd.ntmps29
  go_wp2_with fail
  generalize (w.alloc (.cells cs 30)).alloc (.cells #[.int .i64 0, .bool false, .bool false, .int .u64 0, .int .u64 0, .string ⟨#[]⟩, .slice none 0 0, .int .i64 0, .int .u64 0, .int .u64 0, .string ⟨#[]⟩, .slice none 0 0, .slice none 0 0] 30) = w2 at *
  refine (index6_any w2 vk t.ks key (HK.out.move (keep_below HW0.out.b))).mono ?_
  rintro e w3 ⟨r, rfl, hr, hb3⟩
  have HW3 := hide (HW0.out.next hb3)
  have HFD := hide hr
  clear q11 HW0 hb3
  have q0 := blk_cell (j := 0) HW3.out.p HC0.out
  have q12 := blk_cell (j := 12) HW3.out.p HC12.out
  have HR4 := hide HW3.out.r
  have HIZ : Hid ((Tryd.prog.info? 30).map (·.size) = some zv.size) := infoV
  have HAZ : Hid (zv.all (·.oneCell') = true) := by show _ = _; simp [zv, Value.oneCell']
  by_cases hk9 : t.k = 9
  · have g0 : (t.k != 9) = false := by simp [hk9]
    rcases hr with ⟨hr1, hr2⟩ | ⟨i, hr1, hr2, hr3⟩
    · as_aux_lemma =>
      have HN : Hid (∀ w', Fdd t key w.heap.size (.returned (.tuple #[.agg zv, .bool false])) w') := fun w' => ⟨r, HFD.out, Or.inr ⟨Or.inr (Or.inl (by omega)), rfl⟩⟩
      have g1 : r < 0 := by omega
      clear hr1
      clear hr2
      go_wp2_with (refine wpList_storeRow rfl rfl (w.heap.size + 1) zv zv 30 rfl rfl HR4.out HIZ.out rfl HAZ.out ?_)
      have hkr := row_kp w3 (w.heap.size + 1) zv
      exact bodyPost_ret (end_fd rfl (row_same HR4.out) rfl rfl) rfl ⟨HN.out _, HW3.out.b.trans (hkr.below HW3.out.b.size (fun q e => by omega))⟩
    · by_cases hlt : i < t.is.length
      · as_aux_lemma =>
        subst hr1
        have g1 : ¬ (i : Int) < 0 := by omega
        have g2 : ¬ (t.is.length : Int) ≤ (i : Int) := by omega
        have g3 : (i : Int) < (t.is.length : Int) := by omega
        obtain ⟨u, hu⟩ : ∃ u, t.is[i]? = some u := ⟨t.is[i], List.getElem?_eq_getElem hlt⟩
        obtain ⟨b, off, rfl, hcells⟩ := HF.out.resolve_left (fun h => by rw [h] at hlt; simp at hlt)
        obtain ⟨cu, hcu, hcc⟩ := hcells i u hu
        have hkb : ∀ p x, w.cell? p = some x → w3.cell? p = some x := keep_below HW3.out.b
        have HCC : Hid (∀ j x, cu[j]? = some x → w3.cell? ⟨b, off + i * 13 + j, none⟩ = some x) := fun j x hx => hkb _ _ (hcc j x hx)
        have hmem := List.mem_of_getElem? hu
        have HSZ := hide hcu.size13
        have HCA := hide (fresh_any u w3 cu (hcu.move hkb) (Nat.le_trans (tmuchL_mem hmem) HML.out))
        have HU := hide hu
        have HK9 := hide hk9
        clear hu hcells hcu hcc hmem hkb hr2 hr3 hk9
        go_wp2_with (refine wpList_valAt rfl rfl b (off + i * 13) cu rfl HSZ.out HCC.out ?_)
        refine HCA.out.mono ?_
        rintro e w4 ⟨c, s, rfl, rfl, hnt, hb4⟩
        have HW4 := hide (HW3.out.next hb4)
        have HZ4 : Hid (w.heap.size + 2 ≤ w3.heap.size) := HW3.out.z
        have HNT := hide hnt
        have HA1 := hide hnt.tin.all1
        have HS1 := hide hnt.size
        have HIN : Hid ((Tryd.prog.info? 30).map (·.size) = some c.size) := by show _ = _; rw [HS1.out]; exact infoV
        have HZV : Hid (zv.size = c.size) := by show _ = _; rw [HS1.out]; rfl
        have HR5 := hide HW4.out.r
        clear hnt hb4 HCA HCC q0 q12
        go_wp2_with (refine wpList_storeRow rfl rfl (w.heap.size + 1) zv c 30 rfl rfl HR5.out HIN.out HZV.out HA1.out ?_)
        have hkr := row_kp w4 (w.heap.size + 1) c
        have hz4 := HZ4.out
        refine bodyPost_ret (end_fd HS1.out (row_same HR5.out) rfl rfl) rfl ⟨⟨(i : Int), HFD.out, Or.inl ⟨i, _, c, rfl, HK9.out, HU.out, rfl, (HNT.out.kp hkr (fun q h1 h2 e => by omega)).mono (by omega) hkr.size⟩⟩, HW4.out.b.trans (hkr.below HW4.out.b.size (fun q e => by omega))⟩
      · as_aux_lemma =>
        subst hr1
        have HN : Hid (∀ w', Fdd t key w.heap.size (.returned (.tuple #[.agg zv, .bool false])) w') := fun w' => ⟨(i : Int), HFD.out, Or.inr ⟨Or.inr (Or.inr (by omega)), rfl⟩⟩
        have g1 : ¬ (i : Int) < 0 := by omega
        have g2 : (t.is.length : Int) ≤ (i : Int) := by omega
        clear hr2 hr3
        go_wp2_with (refine wpList_storeRow rfl rfl (w.heap.size + 1) zv zv 30 rfl rfl HR4.out HIZ.out rfl HAZ.out ?_)
        have hkr := row_kp w3 (w.heap.size + 1) zv
        exact bodyPost_ret (end_fd rfl (row_same HR4.out) rfl rfl) rfl ⟨HN.out _, HW3.out.b.trans (hkr.below HW3.out.b.size (fun q e => by omega))⟩
  · as_aux_lemma =>
    have HN : Hid (∀ w', Fdd t key w.heap.size (.returned (.tuple #[.agg zv, .bool false])) w') := fun w' => ⟨r, HFD.out, Or.inr ⟨Or.inl hk9, rfl⟩⟩
    have g0 : (t.k != 9) = true := by simp [hk9]
    clear hr
    go_wp2_with (refine wpList_storeRow rfl rfl (w.heap.size + 1) zv zv 30 rfl rfl HR4.out HIZ.out rfl HAZ.out ?_)
    have hkr := row_kp w3 (w.heap.size + 1) zv
    exact bodyPost_ret (end_fd rfl (row_same HR4.out) rfl rfl) rfl ⟨HN.out _, HW3.out.b.trans (hkr.below HW3.out.b.size (fun q e => by omega))⟩
end
section
open Go.RowKit Go
/-- What the whole walk of ValueRaw stands on: the argument's own copy. -/
structure Rw (w wx : World) (cs : Array Value) : Prop where
  p : wx.heap[w.heap.size]? = some (.cells cs 52 (0, 0))
  b : Below w.heap.size w wx
theorem Rw.next {w wx wy : World} {cs : Array Value} (h : Rw w wx cs) (hb : Below wx.heap.size wx wy) : Rw w wy cs :=
  ⟨(hb.block _ (blk_lt h.p)).trans h.p, h.b.trans (hb.mono h.b.size)⟩
theorem Rw.start (w : World) (cs : Array Value) : Rw w (w.alloc (.cells cs 52)) cs := ⟨heap_alloc_new w _, below_alloc4 w _⟩
/-- A variable that holds a lent value. -/
structure Vr (wx : World) (g : Nat) (c : Array Value) (u : Tv) : Prop where
  x : wx.heap[g]? = some (.cells c 30 (0, 0))
  l : ∃ lo hi, Ltv wx lo hi u c
theorem Vr.next {wx wy : World} {g : Nat} {c : Array Value} {u : Tv} (h : Vr wx g c u) (hb : Below wx.heap.size wx wy) : Vr wy g c u :=
  ⟨(hb.block _ (blk_lt h.x)).trans h.x, by obtain ⟨lo, hi, hl⟩ := h.l; exact ⟨lo, hi, hl.kept hb⟩⟩
theorem Vr.start {w : World} {lo hi : Nat} {c : Array Value} {u : Tv} (h : Ltv w lo hi u c) : Vr ((w.alloc (.cells zv 30)).setRow w.heap.size c) w.heap.size c u :=
  ⟨(itm_mk w c).r, lo, hi, h.kept (itm_mk w c).b⟩
theorem Vr.size {wx : World} {g : Nat} {c : Array Value} {u : Tv} (h : Vr wx g c u) : c.size = 13 := by obtain ⟨lo, hi, hl⟩ := h.l; exact hl.size
theorem Vr.tin {wx : World} {g : Nat} {c : Array Value} {u : Tv} (h : Vr wx g c u) : Tin wx u c := by obtain ⟨lo, hi, hl⟩ := h.l; exact hl.tin
theorem Vr.cells {wx : World} {g : Nat} {c : Array Value} {u : Tv} (h : Vr wx g c u) : ∀ j x, c[j]? = some x → wx.cell? ⟨g, 0 + j, none⟩ = some x := fun j x hx => by rw [Nat.zero_add]; exact blk_cell h.x hx
theorem exec_valAt {o : Oper} {a : Act} {p : Operand} {g off : Nat} {cs : Array Value} {w : World} (ho : o.op = .load 30 p) (hp : a.eval p = .pointer (some ⟨g, off, none⟩)) (hn : cs.size = 13) (hc : ∀ j u, cs[j]? = some u → w.cell? ⟨g, off + j, none⟩ = some u) : (execOp a.eval o).run Tryd.prog w = .ok (.value (.agg cs)) w := by
  unfold execOp
  have hr := load_val (w := w) g off cs hn hc
  simp only [ho, Sem.run_bind, hp, hr, Result.andThen_ok]
  rfl
theorem wp_storeRow {o : Oper} {a : Act} {K : Act → World → Prop} {Q : Exit → Act → World → Prop} {w : World} {T : TypeId} {p x : Operand} (ho : o.op = .store T p x) (g : Nat) (old cs : Array Value) (t : TypeId)
    (hp : a.eval p = .pointer (some ⟨g, 0, none⟩)) (hx : a.eval x = .agg cs) (hg : w.heap[g]? = some (.cells old t (0, 0))) (hi : (Tryd.prog.info? T).map (·.size) = some cs.size) (hn : old.size = cs.size) (h1 : cs.all (·.oneCell') = true)
    (h : K (a.put o.dst undef) (w.setRow g cs)) : Oper.wp Tryd.prog o a w K Q := by
  unfold Oper.wp execOp
  have hr : (Instr.storeAt T (.pointer (some ⟨g, 0, none⟩)) (.agg cs)).run Tryd.prog w = .ok () (w.setRow g cs) := by
    simp only [Instr.storeAt, Instr.sureAddr, Sem.run_bind, Sem.run_pure, Result.andThen]
    exact run_storeVar_row (P := Tryd.prog) w g t T old cs hg hi hn h1
  simp only [ho, Sem.run_bind, hp, hx, hr, Result.andThen_ok]
  exact h
theorem step_storeRow {ops : Array Oper} {o : Oper} {a : Act} {K : Act → World → Prop} {Q : Exit → Act → World → Prop} {w : World} {T : TypeId} {p x : Operand} (hw : Region.wanted o (yielded ops a.tmps) = true) (ho : o.op = .store T p x) (g : Nat) (old cs : Array Value) (t : TypeId)
    (hp : a.eval p = .pointer (some ⟨g, 0, none⟩)) (hx : a.eval x = .agg cs) (hg : w.heap[g]? = some (.cells old t (0, 0))) (hi : (Tryd.prog.info? T).map (·.size) = some cs.size) (hn : old.size = cs.size) (h1 : cs.all (·.oneCell') = true)
    (h : K (a.put o.dst undef) (w.setRow g cs)) : if Region.wanted o (yielded ops a.tmps) = true then Oper.wp Tryd.prog o a w K Q else K (a.put o.dst undef) w := by
  rw [if_pos hw]
  exact wp_storeRow ho g old cs t hp hx hg hi hn h1 h
theorem tdepthL_much : ∀ (l : List Tv), (∀ u ∈ l, tdepth u ≤ tmuch u) → tdepthL l ≤ tmuchL l
  | [], _ => by simp [tdepthL]
  | t :: r, h => by
    have h1 := h t (List.mem_cons_self ..)
    have h2 := tdepthL_much r (fun u hu => h u (List.mem_cons_of_mem _ hu))
    rw [tdepthL, tmuchL]
    omega
theorem tdepth_much (t : Tv) : tdepth t ≤ tmuch t := by
  have h : ∀ N, ∀ t : Tv, SizeOf.sizeOf t = N → tdepth t ≤ tmuch t := by
    intro N
    induction N using Nat.strongRecOn with
    | _ N ih =>
      intro t hN
      have h1 := tdepthL_much t.is (fun u hu => ih _ (by rw [← hN]; exact Tv.is_lt hu) u rfl)
      have h2 := tmuch_eq t
      rw [tdepth_eq]
      split <;> omega
  exact h _ t rfl
end
section
open Go.RowKit Go
set_option maxRecDepth 1000000 in
set_option maxHeartbeats 2000000 in
theorem vraw_any (w : World) (vL vK : Value) (is : List Tv) (ks : List ByteArray) (hv : VSl w vL is) (hk : SSl w vK ks) (hT : Tabs w) : Calls Tryd.prog 7 #[.agg #[vL, vK]] w fun e w' => e = .returned (.bool true) ∧ Below w.heap.size w w' := by
  have HT := hide hT
  have HVL := hide hv
  obtain ⟨⟨a, cap, rfl, _, hform⟩, hmax⟩ := hv
  obtain ⟨⟨ak, ck, rfl, _, hkf⟩, hkm, _⟩ := hk
  have HF := hide hform
  have HKF := hide hkf
  have HC0 : Hid ((#[.slice a is.length cap, .slice ak ks.length ck] : Array Value)[0]? = some (.slice a is.length cap)) := rfl
  have HC1 : Hid ((#[.slice a is.length cap, .slice ak ks.length ck] : Array Value)[1]? = some (.slice ak ks.length ck)) := rfl
  generalize (#[.slice a is.length cap, .slice ak ks.length ck] : Array Value) = cs at *
  clear hT hform hkf
  have HW0 := hide (Rw.start w cs)
  have q0 := blk_cell (j := 0) HW0.out.p HC0.out
  go_enter Tryd.func7, Tryd.ntmps7
  go_wp2_with fail
  generalize w.alloc (.cells cs 52) = w1 at *
  refine (much_any is w1 _ 3000 (HVL.out.move (keep_below HW0.out.b)) (by omega)).mono ?_
  rintro e w2 ⟨r, rfl, hmu, hb2⟩
  have HW2 := hide (HW0.out.next hb2)
  have HMU := hide hmu
  clear hmu hb2 q0 HW0
  by_cases hr : 3000 < r
  · as_aux_lemma =>
    have g0 : (3000 : Int) < (r : Int) := by omega
    go_wp2_with fail
    go_ret
    exact ⟨rfl, HW2.out.b⟩
  · have g0 : ¬ (3000 : Int) < (r : Int) := by omega
    have HM : Hid (tmuchL is ≤ 3000) := by have := HMU.out.eq (by omega); show _ ≤ _; omega
    clear HMU
    go_wp2_with fail
    go_loopw [3] (fun ii wx => ∃ i : Nat, i ≤ is.length ∧ ii = .int .i64 (i : Nat) ∧ Hid (Rw w wx cs)) (fun ii _ => is.length - (intOf ii).toNat)
    case atStart => exact ⟨0, by omega, rfl, HW2⟩
    case round =>
      rename World => wa
      obtain ⟨i, hi, rfl, HWa⟩ := hrel
      have q0 := blk_cell (j := 0) HWa.out.p HC0.out
      by_cases hlt : i < is.length
      · have g1 : (i : Int) < (is.length : Int) := by omega
        obtain ⟨u, hu⟩ : ∃ u, is[i]? = some u := ⟨is[i], List.getElem?_eq_getElem hlt⟩
        have hj : (i + 1) % is.length < is.length := Nat.mod_lt _ (by omega)
        generalize hjj : (i + 1) % is.length = j at *
        have HJ := hide hjj
        clear hjj
        obtain ⟨v, hv⟩ : ∃ v, is[j]? = some v := ⟨is[j], List.getElem?_eq_getElem hj⟩
        obtain ⟨b, off, rfl, hcells⟩ := HF.out.resolve_left (fun h => by rw [h] at hlt; simp at hlt)
        obtain ⟨cu, hcu, hcc⟩ := hcells i u hu
        obtain ⟨cv, hcv, hcd⟩ := hcells j v hv
        have HTU := hide hcu
        have HTV := hide hcv
        have HCU := hide hcc
        have HCV := hide hcd
        have HMu : Hid (tmuch u ≤ 3000) := Nat.le_trans (tmuchL_mem (List.mem_of_getElem? hu)) HM.out
        have HMv : Hid (tmuch v ≤ 3000) := Nat.le_trans (tmuchL_mem (List.mem_of_getElem? hv)) HM.out
        clear hcells hcu hcc hcv hcd hu hv HF
        have HSU := hide HTU.out.size13
        have HSV := hide HTV.out.size13
        have HCA : Hid (∀ k x, cu[k]? = some x → wa.cell? ⟨b, off + i * 13 + k, none⟩ = some x) := fun k x hx => keep_below HWa.out.b _ _ (HCU.out k x hx)
        go_wp2_with (refine wpList_valAt rfl rfl b (off + i * 13) cu rfl HSU.out HCA.out ?_)
        refine (lendValue_any u wa cu (HTU.out.move (keep_below HWa.out.b)) (by have := HMu.out; omega)).mono ?_
        rintro e wb ⟨c, rfl, hlt1, hbb⟩
        have HWb := hide ((HWa.out.next hbb).next (itm_mk wb c).b)
        have HX := hide (Vr.start hlt1)
        have HG0 := hide (heap_alloc_new wb (.cells zv 30))
        have HS1 := hide hlt1.size
        have HA1 := hide hlt1.tin.all1
        have HIN : Hid ((Tryd.prog.info? 30).map (·.size) = some c.size) := by show _ = _; rw [HS1.out]; exact infoV
        have HZV : Hid (zv.size = c.size) := by show _ = _; rw [HS1.out]; rfl
        clear hlt1 hbb q0 HCA HWa
        go_wp2_with (refine wpList_storeRow rfl rfl wb.heap.size zv c 30 rfl rfl HG0.out HIN.out HZV.out HA1.out ?_)
        clear HG0 HIN HZV HA1
        unfold zv at HX HWb
        generalize (wb.alloc (.cells #[.int .i64 0, .bool false, .bool false, .int .u64 0, .int .u64 0, .string ⟨#[]⟩, .slice none 0 0, .int .i64 0, .int .u64 0, .int .u64 0, .string ⟨#[]⟩, .slice none 0 0, .slice none 0 0] 30)).setRow wb.heap.size c = wc at *
        generalize wb.heap.size = gx at *
        have hne : ¬ is.length = 0 := by omega
        have hwr : IntKind.i64.wrap ((i : Int) + 1) = (i : Int) + 1 := by
          rw [IntKind.wrap_i64]; omega
        have htm : ((i : Int) + 1).tmod (is.length : Int) = (j : Int) := by rw [← HJ.out]; rfl
        have g2 : (j : Int) < (is.length : Int) := by omega
        (try simp only [Act.put])
        go_cut [5] from 24 to 34 (fun yy wx => ∃ (gy : Nat) (d : Array Value), yy = .pointer (some ⟨gy, 0, none⟩) ∧ Hid (Rw w wx cs) ∧ Hid (Vr wx gx c u) ∧ Hid (Vr wx gy d v))
        case first => as_aux_lemma =>
          refine heldStart (S := fun w' => Rw w w' cs ∧ Vr w' gx c u) (by kernel_rfl) ?_
          have hS : Rw w wc.drew cs ∧ Vr wc.drew gx c u := ⟨HWb.out.next (by refine Below.drew ?_; exact Below.refl _ _), HX.out.next (by refine Below.drew ?_; exact Below.refl _ _)⟩
          clear HWb HX
          refine heldTake 0 _ rfl (by kernel_rfl) (by kernel_rfl) (by kernel_rfl) (fun _ _ _ h => h) rfl hS (fun wy hy => by first | (go_simp; done) | (go_simp; rfl) | rfl) ?_
          (try simp only [Act.put]); (try simp only [List.setIfInBounds_toArray, List.set_cons_zero, List.set_cons_succ])
          refine heldTake 1 _ rfl (by kernel_rfl) (by kernel_rfl) (by kernel_rfl) (fun _ _ _ h => h) rfl hS (fun wy hy => by have h0 := blk_cell (j := 0) hy.1.p HC0.out; first | (go_simp; done) | (go_simp; rfl) | rfl) ?_
          (try simp only [Act.put]); (try simp only [List.setIfInBounds_toArray, List.set_cons_zero, List.set_cons_succ])
          refine heldTake 2 _ rfl (by kernel_rfl) (by kernel_rfl) (by kernel_rfl) (fun _ _ _ h => h) rfl hS (fun wy hy => by first | (go_simp; done) | (go_simp; rfl) | rfl) ?_
          (try simp only [Act.put]); (try simp only [List.setIfInBounds_toArray, List.set_cons_zero, List.set_cons_succ])
          refine heldTake 3 _ rfl (by kernel_rfl) (by kernel_rfl) (by kernel_rfl) (fun _ _ _ h => h) rfl hS (fun wy hy => by first | (go_simp; done) | (go_simp; rfl) | rfl) ?_
          (try simp only [Act.put]); (try simp only [List.setIfInBounds_toArray, List.set_cons_zero, List.set_cons_succ])
          refine heldTake 4 _ rfl (by kernel_rfl) (by kernel_rfl) (by kernel_rfl) (fun _ _ _ h => h) rfl hS (fun wy hy => by first | (go_simp; done) | (go_simp; rfl) | rfl) ?_
          (try simp only [Act.put]); (try simp only [List.setIfInBounds_toArray, List.set_cons_zero, List.set_cons_succ])
          refine heldTake 5 _ rfl (by kernel_rfl) (by kernel_rfl) (by kernel_rfl) (fun _ _ _ h => h) rfl hS (fun wy hy => by have h0 := blk_cell (j := 0) hy.1.p HC0.out; first | (go_simp; done) | (go_simp; rfl) | rfl) ?_
          (try simp only [Act.put]); (try simp only [List.setIfInBounds_toArray, List.set_cons_zero, List.set_cons_succ])
          refine heldTake 6 _ rfl (by kernel_rfl) (by kernel_rfl) (by kernel_rfl) (fun _ _ _ h => h) rfl hS (fun wy hy => by first | (go_simp; done) | (go_simp; rfl) | rfl) ?_
          (try simp only [Act.put]); (try simp only [List.setIfInBounds_toArray, List.set_cons_zero, List.set_cons_succ])
          refine heldTake 7 _ rfl (by kernel_rfl) (by kernel_rfl) (by kernel_rfl) (fun _ _ _ h => h) rfl hS (fun wy hy => by first | (go_simp; done) | (go_simp; rfl) | rfl) ?_
          (try simp only [Act.put]); (try simp only [List.setIfInBounds_toArray, List.set_cons_zero, List.set_cons_succ])
          refine heldTake 8 _ rfl (by kernel_rfl) (by kernel_rfl) (by kernel_rfl) (fun _ _ _ h => h) rfl hS (fun wy hy => by first | (go_simp; done) | (go_simp; rfl) | rfl) ?_
          (try simp only [Act.put]); (try simp only [List.setIfInBounds_toArray, List.set_cons_zero, List.set_cons_succ])
          refine heldTake 9 _ rfl (by kernel_rfl) (by kernel_rfl) (by kernel_rfl) (fun _ _ _ h => h) rfl hS (fun wy hy => exec_valAt (g := b) (off := off + j * 13) (cs := cv) rfl rfl HSV.out (fun k x hx => keep_below hy.1.b _ _ (HCV.out k x hx))) ?_
          (try simp only [Act.put]); (try simp only [List.setIfInBounds_toArray, List.set_cons_zero, List.set_cons_succ])
          refine wpAnyH_ready (rs := [10, 11]) (by kernel_rfl) (by simp) ?_
          refine AllReadyH.cons rfl (fun K hK => ?_) (AllReadyH.cons rfl (fun K hK => ?_) AllReadyH.nil)
          · as_aux_lemma =>
            go_simp
            refine (lendValue_any v _ cv (HTV.out.move (keep_below hS.1.b)) (by have := HMv.out; omega)).mono ?_
            rintro e wd ⟨d, rfl, hlt2, hbd⟩
            refine (Shut.out hK) _ _ ⟨hS.1.next hbd, hS.2.next hbd⟩ (fun hS2 => ?_)
            clear hK K hS
            have hS := hS2
            clear hS2
            have HL2 := hide hlt2
            have HS1 := hide hlt2.size
            have HA1 := hide hlt2.tin.all1
            clear hlt2 hbd
            (try simp only [Act.put]); (try simp only [List.setIfInBounds_toArray, List.set_cons_zero, List.set_cons_succ])
            refine heldStep 11 rfl (by kernel_rfl) (fun K hK => ?_)
            go_simp
            have hb0 := below_alloc4 wd (.cells zv 30)
            have HG0 := hide (heap_alloc_new wd (.cells zv 30))
            refine (Hid.out hK) _ (wd.alloc (.cells zv 30)) ⟨hS.1.next hb0, hS.2.next hb0⟩ (fun hS2 => ?_)
            clear hK K
            have HIN : Hid ((Tryd.prog.info? 30).map (·.size) = some d.size) := by show _ = _; rw [HS1.out]; exact infoV
            have HZV : Hid (zv.size = d.size) := by show _ = _; rw [HS1.out]; rfl
            (try simp only [Act.put]); (try simp only [List.setIfInBounds_toArray, List.set_cons_zero, List.set_cons_succ])
            refine heldStep 12 rfl (by kernel_rfl) (fun K hK => ?_)
            refine step_storeRow rfl rfl wd.heap.size zv d 30 rfl rfl HG0.out HIN.out HZV.out HA1.out ?_
            have hb1 := (itm_mk wd d).b
            refine (Hid.out hK) _ _ ⟨hS.1.next hb1, hS.2.next hb1⟩ (fun hS3 => ?_)
            clear hK K
            (try simp only [Act.put]); (try simp only [List.setIfInBounds_toArray, List.set_cons_zero, List.set_cons_succ])
            refine heldDone (by kernel_rfl) ?_
            have HR3 := hide hS3
            have HV3 := hide (Vr.start HL2.out)
            clear hS hS2 hS3 hb0 hb1
            go_wp2_with fail
            go_meet
            case rel => exact ⟨wd.heap.size, d, rfl, HR3.out.1, HR3.out.2, HV3⟩
          · as_aux_lemma =>
            go_simp
            have hb0 := below_alloc4 wc.drew (.cells zv 30)
            have hz0 : (wc.drew.alloc (.cells zv 30)).heap.size = wc.drew.heap.size + 1 := by simp
            have hg0 := heap_alloc_new wc.drew (.cells zv 30)
            refine (Shut.out hK) _ (wc.drew.alloc (.cells zv 30)) ⟨hS.1.next hb0, hS.2.next hb0⟩ (fun hS2 => ?_)
            clear hK K
            (try simp only [Act.put]); (try simp only [List.setIfInBounds_toArray, List.set_cons_zero, List.set_cons_succ])
            generalize hA : wc.drew.alloc (.cells zv 30) = wA at *
            clear hA
            have hgy : wc.drew.heap.size = wc.heap.size := rfl
            generalize hwd : wc.drew = w0 at *
            clear hwd
            generalize wc.heap.size = gy at *
            refine heldStep 10 rfl (by kernel_rfl) (fun K hK => ?_)
            go_simp
            refine (lendValue_any v _ cv (HTV.out.move (keep_below hS2.1.b)) (by have := HMv.out; omega)).mono ?_
            rintro e wd ⟨d, rfl, hlt2, hbd⟩
            refine (Hid.out hK) _ _ ⟨hS2.1.next hbd, hS2.2.next hbd⟩ (fun hS3 => ?_)
            clear hK K
            rw [hgy] at hg0 hz0 hb0
            have hg1 := (hbd.block _ (blk_lt hg0)).trans hg0
            have HG1 := hide hg1
            have HL2 := hide hlt2
            have HS1 := hide hlt2.size
            have HA1 := hide hlt2.tin.all1
            have HIN : Hid ((Tryd.prog.info? 30).map (·.size) = some d.size) := by show _ = _; rw [HS1.out]; exact infoV
            have HZV : Hid (zv.size = d.size) := by show _ = _; rw [HS1.out]; rfl
            clear hlt2 hg1
            (try simp only [Act.put]); (try simp only [List.setIfInBounds_toArray, List.set_cons_zero, List.set_cons_succ])
            refine heldStep 12 rfl (by kernel_rfl) (fun K hK => ?_)
            refine step_storeRow rfl rfl gy zv d 30 rfl rfl HG1.out HIN.out HZV.out HA1.out ?_
            have hkr := row_kp wd gy d
            have hsd := hbd.size
            have hb1 : Below w0.heap.size w0 (wd.setRow gy d) := by
              rw [hgy]
              exact (hb0.trans (hbd.mono (by omega))).trans (hkr.below (by omega) (fun q e => by omega))
            refine (Hid.out hK) _ _ ⟨hS.1.next hb1, hS.2.next hb1⟩ (fun hS4 => ?_)
            clear hK K
            (try simp only [Act.put]); (try simp only [List.setIfInBounds_toArray, List.set_cons_zero, List.set_cons_succ])
            refine heldDone (by kernel_rfl) ?_
            have HR3 := hide hS4
            have HV3 : Hid (Vr (wd.setRow gy d) gy d v) := ⟨row_same HG1.out, _, _, HL2.out.kp hkr (fun q h1 h2 e => by omega)⟩
            clear hS hS2 hS3 hS4 hb0 hb1 hbd hkr hg0
            go_wp2_with fail
            go_meet
            case rel => exact ⟨gy, d, rfl, HR3.out.1, HR3.out.2, HV3⟩
        case rest =>
          clear HWb HX
          obtain ⟨gy, d, rfl, HW, HX, HY⟩ := hcut
          have HXZ := hide HX.out.size
          have HYZ := hide HY.out.size
          have HXC := hide HX.out.cells
          go_wp2_with (refine wpList_valAt rfl rfl gx 0 c rfl HXZ.out HXC.out ?_)
          refine (depth_any u wc c HX.out.tin (by have := tdepth_much u; have := HMu.out; omega)).mono ?_
          rintro e w3 ⟨rfl, hb3⟩
          have HW3 := hide (HW.out.next hb3)
          have HX3 := hide (HX.out.next hb3)
          have HY3 := hide (HY.out.next hb3)
          have HXC3 := hide HX3.out.cells
          have HYC3 := hide HY3.out.cells
          clear hb3 HW HX HY HXC
          go_wp2_with (first | (refine wpList_valAt rfl rfl gx 0 c rfl HXZ.out HXC3.out ?_) | (refine wpList_valAt rfl rfl gy 0 d rfl HYZ.out HYC3.out ?_))
          refine (equal6_any u v w3 c d HX3.out.tin HY3.out.tin (by have := HMu.out; omega) (by have := HMv.out; omega)).mono ?_
          rintro e w4 ⟨rfl, hb4⟩
          have HW4 := hide (HW3.out.next hb4)
          have HX4 := hide (HX3.out.next hb4)
          have HY4 := hide (HY3.out.next hb4)
          have HXC4 := hide HX4.out.cells
          clear hb4 HW3 HX3 HY3 HXC3 HYC3
          go_wp2_with (refine wpList_valAt rfl rfl gx 0 c rfl HXZ.out HXC4.out ?_)
          refine (sorted6_any u w4 c HX4.out.tin (by have := HMu.out; omega)).mono ?_
          rintro e w5 ⟨c5, s5, rfl, _, _, hb5⟩
          have HW5 := hide (HW4.out.next hb5)
          have HX5 := hide (HX4.out.next hb5)
          have HY5 := hide (HY4.out.next hb5)
          have HXC5 := hide HX5.out.cells
          clear hb5 HW4 HX4 HY4 HXC4
          go_wp2_with (refine wpList_valAt rfl rfl gx 0 c rfl HXZ.out HXC5.out ?_)
          refine (links6_any u w5 c HX5.out.tin (by have := HMu.out; omega)).mono ?_
          rintro e w6 ⟨v6, rfl, _, hb6⟩
          have HW6 := hide (HW5.out.next hb6)
          have HX6 := hide (HX5.out.next hb6)
          have HY6 := hide (HY5.out.next hb6)
          clear hb6 HW5 HX5 HY5 HXC5
          go_upto_block 2 with fail
          go_cut [6] from 44 to 61 (fun kk wx => Hid (Rw w wx cs) ∧ Hid (Vr wx gx c u) ∧ Hid (Vr wx gy d v))
          case first => as_aux_lemma =>
            go_wp2_with fail
            go_loopw [6] (fun kk wx => ∃ k : Nat, k ≤ 20 ∧ kk = .int .i64 (k : Nat) ∧ Hid (Rw w wx cs) ∧ Hid (Vr wx gx c u) ∧ Hid (Vr wx gy d v)) (fun kk _ => 20 - (intOf kk).toNat)
            case atStart => exact ⟨0, by omega, rfl, HW6, HX6, HY6⟩
            case round =>
              rename World => wk
              obtain ⟨k, hk, rfl, HWk, HXk, HYk⟩ := hrel
              clear HW6 HX6 HY6
              have q1 := blk_cell (j := 1) HWk.out.p HC1.out
              by_cases hl1 : k < ks.length
              · have g3 : (k : Int) < (ks.length : Int) := by omega
                by_cases hl2 : k < 20
                · as_aux_lemma =>
                  have g4 : (k : Int) < 20 := by omega
                  obtain ⟨s, hs⟩ : ∃ s, ks[k]? = some s := ⟨ks[k], List.getElem?_eq_getElem hl1⟩
                  obtain ⟨b2, off2, rfl, hk2⟩ := HKF.out.resolve_left (fun h => by rw [h] at hl1; simp at hl1)
                  have HKC := hide (hk2 k s hs)
                  clear hk2 hs HKF
                  go_wp2_with fail
                  refine heldStart (S := fun w' => Rw w w' cs ∧ Vr w' gx c u ∧ Vr w' gy d v) (by kernel_rfl) ?_
                  have hbz : Below wk.heap.size wk wk.drew := by
                    refine Below.drew ?_
                    exact Below.refl _ _
                  have hS : Rw w wk.drew cs ∧ Vr wk.drew gx c u ∧ Vr wk.drew gy d v := ⟨HWk.out.next hbz, HXk.out.next hbz, HYk.out.next hbz⟩
                  clear hbz HWk HXk HYk q1
                  refine heldTake 0 _ rfl (by kernel_rfl) (by kernel_rfl) (by kernel_rfl) (fun _ _ _ h => h) rfl hS (fun wy hy => exec_loadV rfl rfl HXZ.out hy.2.1.x) ?_
                  (try simp only [Act.put]); (try simp only [List.setIfInBounds_toArray, List.set_cons_zero, List.set_cons_succ])
                  refine heldTake 1 _ rfl (by kernel_rfl) (by kernel_rfl) (by kernel_rfl) (fun _ _ _ h => h) rfl hS (fun wy hy => by first | (go_simp; done) | (go_simp; rfl) | rfl) ?_
                  (try simp only [Act.put]); (try simp only [List.setIfInBounds_toArray, List.set_cons_zero, List.set_cons_succ])
                  refine heldTake 2 _ rfl (by kernel_rfl) (by kernel_rfl) (by kernel_rfl) (fun _ _ _ h => h) rfl hS (fun wy hy => by have h0 := blk_cell (j := 1) hy.1.p HC1.out; first | (go_simp; done) | (go_simp; rfl) | rfl) ?_
                  (try simp only [Act.put]); (try simp only [List.setIfInBounds_toArray, List.set_cons_zero, List.set_cons_succ])
                  refine heldTake 3 _ rfl (by kernel_rfl) (by kernel_rfl) (by kernel_rfl) (fun _ _ _ h => h) rfl hS (fun wy hy => by first | (go_simp; done) | (go_simp; rfl) | rfl) ?_
                  (try simp only [Act.put]); (try simp only [List.setIfInBounds_toArray, List.set_cons_zero, List.set_cons_succ])
                  refine heldTake 4 _ rfl (by kernel_rfl) (by kernel_rfl) (by kernel_rfl) (fun _ _ _ h => h) rfl hS (fun wy hy => by first | (go_simp; done) | (go_simp; rfl) | rfl) ?_
                  (try simp only [Act.put]); (try simp only [List.setIfInBounds_toArray, List.set_cons_zero, List.set_cons_succ])
                  refine heldTake 5 _ rfl (by kernel_rfl) (by kernel_rfl) (by kernel_rfl) (fun _ _ _ h => h) rfl hS (fun wy hy => by have h0 := keep_below hy.1.b _ _ HKC.out; first | (go_simp; done) | (go_simp; rfl) | rfl) ?_
                  (try simp only [Act.put]); (try simp only [List.setIfInBounds_toArray, List.set_cons_zero, List.set_cons_succ])
                  refine heldStep 6 rfl (by kernel_rfl) (fun K hK => ?_)
                  go_simp
                  refine (find6_any u s _ c hS.2.1.tin (by have := HMu.out; omega)).mono ?_
                  rintro e wz ⟨hfd, hbz⟩
                  obtain ⟨x, rfl⟩ : ∃ x, e = .returned x := by
                    obtain ⟨r2, _, h | h⟩ := hfd
                    · obtain ⟨_, _, _, _, _, _, h, _⟩ := h
                      exact ⟨_, h⟩
                    · exact ⟨_, h.2⟩
                  clear hfd
                  refine (Hid.out hK) _ _ (⟨hS.1.next hbz, hS.2.1.next hbz, hS.2.2.next hbz⟩) (fun hS2 => ?_)
                  clear hK K hS
                  have hS := hS2
                  clear hS2
                  (try simp only [Act.put]); (try simp only [List.setIfInBounds_toArray, List.set_cons_zero, List.set_cons_succ])
                  clear hbz
                  refine heldDone (by kernel_rfl) ?_
                  have HW9 := hide hS.1
                  have HX9 := hide hS.2.1
                  have HY9 := hide hS.2.2
                  clear hS
                  go_wp2_with fail
                  go_roundw
                  case rel => exact ⟨k + 1, by omega, by go_num, HW9, HX9, HY9⟩
                  case measure => simp [intOf]; omega
                · as_aux_lemma =>
                  have g4 : ¬ (k : Int) < 20 := by omega
                  go_wp2_with fail
                  go_meet
                  case rel => exact ⟨HWk, HXk, HYk⟩
              · as_aux_lemma =>
                have g3 : ¬ (k : Int) < (ks.length : Int) := by omega
                go_wp2_with fail
                go_meet
                case rel => exact ⟨HWk, HXk, HYk⟩
          case rest => as_aux_lemma =>
            rename World => wk
            obtain ⟨HWk, HXk, HYk⟩ := hcut
            clear HW6 HX6 HY6
            go_wp2_with fail
            refine heldStart (S := fun w' => Rw w w' cs ∧ Vr w' gx c u ∧ Vr w' gy d v) (by kernel_rfl) ?_
            have hbz : Below wk.heap.size wk wk.drew := by
              refine Below.drew ?_
              exact Below.refl _ _
            have hS : Rw w wk.drew cs ∧ Vr wk.drew gx c u ∧ Vr wk.drew gy d v := ⟨HWk.out.next hbz, HXk.out.next hbz, HYk.out.next hbz⟩
            clear hbz HWk HXk HYk
            refine heldTake 0 _ rfl (by kernel_rfl) (by kernel_rfl) (by kernel_rfl) (fun _ _ _ h => h) rfl hS (fun wy hy => exec_loadV rfl rfl HXZ.out hy.2.1.x) ?_
            (try simp only [Act.put]); (try simp only [List.setIfInBounds_toArray, List.set_cons_zero, List.set_cons_succ])
            refine heldTake 1 _ rfl (by kernel_rfl) (by kernel_rfl) (by kernel_rfl) (fun _ _ _ h => h) rfl hS (fun wy hy => by first | (go_simp; done) | (go_simp; rfl) | rfl) ?_
            (try simp only [Act.put]); (try simp only [List.setIfInBounds_toArray, List.set_cons_zero, List.set_cons_succ])
            refine heldTake 2 _ rfl (by kernel_rfl) (by kernel_rfl) (by kernel_rfl) (fun _ _ _ h => h) rfl hS (fun wy hy => by have h0 := blk_cell (j := 0) hy.1.p HC0.out; first | (go_simp; done) | (go_simp; rfl) | rfl) ?_
            (try simp only [Act.put]); (try simp only [List.setIfInBounds_toArray, List.set_cons_zero, List.set_cons_succ])
            refine heldTake 3 _ rfl (by kernel_rfl) (by kernel_rfl) (by kernel_rfl) (fun _ _ _ h => h) rfl hS (fun wy hy => by first | (go_simp; done) | (go_simp; rfl) | rfl) ?_
            (try simp only [Act.put]); (try simp only [List.setIfInBounds_toArray, List.set_cons_zero, List.set_cons_succ])
            refine heldTake 4 _ rfl (by kernel_rfl) (by kernel_rfl) (by kernel_rfl) (fun _ _ _ h => h) rfl hS (fun wy hy => by first | (go_simp; done) | (go_simp; rfl) | rfl) ?_
            (try simp only [Act.put]); (try simp only [List.setIfInBounds_toArray, List.set_cons_zero, List.set_cons_succ])
            refine heldTake 5 _ rfl (by kernel_rfl) (by kernel_rfl) (by kernel_rfl) (fun _ _ _ h => h) rfl hS (fun wy hy => exec_valAt (g := b) (off := off + i * 13) (cs := cu) rfl rfl HSU.out (fun k x hx => keep_below hy.1.b _ _ (HCU.out k x hx))) ?_
            (try simp only [Act.put]); (try simp only [List.setIfInBounds_toArray, List.set_cons_zero, List.set_cons_succ])
            refine heldStep 6 rfl (by kernel_rfl) (fun K hK => ?_)
            go_simp
            obtain ⟨lo, hi2, hlx⟩ := hS.2.1.l
            refine (backValue_any u _ lo hi2 c cu hlx (HTU.out.move (keep_below hS.1.b))).mono ?_
            rintro e wz ⟨rfl, hbz⟩
            refine (Hid.out hK) _ _ (⟨hS.1.next hbz, hS.2.1.next hbz, hS.2.2.next hbz⟩) (fun hS2 => ?_)
            clear hK K hS
            have hS := hS2
            clear hS2
            (try simp only [Act.put]); (try simp only [List.setIfInBounds_toArray, List.set_cons_zero, List.set_cons_succ])
            clear hbz hlx
            refine heldTake 7 _ rfl (by kernel_rfl) (by kernel_rfl) (by kernel_rfl) (fun _ _ _ h => h) rfl hS (fun wy hy => by first | (go_simp; done) | (go_simp; rfl) | rfl) ?_
            (try simp only [Act.put]); (try simp only [List.setIfInBounds_toArray, List.set_cons_zero, List.set_cons_succ])
            refine heldTake 8 _ rfl (by kernel_rfl) (by kernel_rfl) (by kernel_rfl) (fun _ _ _ h => h) rfl hS (fun wy hy => by first | (go_simp; done) | (go_simp; rfl) | rfl) ?_
            (try simp only [Act.put]); (try simp only [List.setIfInBounds_toArray, List.set_cons_zero, List.set_cons_succ])
            refine heldTake 9 _ rfl (by kernel_rfl) (by kernel_rfl) (by kernel_rfl) (fun _ _ _ h => h) rfl hS (fun wy hy => exec_loadV rfl rfl HYZ.out hy.2.2.x) ?_
            (try simp only [Act.put]); (try simp only [List.setIfInBounds_toArray, List.set_cons_zero, List.set_cons_succ])
            refine heldTake 10 _ rfl (by kernel_rfl) (by kernel_rfl) (by kernel_rfl) (fun _ _ _ h => h) rfl hS (fun wy hy => by first | (go_simp; done) | (go_simp; rfl) | rfl) ?_
            (try simp only [Act.put]); (try simp only [List.setIfInBounds_toArray, List.set_cons_zero, List.set_cons_succ])
            refine heldTake 11 _ rfl (by kernel_rfl) (by kernel_rfl) (by kernel_rfl) (fun _ _ _ h => h) rfl hS (fun wy hy => by have h0 := blk_cell (j := 0) hy.1.p HC0.out; first | (go_simp; done) | (go_simp; rfl) | rfl) ?_
            (try simp only [Act.put]); (try simp only [List.setIfInBounds_toArray, List.set_cons_zero, List.set_cons_succ])
            refine heldTake 12 _ rfl (by kernel_rfl) (by kernel_rfl) (by kernel_rfl) (fun _ _ _ h => h) rfl hS (fun wy hy => by first | (go_simp; done) | (go_simp; rfl) | rfl) ?_
            (try simp only [Act.put]); (try simp only [List.setIfInBounds_toArray, List.set_cons_zero, List.set_cons_succ])
            refine heldTake 13 _ rfl (by kernel_rfl) (by kernel_rfl) (by kernel_rfl) (fun _ _ _ h => h) rfl hS (fun wy hy => by first | (go_simp; done) | (go_simp; rfl) | rfl) ?_
            (try simp only [Act.put]); (try simp only [List.setIfInBounds_toArray, List.set_cons_zero, List.set_cons_succ])
            refine heldTake 14 _ rfl (by kernel_rfl) (by kernel_rfl) (by kernel_rfl) (fun _ _ _ h => h) rfl hS (fun wy hy => by first | (go_simp; done) | (go_simp; rfl) | rfl) ?_
            (try simp only [Act.put]); (try simp only [List.setIfInBounds_toArray, List.set_cons_zero, List.set_cons_succ])
            refine heldTake 15 _ rfl (by kernel_rfl) (by kernel_rfl) (by kernel_rfl) (fun _ _ _ h => h) rfl hS (fun wy hy => by have h0 := blk_cell (j := 0) hy.1.p HC0.out; first | (go_simp; done) | (go_simp; rfl) | rfl) ?_
            (try simp only [Act.put]); (try simp only [List.setIfInBounds_toArray, List.set_cons_zero, List.set_cons_succ])
            refine heldTake 16 _ rfl (by kernel_rfl) (by kernel_rfl) (by kernel_rfl) (fun _ _ _ h => h) rfl hS (fun wy hy => by first | (go_simp; done) | (go_simp; rfl) | rfl) ?_
            (try simp only [Act.put]); (try simp only [List.setIfInBounds_toArray, List.set_cons_zero, List.set_cons_succ])
            refine heldTake 17 _ rfl (by kernel_rfl) (by kernel_rfl) (by kernel_rfl) (fun _ _ _ h => h) rfl hS (fun wy hy => by first | (go_simp; done) | (go_simp; rfl) | rfl) ?_
            (try simp only [Act.put]); (try simp only [List.setIfInBounds_toArray, List.set_cons_zero, List.set_cons_succ])
            refine heldTake 18 _ rfl (by kernel_rfl) (by kernel_rfl) (by kernel_rfl) (fun _ _ _ h => h) rfl hS (fun wy hy => by first | (go_simp; done) | (go_simp; rfl) | rfl) ?_
            (try simp only [Act.put]); (try simp only [List.setIfInBounds_toArray, List.set_cons_zero, List.set_cons_succ])
            refine heldTake 19 _ rfl (by kernel_rfl) (by kernel_rfl) (by kernel_rfl) (fun _ _ _ h => h) rfl hS (fun wy hy => exec_valAt (g := b) (off := off + j * 13) (cs := cv) rfl rfl HSV.out (fun k x hx => keep_below hy.1.b _ _ (HCV.out k x hx))) ?_
            (try simp only [Act.put]); (try simp only [List.setIfInBounds_toArray, List.set_cons_zero, List.set_cons_succ])
            refine heldStep 20 rfl (by kernel_rfl) (fun K hK => ?_)
            go_simp
            obtain ⟨lo3, hi3, hly⟩ := hS.2.2.l
            refine (backValue_any v _ lo3 hi3 d cv hly (HTV.out.move (keep_below hS.1.b))).mono ?_
            rintro e wy2 ⟨rfl, hbz⟩
            refine (Hid.out hK) _ _ (⟨hS.1.next hbz, hS.2.1.next hbz, hS.2.2.next hbz⟩) (fun hS2 => ?_)
            clear hK K hS
            have hS := hS2
            clear hS2
            (try simp only [Act.put]); (try simp only [List.setIfInBounds_toArray, List.set_cons_zero, List.set_cons_succ])
            clear hbz hly
            refine heldTake 21 _ rfl (by kernel_rfl) (by kernel_rfl) (by kernel_rfl) (fun _ _ _ h => h) rfl hS (fun wy hy => by first | (go_simp; done) | (go_simp; rfl) | rfl) ?_
            (try simp only [Act.put]); (try simp only [List.setIfInBounds_toArray, List.set_cons_zero, List.set_cons_succ])
            refine heldTake 22 _ rfl (by kernel_rfl) (by kernel_rfl) (by kernel_rfl) (fun _ _ _ h => h) rfl hS (fun wy hy => by first | (go_simp; done) | (go_simp; rfl) | rfl) ?_
            (try simp only [Act.put]); (try simp only [List.setIfInBounds_toArray, List.set_cons_zero, List.set_cons_succ])
            refine heldDone (by kernel_rfl) ?_
            have HW9 := hide hS.1
            clear hS
            go_wp2_with fail
            go_roundw
            case rel => exact ⟨i + 1, by omega, by go_num, HW9⟩
            case measure => simp [intOf]; omega
      · as_aux_lemma =>
        have g1 : ¬ (i : Int) < (is.length : Int) := by omega
        go_wp2_with fail
        refine (wakes_any wa (HT.out.next HWa.out.b)).mono ?_
        rintro e w9 ⟨rfl, hb9⟩
        have HB9 : Hid (Below w.heap.size w w9) := (HWa.out.next hb9).b
        clear hb9 q0
        go_wp2_with fail
        go_ret
        exact ⟨rfl, HB9.out⟩
end
section
open Go.ChangeShapes Go.WideShapes Go.ChangeAt Go.RowKit Go.Deep Go.Joins
set_option maxRecDepth 100000 in
theorem vraw_lifted (os : Os) (started : os.Started) (H : Type) (enc : TypeId × Value → H) :
    ReturnsInHanded {} Tryd.checked os 7 .any (fun w args => (Rows.valueRawSpec.pre enc Tryd.prog Tryd.f7 Rows.valueRawRow.domain false w args ∧ laidMet Tryd.prog Rows.valueRawRow.laid w) ∧ sizedMet enc Tryd.prog Tryd.f7 (OpenSpec.ofChange Rows.valueRawSpec) false w args)
      (Rows.valueRawSpec.post enc Tryd.prog Tryd.f7 false true false false) := by
  refine returnsInHanded_of_change_and (C := Tryd.checked) (X := fun w _ => laidMet Tryd.prog Rows.valueRawRow.laid w) (fun _ _ _ hh h => h.of_heap hh) Tryd.own started (by kernel_rfl) Tryd.func7
    (ChangeSpec.witness_at (enc := enc) (C := Tryd.checked) (os := os) (X := fun w _ => laidMet Tryd.prog Rows.valueRawRow.laid w) false (laidWorld6 os) #[.agg #[.slice none 0 0, .slice none 0 0]] 8 rfl (by kernel_rfl) (by kernel_rfl) (by kernel_rfl) (by kernel_rfl) (by kernel_rfl) (laid_met6 os _)) ?_
  intro W base args ds gs before hval0 hW _ hsz0 hLd _
  have hval : ∀ (j : Nat) t v, Tryd.f7.params[j]? = some t → args[j]? = some v → Value.okWide Tryd.prog W .any base t v := hval0
  have hsz : (DataW.weightsEach Tryd.prog (Tryd.f7.params.toList ++ Rows.valueRawSpec.plain.varTypes Tryd.prog) (ds ++ gs)).all (· ≤ reachBytes) = true := hsz0
  have hW' := hW
  have hcb : Tabs W := tabs_of_laid hLd
  obtain ⟨p, q, hA0, hV, rfl, hfz, hnd⟩ := hW
  have hA : DataW.TrodAll enc Tryd.prog W 0 (fun _ => true) true Tryd.f7.params.toList args.toList ds p := hA0
  rw [Tryd.params7] at hA hval hsz
  obtain ⟨v0, d0, rfl, rfl, h0⟩ := trodAll_one hA
  obtain ⟨rfl, rfl⟩ := trodVars_none hV
  have k0 := h0
  have lt0 : ∀ x ∈ p, x.block < W.heap.size := by obtain ⟨m, hm⟩ := k0; exact DataW.trod_lt m _ _ _ hm
  have hwalk : Calls Tryd.prog 7 #[v0] W fun e w' => e = .returned (.bool true) ∧ Below W.heap.size W w' := by
    have hs1 : (d0.weights Tryd.prog 52).all (· ≤ reachBytes) = true := by
      have e : DataW.weightsEach Tryd.prog ([52] ++ Rows.valueRawSpec.plain.varTypes Tryd.prog) ([d0] ++ []) = d0.weights Tryd.prog 52 ++ DataW.weightsEach Tryd.prog (Rows.valueRawSpec.plain.varTypes Tryd.prog) [] := rfl
      rw [e, List.all_append, Bool.and_eq_true] at hsz
      exact hsz.1
    obtain ⟨c0, c1, y0, y1, m, rfl, hd, _, hy0, hy1⟩ := open_agg2 Tryd.underlying52 (by kernel_rfl) (show Tryd.prog.cellsOf 52 = 2 by kernel_rfl) (hval 0 52 v0 rfl rfl) h0
    subst hd
    have hs2 : (DataW.weightsEach Tryd.prog [22, 28] [y0.1, y1.1]).all (· ≤ reachBytes) = true := by
      simp only [DataW.weights, Tryd.underlying52] at hs1
      exact hs1
    obtain ⟨is, his⟩ := values_open hy0 (weight_each hs2 (j := 0) rfl rfl)
    obtain ⟨ks, hks⟩ := ssl_open hy1 (weight_each hs2 (j := 1) rfl rfl)
    exact vraw_any W c0 c1 is ks his hks hcb
  clear hA0 hval0
  refine hwalk.mono fun e W' ⟨he, bel⟩ => ?_
  subst he
  exact ⟨_, rfl, _, _, _, [], _, [], hW', trodAll_mk1 (shut_bool Tryd.underlying4 _), trodAll_mk1 (Below.trod Tryd.laidOut (by kernel_rfl) (of_decide_eq_true (by kernel_rfl)) k0 bel lt0), rfl, bel.frame _, fun h => by cases h⟩

theorem vraw_row : Rows.ValueRawSaid :=
  OpenClaim.holds_of_wide 7 Tryd.f7 rfl rfl rfl rfl rfl rfl rfl ⟨rfl, rfl, rfl, rfl, rfl⟩ rfl rfl rfl rfl rfl (by kernel_rfl) Tryd.func7 (by kernel_rfl)
    (of_decide_eq_true (by kernel_rfl)) (by unfold Func.isWrapper; first | (rw [if_pos (by decide +kernel)]; kernel_rfl) | (rw [if_neg (by decide +kernel)]; exact ⟨rfl, rfl⟩))
    (fun os started H enc _ => vraw_lifted os started H enc)

theorem vraw_holds : Rows.ValueRawCardSaid :=
  Claim7.holds_tied_plain_at .later [] [.data, .pinned] true (true, "b3ee312d3bffdb8642e2128002d5112f32414f5e6bfe2d0ec5abd38274d5102d") false
    vraw_row (fun _ h => by cases h) (by kernel_rfl) (fun _ h => by cases h) valueRaw_row_tie rfl ⟨rfl, rfl⟩ (by kernel_rfl) rfl
    (fun f fn hf hfn => by
      obtain rfl : f = 7 := Option.some.inj ((show Tryd.prog.funcNamed "trellis/trellislaw6.ValueRaw" = some 7 by kernel_rfl).symm.trans hf) |>.symm
      obtain rfl : fn = Tryd.f7 := (Option.some.inj (Tryd.func7.symm.trans hfn)).symm
      exact ⟨by kernel_rfl, fun j t ht => by
        rw [Tryd.params7] at ht
        have h3 : t = 52 := by
          rcases j with _ | j
          · simpa using ht.symm
          · simp at ht
        subst h3
        exact (show Tryd.prog.wantsStandIn 52 = false by kernel_rfl)⟩)
    (by kernel_rfl)
#print axioms vraw_holds
end
end Go.Proofs.YtibcepokeaaoiaaDoor
