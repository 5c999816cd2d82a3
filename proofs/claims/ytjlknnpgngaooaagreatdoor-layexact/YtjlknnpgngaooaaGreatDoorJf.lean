import Derived.Test.YtjlknnpgngaooaaGreatDoorJe
import Derived.Test.YtjlknnpgngaooaaGreatDoorJb
import Derived.Test.YtjlknnpgngaooaaGreatDoorJd
import Derived.Test.YtjlknnpgngaooaaGreatDoorJa
import Derived.Test.YtjlknnpgngaooaaGreatDoorJc
import Derived.BigRegion
import Derived.BigQuiet
import Derived.SliceStrings
import Derived.LaidLaws
import Derived.Handed
import Derived.Lib.LaidTab
namespace Go.Proofs.YtjlknnpgngaooaaGreatDoor
section
open Go.RowKit Go

end
section
open Go.RowKit Go

end
section
open Go.RowKit Go
/-! ### The lists and maps that are open, in memory -/
end
section
open Go.RowKit Go

end
section
open Go.RowKit Go
theorem exec_valAt {o : Oper} {a : Act} {p : Operand} {g off : Nat} {cs : Array Value} {w : World} (ho : o.op = .load 65 p) (hp : a.eval p = .pointer (some ⟨g, off, none⟩)) (hn : cs.size = 13) (hc : ∀ j u, cs[j]? = some u → w.cell? ⟨g, off + j, none⟩ = some u) : (execOp a.eval o).run Tryz.prog w = .ok (.value (.agg cs)) w := by
  unfold execOp
  have hr := load_val (w := w) g off cs hn hc
  simp only [ho, Sem.run_bind, hp, hr, Result.andThen_ok]
  rfl
end
section
open Go.RowKit Go

end
section
open Go.RowKit Go
/-! ### The machine in memory -/
end
section
open Go.RowKit Go

end
section
open Go.RowKit Go
theorem vfl_set : ∀ {L : List (Array Value)}, (∀ c ∈ L, c.size = 13) → ∀ (j : Nat) (c' : Array Value), j < L.length → c'.size = 13 → ∀ (X : List Value), (splice (vfl L ++ X) (j * 13) c'.toList).take (L.length * 13) = vfl (L.set j c')
  | [], _, j, _, h, _, _ => by simp at h
  | c :: r, hL, 0, c', _, hc, X => by
    have h1 : c.size = 13 := hL c (List.mem_cons_self ..)
    have e1 : vfl (c :: r) = c.toList ++ vfl r := by simp [vfl]
    have e2 : vfl ((c :: r).set 0 c') = c'.toList ++ vfl r := by simp [vfl]
    have h2 := vfl_len (l := r) (fun d hd => hL d (List.mem_cons_of_mem _ hd))
    rw [e1, e2]
    unfold splice
    have l1 : c.toList.length = 13 := by simpa using h1
    have l2 : c'.toList.length = 13 := by simpa using hc
    rw [Nat.zero_mul, List.take_zero, List.nil_append, Nat.zero_add, l2, List.append_assoc, List.drop_append_of_le_length (by omega), List.drop_of_length_le (by omega), List.nil_append, List.length_cons, List.take_append, l2, List.take_of_length_le (by omega)]
    congr 1
    rw [show (r.length + 1) * 13 - 13 = (vfl r).length by omega, List.take_append_of_le_length (by omega), List.take_length]
  | c :: r, hL, j + 1, c', hj, hc, X => by
    have h1 : c.size = 13 := hL c (List.mem_cons_self ..)
    have ih := vfl_set (L := r) (fun d hd => hL d (List.mem_cons_of_mem _ hd)) j c' (by simpa using hj) hc X
    have e1 : vfl (c :: r) = c.toList ++ vfl r := by simp [vfl]
    have e2 : vfl ((c :: r).set (j + 1) c') = c.toList ++ vfl (r.set j c') := by simp [vfl]
    have l1 : c.toList.length = 13 := by simpa using h1
    have l2 : c'.toList.length = 13 := by simpa using hc
    have h2 := vfl_len (l := r) (fun d hd => hL d (List.mem_cons_of_mem _ hd))
    have hsp : splice (c.toList ++ (vfl r ++ X)) ((j + 1) * 13) c'.toList = c.toList ++ splice (vfl r ++ X) (j * 13) c'.toList := by
      have hk : (j + 1) * 13 = c.toList.length + j * 13 := by omega
      unfold splice
      rw [hk, List.take_length_add_append, Nat.add_assoc, List.drop_length_add_append, List.append_assoc]
    rw [e1, e2, ← ih, List.append_assoc, hsp]
    have hk2 : (c :: r).length * 13 = c.toList.length + r.length * 13 := by rw [List.length_cons]; omega
    rw [hk2, List.take_length_add_append]
/-- One item of a row of values is written over. -/
theorem own_part {w w' : World} {B g n cap : Nat} {L : List (Array Value)} {cur : Array Value} {j : Nat} {c' : Array Value} (h : w.ownsRow B 65 13 (.slice (some ⟨g, 0, none⟩) n cap) n (vfl L)) (hL : L.length = n) (h13 : ∀ c ∈ L, c.size = 13) (hg : w.heap[g]? = some (.cells cur 65 (0, 0))) (hj : j < n) (hc : c'.size = 13)
    (hw : w'.heap[g]? = some (.cells (splice cur.toList (j * 13) c'.toList).toArray 65 (0, 0))) : w'.ownsRow B 65 13 (.slice (some ⟨g, 0, none⟩) n cap) n (vfl (L.set j c')) := by
  rcases h.2 with ⟨hv, _⟩ | ⟨g', cap', cur', hv, hb, hg', h1, h2, h3, h4⟩
  · cases hv
  injection hv with e1 e2 e3
  injection e1 with e1
  injection e1 with e1 _ _
  subst e1
  subst e3
  rw [hg'] at hg
  injection hg with hg
  injection hg with hg _ _
  subst hg
  have l13 := vfl_len h13
  have hlc : cur'.toList.length = cap * 13 := by simpa using h3
  have hcl : c'.toList.length = 13 := by simpa using hc
  have hs13 : ∀ c ∈ L.set j c', c.size = 13 := fun d hd => by
    rcases List.mem_or_eq_of_mem_set hd with e | e
    · exact h13 d e
    · rw [e]; exact hc
  refine ⟨by rw [vfl_len hs13, List.length_set, hL], .inr ⟨g, cap, _, rfl, hb, hw, h1, h2, ?_, ?_⟩⟩
  · rw [List.size_toArray, length_splice _ _ _ (by omega), hlc]
  · have e : cur'.toList = vfl L ++ cur'.toList.drop (n * 13) := by
      conv => lhs; rw [← List.take_append_drop (n * 13) cur'.toList, h4]
    rw [e, List.toList_toArray]
    have := vfl_set h13 j c' (by omega) hc (cur'.toList.drop (n * 13))
    rw [hL] at this
    exact this
end
section
open Go.RowKit Go

end
section
open Go.RowKit Go
theorem add0_8 (g j : Nat) : (⟨g, 0, none⟩ : Addr).add j = ⟨g, j, none⟩ := by rw [addr_add, Nat.zero_add]
end
section
open Go.RowKit Go
theorem wp_append_at8 {o : Oper} {a : Act} {K : Act → World → Prop} {Q : Exit → Act → World → Prop} {w : World} (s x : Operand) (t : TypeId) (ho : o.op = .call { callee := .builtin .append, args := #[s, x], argTypes := #[t, t] })
    (base : Nat) (e : TypeId) (i : TypeInfo) (z : Value) (size bytes : Nat) (ht : Tryz.prog.underlying t = some (.slice e)) (hi : Tryz.prog.info? e = some i) (hz : i.zero = some z) (hsize : i.size = size) (hby : i.bytes = bytes) (hzs : z.cells.size = size) (hsz : 0 < size)
    (v : Value) (n : Nat) (xs : List Value) (hs : a.eval s = v) (hown : w.ownsRow base e size v n xs) (ad : Addr) (m c : Nat) (news : List Value) (hx : a.eval x = .slice (some ad) m c) (hl : news.length = m * size) (hnews : ∀ j u, news[j]? = some u → w.cell? (ad.add j) = some u) (h1 : ∀ u ∈ news, u.oneCell' = true)
    (h63 : n + m ≤ maxLen) (hbytes : (n + m) * bytes ≤ 140737488355328) (hbase : base ≤ w.heap.size)
    (h : ∀ v' w', w'.ownsRow base e size v' (n + m) (xs ++ news) → w.grownBy w' v.ownBlock → (v'.ownBlock = v.ownBlock ∨ v'.ownBlock = some w.heap.size) → K (a.put o.dst v') w') : Oper.wp Tryz.prog o a w K Q := by
  obtain ⟨v', w', hr, h2, h3, _, h5⟩ := run_append_own_at (P := Tryz.prog) w base t o.type e i z size bytes ht hi hz hsize hby hzs hsz v n xs hown ad m c news hl hnews h1 h63 hbytes hbase
  unfold Oper.wp execOp
  simp only [ho, resolve, invoke, builtin, Sem.run_bind, Sem.run_pure, Result.andThen_ok, List.map_toArray, List.map_cons, List.map_nil, hs, hx, hr]
  exact h v' w' h2 h3 h5
theorem step_append_val8 {ops : Array Oper} {o : Oper} {a : Act} {K : Act → World → Prop} {Q : Exit → Act → World → Prop} {w : World} (hw : Region.wanted o (yielded ops a.tmps) = true) (s x : Operand)
    (ho : o.op = .call { callee := .builtin .append, args := #[s, x], argTypes := #[22, 22] }) (B : Nat) (v : Value) (n : Nat) (ds : List Value) (hs : a.eval s = v) (hown : w.ownsRow B 65 13 v n ds)
    (g : Nat) (c : Array Value) (h13 : one13 c) (hx : a.eval x = .slice (some ⟨g, 0, none⟩) 1 1) (hg : w.heap[g]? = some (.cells c 65 (0, 0))) (hlen : n < 1099511627) (hbase : B ≤ w.heap.size)
    (h : ∀ v' w', w'.ownsRow B 65 13 v' (n + 1) (ds ++ c.toList) → w.grownBy w' v.ownBlock → (v'.ownBlock = v.ownBlock ∨ v'.ownBlock = some w.heap.size) → K (a.put o.dst v') w') : if Region.wanted o (yielded ops a.tmps) = true then Oper.wp Tryz.prog o a w K Q else K (a.put o.dst undef) w := by
  rw [if_pos hw]
  obtain ⟨i, hi, hz0, hz1, hz2⟩ := infoV_ex
  refine wp_append_at8 s x 22 ho B 65 i _ 13 160 Tryz.underlying22 hi hz0 hz1 hz2 rfl (by decide) v n ds hs hown ⟨g, 0, none⟩ 1 1 c.toList hx (by rw [Array.length_toList, h13.1]) (fun j u hu => ?_) h13.2 (by unfold maxLen; omega) (by omega) hbase h
  rw [add0_8]
  exact blk_cell hg (by simpa using hu)
theorem step_val18 {ops : Array Oper} {o : Oper} {a : Act} {K : Act → World → Prop} {Q : Exit → Act → World → Prop} {w : World} (hw : Region.wanted o (yielded ops a.tmps) = true) {x0 : Operand} (ho : o.op = .buildSlice 22 1 #[(0, x0)]) (c : Array Value) (hc : c.size = 13) (h0 : a.eval x0 = .agg c)
    (h : K (a.put o.dst (.slice (some ⟨w.heap.size, 0, none⟩) 1 1)) (w.alloc (.cells c 65))) : if Region.wanted o (yielded ops a.tmps) = true then Oper.wp Tryz.prog o a w K Q else K (a.put o.dst undef) w := by
  rw [if_pos hw]
  obtain ⟨i, hi, hz, hs, _⟩ := infoV_ex
  refine wp_buildSlice 22 65 1 _ ho c i _ Tryz.underlying22 hi hz (by rw [hs]; decide) (by rw [hs]; decide) ?_ h
  rw [hs]
  have e : ((#[(0, x0)] : Array (Nat × Operand)).map fun (i, x) => (i, a.eval x)).toList = [(0, .agg c)] := by simp [h0]
  rw [e]
  exact fill_one c _ hc (by simp)
theorem wp_storePart8 {o : Oper} {a : Act} {K : Act → World → Prop} {Q : Exit → Act → World → Prop} {w : World} {T : TypeId} {p x : Operand} (ho : o.op = .store T p x) (g off : Nat) (cur cs : Array Value) (t : TypeId)
    (hp : a.eval p = .pointer (some ⟨g, off, none⟩)) (hx : a.eval x = .agg cs) (hg : w.heap[g]? = some (.cells cur t (0, 0))) (hi : (Tryz.prog.info? T).map (·.size) = some cs.size) (hf : off + cs.size ≤ cur.size) (h1 : ∀ v ∈ cs.toList, v.oneCell' = true)
    (h : K (a.put o.dst undef) (w.setRow g (splice cur.toList off cs.toList).toArray)) : Oper.wp Tryz.prog o a w K Q := by
  unfold Oper.wp execOp
  have hr := part_store (w := w) (T := T) (t := t) g off cur.toList cs.toList (by simpa using hg) (by simpa using hi) (by simpa using hf) h1
  simp only [Array.toArray_toList] at hr
  simp only [ho, Sem.run_bind, hp, hx, hr, Result.andThen_ok]
  exact h
theorem step_storePart8 {ops : Array Oper} {o : Oper} {a : Act} {K : Act → World → Prop} {Q : Exit → Act → World → Prop} {w : World} {T : TypeId} {p x : Operand} (hw : Region.wanted o (yielded ops a.tmps) = true) (ho : o.op = .store T p x) (g off : Nat) (cur cs : Array Value) (t : TypeId)
    (hp : a.eval p = .pointer (some ⟨g, off, none⟩)) (hx : a.eval x = .agg cs) (hg : w.heap[g]? = some (.cells cur t (0, 0))) (hi : (Tryz.prog.info? T).map (·.size) = some cs.size) (hf : off + cs.size ≤ cur.size) (h1 : ∀ v ∈ cs.toList, v.oneCell' = true)
    (h : K (a.put o.dst undef) (w.setRow g (splice cur.toList off cs.toList).toArray)) : if Region.wanted o (yielded ops a.tmps) = true then Oper.wp Tryz.prog o a w K Q else K (a.put o.dst undef) w := by
  rw [if_pos hw]
  exact wp_storePart8 ho g off cur cs t hp hx hg hi hf h1 h
end
section
open Go.RowKit Go

end
section
open Go.RowKit Go

end
section
open Go.RowKit Go

end
section
open Go.RowKit Go
theorem row_cell_comm (w : World) (g gi j : Nat) (v : Value) (r : Array Value) (h : gi ≠ g) : (w.setCell ⟨g, j, none⟩ v).setRow gi r = (w.setRow gi r).setCell ⟨g, j, none⟩ v := by
  unfold World.setRow World.setCell
  congr 1
  apply Array.ext_getElem?
  intro k
  simp only [Array.getElem?_modify]
  by_cases h1 : gi = k
  · subst h1
    simp [show ¬ g = gi from fun e => h e.symm]
  · simp [h1]
theorem zv_one8 : one13 zv := by
  refine ⟨rfl, fun u hu => ?_⟩
  simp only [zv, List.mem_cons, List.not_mem_nil, or_false] at hu
  rcases hu with rfl | rfl | rfl | rfl | rfl | rfl | rfl | rfl | rfl | rfl | rfl | rfl | rfl <;> rfl
end
section
open Go.RowKit Go

end
section
open Go.RowKit Go

end
section
open Go.RowKit Go

end
section
open Go.RowKit Go

end
section
open Go.RowKit Go

end
section
open Go.ChangeShapes Go.WideShapes Go.ChangeAt Go.RowKit Go.Deep Go.Joins Go
theorem Tryz.cellsLink : Tryz.prog.cellsOf 63 = 4 := by kernel_rfl
theorem Tryz.cells_int : Tryz.prog.cellsOf 3 = 1 := by kernel_rfl
theorem Tryz.cells_u64 : Tryz.prog.cellsOf 61 = 1 := by kernel_rfl
theorem Tryz.cells_str : Tryz.prog.cellsOf 9 = 1 := by kernel_rfl
section
variable {H : Type} {enc : TypeId × Value → H} {P : Program} {w : World} {base : Nat} {spare : Nat → Bool} {held : Bool}
end
end
section
open Go.ChangeShapes Go.WideShapes Go.ChangeAt Go.RowKit Go

end
section
open Go.ChangeShapes Go.WideShapes Go.ChangeAt Go.RowKit Go.Deep Go.Joins Go

end
section
open Go.RowKit Go

end
section
open Go.RowKit Go

end
section
open Go.RowKit Go

end
end Go.Proofs.YtjlknnpgngaooaaGreatDoor
