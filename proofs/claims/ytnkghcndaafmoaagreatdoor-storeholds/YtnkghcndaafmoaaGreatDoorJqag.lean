import Derived.Test.YtnkghcndaafmoaaGreatDoorJqaf
import Derived.Test.YtnkghcndaafmoaaGreatDoorJqx
import Derived.Test.YtnkghcndaafmoaaGreatDoorJqad
import Derived.Test.YtnkghcndaafmoaaGreatDoorJqh
import Derived.Sort.AssemblyPlain
import Derived.Test.YtnkghcndaafmoaaGreatDoorJqi
import Derived.Test.YtnkghcndaafmoaaGreatDoorSlgg
import Derived.Test.YtnkghcndaafmoaaGreatDoorJqo
import Derived.Test.YtnkghcndaafmoaaGreatDoorJqy
import Derived.Lib.ReflectliteSwap
import Derived.Laws.Externs
namespace Go.Proofs.YtnkghcndaafmoaaGreatDoor
section
open Go.RowKit Go

end
section
open Go.RowKit Go

end
section
open Go.RowKit Go
def L0 : Lk := ⟨1, 85, 18, sha []⟩
end
section
open Go.RowKit Go
theorem load_lk {w : World} (g o : Nat) (l : Lk) (hc : ∀ j u, (lcs l)[j]? = some u → w.cell? ⟨g, o + j, none⟩ = some u) : (Instr.loadAt 41 (.pointer (some ⟨g, o, none⟩))).run Tryz.prog w = .ok (.agg (lcs l)) w := by
  have hl := run_loadCells_list (P := Tryz.prog) (w := w) ⟨g, o, none⟩ (lcs l).toList (fun j v hv => by rw [addr_add]; exact hc j v (by simpa using hv))
  have hi := info61
  simp only [Instr.loadAt, Instr.sureAddr, Sem.run_bind, Sem.run_pure, Result.andThen]
  cases hq : Tryz.prog.info? 41 with
  | none => simp [hq] at hi
  | some i =>
    have hs : i.size = 4 := by simpa [hq] using hi
    have hn : (lcs l).toList.length = 4 := rfl
    rw [hn] at hl
    have ha : (isAgg 41).run Tryz.prog w = .ok true w := by
      unfold isAgg
      rw [Sem.run_bind, run_underlying Tryz.underlying41 w]
      simp
    simp [loadVar, ha, sizeOf, typeInfo, hq, hs, hl]
theorem qstep_lkAt {C : World → Prop} {ops : Array Oper} {o : Oper} {a : Act} {K : Act → Prop} {p : Operand} (hgd : Region.wanted o (yielded ops a.tmps) = true) (ho : o.op = .load 41 p) (g off : Nat) (l : Lk)
    (hp : a.eval p = .pointer (some ⟨g, off, none⟩)) (hc : ∀ w, C w → ∀ j u, (lcs l)[j]? = some u → w.cell? ⟨g, off + j, none⟩ = some u)
    (h : K (a.put o.dst (.agg (lcs l)))) : if Region.wanted o (yielded ops a.tmps) = true then o.quiet Tryz.prog a C K else K (a.put o.dst undef) := by
  rw [if_pos hgd]
  refine ⟨.agg (lcs l), fun w hC => ?_, h⟩
  unfold Oper.quietAt execOp
  simp only [ho, Sem.run_bind, hp, load_lk g off l (hc w hC), Result.andThen_ok]
  exact ⟨rfl, rfl⟩
theorem wpList_lkAt {ops : Array Oper} {rest : List Oper} {o : Oper} {a : Act} {Q : Exit → Act → World → Prop} {w : World} {p : Operand} (hgd : Region.wanted o (yielded ops a.tmps) = true) (ho : o.op = .load 41 p) (g off : Nat) (l : Lk)
    (hp : a.eval p = .pointer (some ⟨g, off, none⟩)) (hc : ∀ j u, (lcs l)[j]? = some u → w.cell? ⟨g, off + j, none⟩ = some u)
    (h : wpList Tryz.prog ops Q rest (a.put o.dst (.agg (lcs l))) w) : wpList Tryz.prog ops Q (o :: rest) a w := by
  refine wpList_wanted hgd fun K hK => ?_
  unfold Oper.wp execOp
  simp only [ho, Sem.run_bind, hp, load_lk g off l hc, Result.andThen_ok]
  exact hK _ _ h
end
section
open Go.RowKit Go
theorem perm_of_in {α : Type} [Inhabited α] {d d' : Array α} (h : Sort.PermIn 0 d.size d d') : d'.toList.Perm d.toList := by
  have h3 := h.2.2
  have e1 : d.extract 0 d.size = d := by simp
  have e2 : d'.extract 0 d.size = d' := by rw [← h.1]; simp
  rw [e1, e2] at h3
  exact h3
def Srd {α : Type} [Inhabited α] (lt : α → α → Bool) (d d' : Array α) : Prop := d'.size = d.size ∧ d'.toList.Perm d.toList ∧ Sort.SortedIn lt 0 d.size d'
theorem pdq_whole {α : Type} [Inhabited α] {lt : α → α → Bool} (hO : Sort.SWO lt) (d : Array α) (L : Nat) : Srd lt d (Sort.pdq lt d 0 d.size L true true) := by
  have h := Sort.pdq_sorts lt hO d 0 d.size L true true (Nat.zero_le _) (Nat.le_refl _) (.inl rfl)
  exact ⟨h.1.1, perm_of_in h.1, h.2⟩
end
section
open Go.RowKit Go.Lib Go
theorem pdqF_whole {α : Type} [Inhabited α] {gl gs : FuncId} {lb sb : Array Value} {lt : α → α → Bool} {M : Nat} {St : World → Array α → Prop} (hM : Srf gl gs lb sb lt M St) (hO : Sort.SWO lt) {w : World} {d : Array α} (h : Hid (St w d)) (L : Nat) (hL : L < 4611686018427387904) (hsz : d.size < 4611686018427387904) : Calls Tryz.prog 139 #[.agg (lsw gl gs lb sb), .int .i64 0, .int .i64 (d.size : Nat), .int .i64 (L : Nat)] w fun e w' => e = .returned (.tuple #[]) ∧ Hid (∃ d', St w' d' ∧ Srd lt d d') :=
  (pdqF_any (d.size + 1) M St hM w d 0 d.size L 0 _ _ h rfl rfl rfl (by omega) (Nat.zero_le _) (Nat.le_refl _) hsz hL).mono fun _ _ ⟨h1, h2⟩ => ⟨h1, _, h2.out.1, pdq_whole hO d L⟩
theorem infoLkS : ∃ i, Tryz.prog.info? 45 = some i ∧ i.desc = .slice 41 := by
  have h : (Tryz.prog.info? 45).map (fun i => i.desc) = some (.slice 41) := by kernel_rfl
  cases hi : Tryz.prog.info? 45 with
  | none => rw [hi] at h; cases h
  | some i =>
    rw [hi] at h
    injection h with h
    exact ⟨i, rfl, h⟩
theorem infoLkE : ∃ ie, Tryz.prog.info? 41 = some ie ∧ ie.hasPointers = true ∧ ie.bytes = 40 ∧ ie.size = 4 := by
  have h : (Tryz.prog.info? 41).map (fun i => (i.hasPointers, i.bytes, i.size)) = some (true, 40, 4) := by kernel_rfl
  cases hi : Tryz.prog.info? 41 with
  | none => rw [hi] at h; cases h
  | some i =>
    rw [hi] at h
    injection h with h
    injection h with h1 h2
    injection h2 with h2 h3
    exact ⟨i, rfl, h1, h2, h3⟩
theorem slice9_any {α : Type} [Inhabited α] {gl gs : FuncId} {lb sb : Array Value} {lt : α → α → Bool} {M : Nat} {St : World → Array α → Prop} (hM : Srf gl gs lb sb lt M St) (hO : Sort.SWO lt) {w : World} {d : Array α} (h : Hid (St w d)) (p : Option Addr) (c : Nat) (hsz : d.size < 4611686018427387904)
    (hs : (d.size = 0 ∧ gs = 186 ∧ sb = #[]) ∨ (d.size = 1 ∧ gs = 187 ∧ sb = #[]) ∨ (2 ≤ d.size ∧ gs = 194 ∧ sb = #[.slice p d.size c, typeHandle Tryz.prog 41])) :
    Calls Tryz.prog 72 #[.iface 45 (.slice p d.size c), .func (.func gl) #[] lb] w fun e w' => e = .returned (.tuple #[]) ∧ Hid (∃ d', St w' d' ∧ Srd lt d d') := by
  obtain ⟨i, hi, hd⟩ := infoLkS
  obtain ⟨ie, hie, hp, hb, hz⟩ := infoLkE
  have hk : Lib.swapperK d.size ie 25 = (if d.size == 0 then 1 else if d.size == 1 then 2 else 9) := by
    unfold Lib.swapperK
    simp [hp, hb]
  have hbl : sliceBound Tryz.prog 41 ie 25 p d.size c = sb := by
    unfold sliceBound
    rw [hk]
    rcases hs with ⟨h1, -, h3⟩ | ⟨h1, -, h3⟩ | ⟨h1, -, h3⟩
    · rw [h3, h1]; rfl
    · rw [h3, h1]; rfl
    · rw [h3, beq_eq_false_iff_ne.2 (show d.size ≠ 0 by omega), beq_eq_false_iff_ne.2 (show d.size ≠ 1 by omega)]; rfl
  refine Any.sort_Slice_of_pdq Tryz.laysSlice 45 41 i ie hi hd (by kernel_rfl) hie 25 (fun _ => by kernel_rfl) p d.size c hsz gs ?_ (.func gl) #[] lb w _ ?_
  · rw [hk]
    rcases hs with ⟨h1, h2, -⟩ | ⟨h1, h2, -⟩ | ⟨h1, h2, -⟩
    · rw [h1, h2]; kernel_rfl
    · rw [h1, h2]; kernel_rfl
    · rw [h2, beq_eq_false_iff_ne.2 (show d.size ≠ 0 by omega), beq_eq_false_iff_ne.2 (show d.size ≠ 1 by omega)]; kernel_rfl
  · rw [hbl]
    have hL : Lib.bitLen d.size < 4611686018427387904 := Nat.lt_of_le_of_lt (Lib.bitLen_le d.size 62 (by omega) (by omega)) (by omega)
    have h1 := hM.on h.out (below_allocS w (.cells #[.slice p d.size c] 45))
    have h2 := hM.on h1 (below_allocS _ (.cells #[.pointer (some ⟨Tryz.prog.globals.size, 45, none⟩), .pointer (some ⟨w.heap.size, 0, none⟩), .int .u64 151] (Tryz.laysSlice_ren.t 35)))
    exact pdqF_whole hM hO h2 _ hL hsz
end
section
open Go.RowKit Go
theorem links1_any (w : World) (lx blk n c : Nat) (ls : Nat → Lk) (hlx : w.heap[lx]? = some (.cells #[.slice (some ⟨blk, 0, none⟩) n c] 45 (0, 0))) (hc : ∀ i, i < n → ∀ k u, (lcs (ls i))[k]? = some u → w.cell? ⟨blk, i * 4 + k, none⟩ = some u) (hb : ∀ i, i < n → Lkb (ls i)) (i j : Nat) (hi : i < n) (hj : j < n) : Calls Tryz.prog 73 #[.int .i64 (i : Nat), .int .i64 (j : Nat), .pointer (some ⟨lx, 0, none⟩)] w fun e w' => e = .returned (.bool (llt (ls i) (ls j))) ∧ Below w.heap.size w w' := by
  have HQ0 : Hid (∀ w', (∃ t : Ext w, w' = t.w') → w'.cell? ⟨lx, 0, none⟩ = some (.slice (some ⟨blk, 0, none⟩) n c)) := fun w' ⟨t, e⟩ => by
    rw [e]
    exact keep_below t.h _ _ (blk_cell (j := 0) hlx rfl)
  have HQ1 : Hid (∀ w', (∃ t : Ext w, w' = t.w') → ∀ k u, (lcs (ls i))[k]? = some u → w'.cell? ⟨blk, i * 4 + k, none⟩ = some u) := fun w' ⟨t, e⟩ k u h => by
    rw [e]
    exact keep_below t.h _ _ (hc i hi k u h)
  have HQ2 : Hid (∀ w', (∃ t : Ext w, w' = t.w') → ∀ k u, (lcs (ls j))[k]? = some u → w'.cell? ⟨blk, j * 4 + k, none⟩ = some u) := fun w' ⟨t, e⟩ k u h => by
    rw [e]
    exact keep_below t.h _ _ (hc j hj k u h)
  have f0 : ∀ t : Ext w, t.w'.cell? ⟨lx, 0, none⟩ = some (.slice (some ⟨blk, 0, none⟩) n c) := fun t => HQ0.out _ ⟨t, rfl⟩
  have HCH : Hid (∀ t : Ext w, Calls Tryz.prog 49 #[.agg (lcs (ls i)), .agg (lcs (ls j))] t.w' fun e w'' => e = .returned (.bool (llt (ls i) (ls j))) ∧ ∃ t' : Ext w, w'' = t'.w') := fun t => Calls.ext_below (less4_any t.w' (ls i) (ls j) (hb i hi) (hb j hj))
  have gi : (i : Int) < (n : Int) := by omega
  have gj : (j : Int) < (n : Int) := by omega
  clear hlx hc hb
  generalize llt (ls i) (ls j) = R at *
  go_enter Tryz.func73, Tryz.ntmps73
  go_upto_region 1 with fail
  refine region_ext (by kernel_rfl) (by kernel_rfl) ?_
  repeat (
    with_reducible refine wpQuiet_step (fun K hK => ?_)
    first
      | (refine qstep_lkAt rfl rfl blk (i * 4) (ls i) rfl HQ1.out (hK _ ?_); clear hK K)
      | (refine qstep_lkAt rfl rfl blk (j * 4) (ls j) rfl HQ2.out (hK _ ?_); clear hK K)
      | (go_simp
         first
           | (with_reducible refine hK _ ?_; clear hK K)
           | (apply Exists.intro
              refine ⟨fun _ => ?_, hK _ ?_⟩
              (go_at_call 49; exact HCH.out _)
              clear hK K)))
  refine wpQuiet_nil ?_
  rintro _ ⟨tq, rfl⟩
  have HB := hide tq.h
  go_wp2_with fail
  go_ret
  exact ⟨rfl, HB.out⟩
end
section
open Go.RowKit Go.Lib Go
instance : Inhabited Lk := ⟨Lk.none⟩
theorem setCells_blk {b : Nat} {T : TypeId} : ∀ (vs : List Value) (o : Nat) (w : World) (cur : Array Value), w.heap[b]? = some (.cells cur T (0, 0)) → ∃ cur', (w.setCells b o vs).heap[b]? = some (.cells cur' T (0, 0)) ∧ cur'.size = cur.size ∧ (∀ q, o + vs.length ≤ cur.size → cur'[q]? = if o ≤ q ∧ q < o + vs.length then vs[q - o]? else cur[q]?) ∧ Kp (fun q => q = b) w (w.setCells b o vs)
  | [], o, w, cur, h => ⟨cur, h, rfl, fun q _ => by rw [if_neg (by simp)], Kp.refl _ _⟩
  | v :: r, o, w, cur, h => by
    obtain ⟨cur', h1, h2, h3, h4⟩ := setCells_blk r (o + 1) (w.setCell ⟨b, o, none⟩ v) _ (blk_set o v h)
    refine ⟨cur', h1, by rw [h2]; simp, fun q hq => ?_, ((Kp.refl (fun q => q = b) w).setCell ⟨b, o, none⟩ v (fun _ => rfl)).trans h4 (fun _ _ e => e)⟩
    rw [h3 q (by simp at hq ⊢; omega), Array.getElem?_setIfInBounds]
    simp only [List.length_cons] at hq ⊢
    by_cases hqo : q = o
    · subst hqo
      rw [if_neg (by omega), if_pos rfl, if_pos (by omega), if_pos (by omega)]
      simp
    · by_cases hr : o + 1 ≤ q ∧ q < o + 1 + r.length
      · rw [if_pos hr, if_pos (by omega), show q - o = (q - (o + 1)) + 1 by omega]
        rfl
      · rw [if_neg hr, if_neg (fun e => hqo e.symm), if_neg (by omega)]
theorem lcs_size (l : Lk) : (lcs l).size = 4 := rfl
theorem lcs_one (l : Lk) : ∀ v ∈ (lcs l).toList, v.oneCell' = true := by
  intro v hv
  simp only [lcs, List.mem_cons, List.not_mem_nil, or_false] at hv
  rcases hv with rfl | rfl | rfl | rfl <;> rfl
structure LkS (w0 : World) (blk lx n c : Nat) (w : World) (d : Array Lk) : Prop where
  r : ∃ cur, w.heap[blk]? = some (.cells cur 41 (0, 0)) ∧ cur.size = c * 4 ∧ ∀ i, i < n → ∀ k u, (lcs d[i]!)[k]? = some u → cur[i * 4 + k]? = some u
  nc : n ≤ c
  b : w.heap[lx]? = some (.cells #[.slice (some ⟨blk, 0, none⟩) n c] 45 (0, 0))
  k : Kp (fun q => q = blk) w0 w
  s : d.size = n
  g : ∀ i, i < n → Lkb d[i]! ∧ lok d[i]!
section
variable {w0 : World} {blk lx n c : Nat}
theorem LkS.keep {w w' : World} {d : Array Lk} (h : LkS w0 blk lx n c w d) (hbk : blk < w0.heap.size) (hlx : lx < w0.heap.size) (hb : Below w0.heap.size w w') : LkS w0 blk lx n c w' d := by
  obtain ⟨⟨cur, h1, h2, h3⟩, hc, hB, hK, hs, hg⟩ := h
  exact ⟨⟨cur, (hb.block _ hbk).trans h1, h2, h3⟩, hc, (hb.block _ hlx).trans hB, ⟨hb.os.trans hK.os, hb.tape.trans hK.tape, hb.output.trans hK.output, Nat.le_trans hK.size hb.size, fun k hk hn => (hb.block k hk).trans (hK.block k hk hn)⟩, hs, hg⟩
theorem LkS.cells {w : World} {d : Array Lk} (h : LkS w0 blk lx n c w d) : ∀ i, i < n → ∀ k u, (lcs d[i]!)[k]? = some u → w.cell? ⟨blk, i * 4 + k, none⟩ = some u := fun i hi k u hu => by
  obtain ⟨cur, h1, _, h3⟩ := h.r
  exact blk_cell h1 (h3 i hi k u hu)
theorem swp_at {d : Array Lk} {i j m : Nat} (hi : i < d.size) (hj : j < d.size) : (Sort.swp d i j)[m]! = if m = j then d[i]! else if m = i then d[j]! else d[m]! := by
  unfold Sort.swp
  by_cases h1 : m = j
  · subst h1
    rw [if_pos rfl]
    simp [getElem!_pos, hj]
  · rw [if_neg h1]
    by_cases h2 : m = i
    · subst h2
      rw [if_pos rfl]
      simp [getElem!_pos, hi, Ne.symm h1, hj]
    · rw [if_neg h2]
      simp [getElem!_def, Ne.symm h1, Ne.symm h2]
theorem LkS.swap {w : World} {d : Array Lk} (h : LkS w0 blk lx n c w d) (hne : lx ≠ blk) (i j : Nat) (hi : i < n) (hj : j < n) : LkS w0 blk lx n c ((w.setCells blk (i * 4) (lcs d[j]!).toList).setCells blk (j * 4) (lcs d[i]!).toList) (Sort.swp d i j) ∧ Kp (fun q => q = blk) w ((w.setCells blk (i * 4) (lcs d[j]!).toList).setCells blk (j * 4) (lcs d[i]!).toList) := by
  obtain ⟨⟨cur, h1, h2, h3⟩, hc, hB, hK, hs, hg⟩ := h
  obtain ⟨c1, a1, a2, a3, a4⟩ := setCells_blk (lcs d[j]!).toList (i * 4) w cur h1
  obtain ⟨c2, b1, b2, b3, b4⟩ := setCells_blk (lcs d[i]!).toList (j * 4) _ c1 a1
  have l1 : ∀ l : Lk, (lcs l).toList.length = 4 := fun _ => rfl
  simp only [l1] at a3 b3
  have hk : Kp (fun q => q = blk) w ((w.setCells blk (i * 4) (lcs d[j]!).toList).setCells blk (j * 4) (lcs d[i]!).toList) := a4.trans b4 (fun _ _ e => e)
  refine ⟨⟨⟨c2, b1, by omega, fun m hm k u hu => ?_⟩, hc, (hk.block _ (blk_lt hB) hne).trans hB, hK.trans hk (fun _ _ e => e), by rw [swp_size]; exact hs, fun m hm => ?_⟩, hk⟩
  · have hk4 : k < 4 := by
      have := (Array.getElem?_eq_some_iff.1 hu).1
      rwa [lcs_size] at this
    rw [swp_at (by omega) (by omega)] at hu
    rw [b3 _ (by omega)]
    by_cases hmj : m = j
    · subst hmj
      rw [if_pos rfl] at hu
      rw [if_pos (by omega), show m * 4 + k - m * 4 = k by omega]
      simpa using hu
    · rw [if_neg hmj] at hu
      rw [if_neg (by omega), a3 _ (by omega)]
      by_cases hmi : m = i
      · subst hmi
        rw [if_pos rfl] at hu
        rw [if_pos (by omega), show m * 4 + k - m * 4 = k by omega]
        simpa using hu
      · rw [if_neg hmi] at hu
        rw [if_neg (by omega)]
        exact h3 m hm k u hu
  · rw [swp_at (by omega) (by omega)]
    split
    · exact hg i hi
    · split
      · exact hg j hj
      · exact hg m hm
end
end
end Go.Proofs.YtnkghcndaafmoaaGreatDoor
