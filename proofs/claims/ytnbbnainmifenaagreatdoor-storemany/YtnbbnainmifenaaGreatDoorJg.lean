import Derived.Test.YtnbbnainmifenaaGreatDoorJf
import Derived.Test.YtnbbnainmifenaaGreatDoorJe
import Derived.Test.YtnbbnainmifenaaGreatDoorJa
import Derived.Sort.Defs
import Derived.Deep.LoopGhost
import Derived.Deep.DeepCutAuto
namespace Go.Proofs.YtnbbnainmifenaaGreatDoor
section
open Go.RowKit Go

end
section
open Go.RowKit Go

end
section
open Go.RowKit Go

end
section
open Go.RowKit Go

end
section
open Go.RowKit Go

end
section
open Go.RowKit Go

end
section
open Go.RowKit Go

end
section
open Go.RowKit Go

end
section
open Go.RowKit Go
theorem load_lk {w : World} (g o : Nat) (l : Lk) (hc : ∀ j u, (lcs l)[j]? = some u → w.cell? ⟨g, o + j, none⟩ = some u) : (Instr.loadAt 38 (.pointer (some ⟨g, o, none⟩))).run Tryz.prog w = .ok (.agg (lcs l)) w := by
  have hl := run_loadCells_list (P := Tryz.prog) (w := w) ⟨g, o, none⟩ (lcs l).toList (fun j v hv => by rw [addr_add]; exact hc j v (by simpa using hv))
  have hi := info61
  simp only [Instr.loadAt, Instr.sureAddr, Sem.run_bind, Sem.run_pure, Result.andThen]
  cases hq : Tryz.prog.info? 38 with
  | none => simp [hq] at hi
  | some i =>
    have hs : i.size = 4 := by simpa [hq] using hi
    have hn : (lcs l).toList.length = 4 := rfl
    rw [hn] at hl
    have ha : (isAgg 38).run Tryz.prog w = .ok true w := by
      unfold isAgg
      rw [Sem.run_bind, run_underlying Tryz.underlying38 w]
      simp
    simp [loadVar, ha, sizeOf, typeInfo, hq, hs, hl]
theorem qstep_lkAt {C : World → Prop} {ops : Array Oper} {o : Oper} {a : Act} {K : Act → Prop} {p : Operand} (hgd : Region.wanted o (yielded ops a.tmps) = true) (ho : o.op = .load 38 p) (g off : Nat) (l : Lk)
    (hp : a.eval p = .pointer (some ⟨g, off, none⟩)) (hc : ∀ w, C w → ∀ j u, (lcs l)[j]? = some u → w.cell? ⟨g, off + j, none⟩ = some u)
    (h : K (a.put o.dst (.agg (lcs l)))) : if Region.wanted o (yielded ops a.tmps) = true then o.quiet Tryz.prog a C K else K (a.put o.dst undef) := by
  rw [if_pos hgd]
  refine ⟨.agg (lcs l), fun w hC => ?_, h⟩
  unfold Oper.quietAt execOp
  simp only [ho, Sem.run_bind, hp, load_lk g off l (hc w hC), Result.andThen_ok]
  exact ⟨rfl, rfl⟩
theorem wpList_lkAt {ops : Array Oper} {rest : List Oper} {o : Oper} {a : Act} {Q : Exit → Act → World → Prop} {w : World} {p : Operand} (hgd : Region.wanted o (yielded ops a.tmps) = true) (ho : o.op = .load 38 p) (g off : Nat) (l : Lk)
    (hp : a.eval p = .pointer (some ⟨g, off, none⟩)) (hc : ∀ j u, (lcs l)[j]? = some u → w.cell? ⟨g, off + j, none⟩ = some u)
    (h : wpList Tryz.prog ops Q rest (a.put o.dst (.agg (lcs l))) w) : wpList Tryz.prog ops Q (o :: rest) a w := by
  refine wpList_wanted hgd fun K hK => ?_
  unfold Oper.wp execOp
  simp only [ho, Sem.run_bind, hp, load_lk g off l hc, Result.andThen_ok]
  exact hK _ _ h
end
section
open Go.RowKit Go
theorem swp_size {α : Type} [Inhabited α] (d : Array α) (i j : Nat) : (Sort.swp d i j).size = d.size := by simp [Sort.swp]
theorem insInner_size {α : Type} [Inhabited α] (lt : α → α → Bool) (a : Nat) : ∀ (j : Nat) (d : Array α), (Sort.insInner lt a j d).size = d.size
  | 0, d => rfl
  | j + 1, d => by
    unfold Sort.insInner
    split
    · rw [insInner_size lt a j, swp_size]
    · rfl
theorem insInner_go {α : Type} [Inhabited α] {lt : α → α → Bool} {a j : Nat} {d : Array α} (h : a < j + 1) (hl : lt d[j + 1]! d[j]! = true) : Sort.insInner lt a (j + 1) d = Sort.insInner lt a j (Sort.swp d (j + 1) j) := by
  conv => lhs; unfold Sort.insInner
  rw [if_pos (by simp [hl]; omega)]
theorem insInner_no {α : Type} [Inhabited α] {lt : α → α → Bool} {a j : Nat} {d : Array α} (h : ¬ (a < j ∧ lt d[j]! d[j - 1]! = true)) : Sort.insInner lt a j d = d := by
  cases j with
  | zero => rfl
  | succ j =>
    unfold Sort.insInner
    rw [if_neg]
    simp only [Bool.and_eq_true, decide_eq_true_eq]
    exact h
theorem ins_go9 {α : Type} [Inhabited α] {lt : α → α → Bool} {a j j' : Nat} {d : Array α} (e : j = j' + 1) (h : a < j) (hl : lt d[j]! d[j']! = true) : Sort.insInner lt a j d = Sort.insInner lt a j' (Sort.swp d j j') := by
  subst e
  exact insInner_go h hl
theorem insOuter_go {α : Type} [Inhabited α] {lt : α → α → Bool} {a b i : Nat} {d : Array α} (h : i < b) : Sort.insOuter lt a b i d = Sort.insOuter lt a b (i + 1) (Sort.insInner lt a i d) := by
  conv => lhs; unfold Sort.insOuter
  rw [if_pos h]
theorem insOuter_no {α : Type} [Inhabited α] {lt : α → α → Bool} {a b i : Nat} {d : Array α} (h : ¬ i < b) : Sort.insOuter lt a b i d = d := by
  unfold Sort.insOuter
  rw [if_neg h]
end
section
open Go.RowKit Go
section
variable {α : Type} [Inhabited α] {lt : α → α → Bool} {hi first root : Nat} {d : Array α}
theorem sift_end (h : hi ≤ 2 * root + 1) : Sort.siftDown lt hi first root d = d := by
  unfold Sort.siftDown
  rw [dif_pos h]
theorem sift_up (h : 2 * root + 2 < hi) (hl : lt d[first + (2 * root + 1)]! d[first + (2 * root + 2)]! = true) : Sort.siftDown lt hi first root d = if !lt d[first + root]! d[first + (2 * root + 2)]! then d else Sort.siftDown lt hi first (2 * root + 2) (Sort.swp d (first + root) (first + (2 * root + 2))) := by
  conv => lhs; unfold Sort.siftDown
  rw [dif_neg (by omega), if_pos (by rw [show first + (2 * root + 1) + 1 = first + (2 * root + 2) by omega, hl]; simp; omega), dif_pos (by omega)]
theorem sift_lo (h0 : ¬ hi ≤ 2 * root + 1) (h : ¬ (2 * root + 2 < hi ∧ lt d[first + (2 * root + 1)]! d[first + (2 * root + 2)]! = true)) : Sort.siftDown lt hi first root d = if !lt d[first + root]! d[first + (2 * root + 1)]! then d else Sort.siftDown lt hi first (2 * root + 1) (Sort.swp d (first + root) (first + (2 * root + 1))) := by
  conv => lhs; unfold Sort.siftDown
  rw [dif_neg (by omega), if_neg]
  rw [show first + (2 * root + 1) + 1 = first + (2 * root + 2) by omega]
  simpa using h
theorem sift_size (hi first : Nat) : ∀ (k root : Nat) (d : Array α), hi - root ≤ k → (Sort.siftDown lt hi first root d).size = d.size
  | 0, root, d, hk => by rw [sift_end (by omega)]
  | k + 1, root, d, hk => by
    by_cases h0 : hi ≤ 2 * root + 1
    · rw [sift_end h0]
    · by_cases h : 2 * root + 2 < hi ∧ lt d[first + (2 * root + 1)]! d[first + (2 * root + 2)]! = true
      · rw [sift_up h.1 h.2]
        split
        · rfl
        · rw [sift_size hi first k _ _ (by omega), swp_size]
      · rw [sift_lo h0 h]
        split
        · rfl
        · rw [sift_size hi first k _ _ (by omega), swp_size]
end
end
section
open Go.RowKit Go
theorem rev_go {α : Type} [Inhabited α] {i j : Nat} {d : Array α} (h : i < j) : Sort.reverseLoop i j d = Sort.reverseLoop (i + 1) (j - 1) (Sort.swp d i j) := by
  conv => lhs; unfold Sort.reverseLoop
  rw [if_pos h]
theorem rev_no {α : Type} [Inhabited α] {i j : Nat} {d : Array α} (h : ¬ i < j) : Sort.reverseLoop i j d = d := by
  unfold Sort.reverseLoop
  rw [if_neg h]
end
section
open Go.RowKit Go
section
variable {α : Type} [Inhabited α] {T : TypeId} {rv : Value} {gl gs : FuncId} {lt : α → α → Bool} {M : Nat} {St : World → Array α → Prop}
end
def Cnt (w : World) (cb : Nat) (s : Nat) : Prop := w.heap[cb]? = some (.cells #[.int .i64 (s : Nat)] 3 (0, 0))
end
section
open Go.RowKit Go
structure Srf {α : Type} [Inhabited α] (gl gs : FuncId) (lb sb : Array Value) (lt : α → α → Bool) (M : Nat) (St : World → Array α → Prop) : Prop where
  el : ∀ args w, (callFunc gl args).run Tryz.prog w = .ok (.enter gl args) w
  low : ∀ {w : World} {d : Array α}, St w d → M ≤ w.heap.size
  keep : ∀ {w w' : World} {d : Array α}, St w d → Below M w w' → St w' d
  less : ∀ {w : World} {d : Array α} (i j : Nat), St w d → i < d.size → j < d.size → Calls Tryz.prog gl (#[.int .i64 (i : Nat), .int .i64 (j : Nat)] ++ lb) w fun e w' => e = .returned (.bool (lt d[i]! d[j]!)) ∧ Below w.heap.size w w'
  swap : ∀ {w : World} {d : Array α} (i j : Nat), St w d → i < d.size → j < d.size → ∃ w', (callFunc gs (#[.int .i64 (i : Nat), .int .i64 (j : Nat)] ++ sb)).run Tryz.prog w = .ok (.value (.tuple #[])) w' ∧ St w' (Sort.swp d i j) ∧ Kp (fun q => q < M) w w'
def lsw (gl gs : FuncId) (lb sb : Array Value) : Array Value := #[.func (.func gl) #[] lb, .func (.func gs) #[] sb]
structure Srb {α : Type} [Inhabited α] (gl gs : FuncId) (lb sb : Array Value) (lt : α → α → Bool) (g : Nat) (St : World → Array α → Prop) : Prop where
  el : ∀ args w, (callFunc gl args).run Tryz.prog w = .ok (.enter gl args) w
  box : ∀ {w : World} {d : Array α}, St w d → w.heap[g]? = some (.cells (lsw gl gs lb sb) 120 (0, 0))
  lz : ∀ {w : World} {d : Array α}, Hid (St w d) → ∀ (i j : Nat) (x y : Int), x = (i : Int) → y = (j : Int) → i < d.size → j < d.size → Calls Tryz.prog gl (#[.int .i64 x, .int .i64 y] ++ lb) w fun e w' => e = .returned (.bool (lt d[i]! d[j]!)) ∧ Hid (St w' d)
  sz : ∀ {w : World} {d : Array α}, Hid (St w d) → ∀ (i j : Nat) (x y : Int), x = (i : Int) → y = (j : Int) → i < d.size → j < d.size → ∃ w', (callFunc gs (#[.int .i64 x, .int .i64 y] ++ sb)).run Tryz.prog w = .ok (.value (.tuple #[])) w' ∧ Hid (St w' (Sort.swp d i j))
theorem below_allocS (w : World) (o : Obj) : Below w.heap.size w (w.alloc o) := (Kp.refl (fun _ => False) w).alloc o |>.below (Nat.le_refl _) (fun _ h => h.elim)
section
variable {α : Type} [Inhabited α] {gl gs : FuncId} {lb sb : Array Value} {lt : α → α → Bool} {M g : Nat} {St : World → Array α → Prop}
theorem Srf.on (hM : Srf gl gs lb sb lt M St) {w w' : World} {d : Array α} (h : St w d) (hb : Below w.heap.size w w') : St w' d :=
  hM.keep h ((Kp.of_below (S := fun _ => False) hb).below (hM.low h) (fun _ h => h.elim))
theorem Srb.c0 (hM : Srb gl gs lb sb lt g St) {w : World} {d : Array α} (h : Hid (St w d)) : w.cell? ⟨g, 0, none⟩ = some (.func (.func gl) #[] lb) := blk_cell (j := 0) (hM.box h.out) rfl
theorem Srb.c1 (hM : Srb gl gs lb sb lt g St) {w : World} {d : Array α} (h : Hid (St w d)) : w.cell? ⟨g, 1, none⟩ = some (.func (.func gs) #[] sb) := blk_cell (j := 1) (hM.box h.out) rfl
theorem Srf.enter (hM : Srf gl gs lb sb lt M St) {w : World} {d : Array α} (h : St w d) : ∃ St2 : World → Array α → Prop, Srb gl gs lb sb lt w.heap.size St2 ∧ Srf gl gs lb sb lt (w.heap.size + 1) St2 ∧ Hid (St2 (w.alloc (.cells (lsw gl gs lb sb) 120)) d) ∧ (∀ {w' d'}, Hid (St2 w' d') → Hid (St w' d')) := by
  obtain ⟨g, hg⟩ : ∃ g, g = w.heap.size := ⟨_, rfl⟩
  have hMg : M ≤ g := hg ▸ hM.low h
  rw [← hg]
  have hf : Srf gl gs lb sb lt (g + 1) (fun w d => St w d ∧ w.heap[g]? = some (.cells (lsw gl gs lb sb) 120 (0, 0))) :=
    { el := hM.el
      low := fun h => blk_lt h.2
      keep := fun h hb => ⟨hM.keep h.1 (hb.mono (by omega)), (hb.block g (by omega)).trans h.2⟩
      less := fun i j h hi hj => hM.less i j h.1 hi hj
      swap := fun i j h hi hj => by
        obtain ⟨w', h1, h2, h3⟩ := hM.swap i j h.1 hi hj
        exact ⟨w', h1, ⟨h2, (h3.block g (blk_lt h.2) (by omega)).trans h.2⟩, h3.mono (fun q _ hq => by omega)⟩ }
  refine ⟨_, ?_, hf, ?_, fun h => h.out.1⟩
  · exact { el := hM.el
            box := fun h => h.2
            lz := fun h i j x y hx hy hi hj => by
              subst hx hy
              exact (hf.less i j h.out hi hj).mono fun _ _ ⟨he, hb⟩ => ⟨he, hf.on h.out hb⟩
            sz := fun h i j x y hx hy hi hj => by
              subst hx hy
              obtain ⟨w', h1, h2, _⟩ := hf.swap i j h.out hi hj
              exact ⟨w', h1, h2⟩ }
  · rw [hg]
    exact ⟨hM.on h (below_allocS w _), heap_alloc_new w _⟩
end
theorem upon_sz {o : Oper} {a : Act} {K : Act → World → Prop} {Q : Exit → Act → World → Prop} {r : Result Next} {S : World → Prop} (hx : ∃ w', r = .ok (.value (.tuple #[])) w' ∧ S w') (h : ∀ w', S w' → K (a.put o.dst (.tuple #[])) w') : o.upon Tryz.prog a K Q r := by
  obtain ⟨w', rfl, hs⟩ := hx
  exact h w' hs
section
variable {α : Type} [Inhabited α] {gl gs : FuncId} {lb sb : Array Value} {lt : α → α → Bool} {g : Nat} {St : World → Array α → Prop}
theorem Srb.less (hM : Srb gl gs lb sb lt g St) {w : World} {d : Array α} (i j : Nat) (h : St w d) (hi : i < d.size) (hj : j < d.size) : Calls Tryz.prog gl (#[.int .i64 (i : Nat), .int .i64 (j : Nat)] ++ lb) w fun e w' => e = .returned (.bool (lt d[i]! d[j]!)) ∧ Hid (St w' d) := hM.lz h i j _ _ rfl rfl hi hj
theorem Srb.swap (hM : Srb gl gs lb sb lt g St) {w : World} {d : Array α} (i j : Nat) (h : St w d) (hi : i < d.size) (hj : j < d.size) : ∃ w', (callFunc gs (#[.int .i64 (i : Nat), .int .i64 (j : Nat)] ++ sb)).run Tryz.prog w = .ok (.value (.tuple #[])) w' ∧ Hid (St w' (Sort.swp d i j)) := hM.sz h i j _ _ rfl rfl hi hj
end
end
section
open Go.RowKit Go
set_option maxRecDepth 1000000 in
set_option maxHeartbeats 4000000 in
theorem insertionSortF_any {α : Type} [Inhabited α] {gl gs : FuncId} {lb sb : Array Value} {lt : α → α → Bool} {M : Nat} {St : World → Array α → Prop} (hM : Srf gl gs lb sb lt M St) {w : World} {d : Array α} (h : St w d) (a b : Nat) (hb : b ≤ d.size) (hab : a ≤ b) (hsz : d.size < 4611686018427387904) : Calls Tryz.prog 96 #[.agg (lsw gl gs lb sb), .int .i64 (a : Nat), .int .i64 (b : Nat)] w fun e w' => e = .returned (.tuple #[]) ∧ Hid (St w' (Sort.insertionSort lt d a b)) := by
  obtain ⟨St2, hB, hM2, h2, hout⟩ := hM.enter h
  suffices key : Calls Tryz.prog 96 #[.agg (lsw gl gs lb sb), .int .i64 (a : Nat), .int .i64 (b : Nat)] w fun e w' => e = .returned (.tuple #[]) ∧ Hid (St2 w' (Sort.insertionSort lt d a b)) from key.mono fun _ _ h => ⟨h.1, hout h.2⟩
  clear hout hM h
  obtain ⟨LS, hLS⟩ : ∃ LS, LS = Sort.insertionSort lt d a b := ⟨_, rfl⟩
  rw [← hLS]
  have HLS : Hid (LS = Sort.insOuter lt a b (a + 1) d) := hLS
  have HM := hide hB
  have HMF := hide hM2
  have el := hB.el
  have HS := h2
  obtain ⟨n, hn⟩ : ∃ n, n = d.size := ⟨_, rfl⟩
  have HN : Hid (n = d.size ∧ b ≤ n ∧ a ≤ b ∧ n < 4611686018427387904) := ⟨hn, by omega, hab, by omega⟩
  obtain ⟨a1, ha1⟩ : ∃ a1, a1 = a + 1 := ⟨_, rfl⟩
  have k1 : (a : Int) + 1 = (a1 : Int) := by omega
  have k2 : wrap64 (a1 : Int) = (a1 : Int) := by have h1 := HN.out; unfold wrap64; omega
  have HA1 := hide ha1
  clear hB hM2 h2 hLS hb hab hsz hn ha1
  go_enter Tryz.func96, Tryz.ntmps96
  go_upto_region 1 with fail
  generalize w.alloc (.cells (lsw gl gs lb sb) 120) = w1 at *
  generalize w.heap.size = g at *
  go_wp2_with fail
  rw [k2]
  go_loopg [6] (b - a) (fun gk s6 wx => ∃ i : Nat, s6 = .int .i64 (i : Nat) ∧ Hid (∃ d' : Array α, St2 wx d' ∧ d'.size = n ∧ LS = Sort.insOuter lt a b i d' ∧ b - i ≤ gk ∧ a < i ∧ i ≤ b + 1))
  case atStart => exact ⟨a1, rfl, d, HS.out, HN.out.1.symm, by rw [HLS.out, HA1.out], by have := HA1.out; omega, by have := HA1.out; omega, by have h1 := HA1.out; have h2 := HN.out; omega⟩
  case round =>
    obtain ⟨i, rfl, hrel⟩ := hrel
    obtain ⟨d1, hs1, hd1, hl1, hg1, hai, hib⟩ := hrel.out
    by_cases hlt : i < b
    · obtain ⟨g', rfl⟩ : ∃ g', gk = g' + 1 := ⟨gk - 1, by omega⟩
      have gi : (i : Int) < (b : Int) := by omega
      have HL1 : Hid (LS = Sort.insOuter lt a b (i + 1) (Sort.insInner lt a i d1)) := by show _ = _; rw [hl1, insOuter_go hlt]
      have HX : Hid (∃ e : Array α, St2 wr e ∧ e.size = n ∧ Sort.insInner lt a i d1 = Sort.insInner lt a i e ∧ i ≤ i) := ⟨d1, hs1, hd1, rfl, Nat.le_refl _⟩
      have HB1 : Hid (b - i ≤ g' + 1 ∧ a < i ∧ i < b) := ⟨hg1, hai, hlt⟩
      obtain ⟨i2, hi2⟩ : ∃ i2, i2 = i + 1 := ⟨_, rfl⟩
      have k3 : (i : Int) + 1 = (i2 : Int) := by omega
      have k4 : wrap64 (i2 : Int) = (i2 : Int) := by have h1 := HN.out; unfold wrap64; omega
      have HI2 := hide hi2
      have HIX : Hid (b - i2 ≤ g' ∧ a < i2 ∧ i2 ≤ b + 1) := by
        clear k1 k2 k3 k4
        show _ ∧ _ ∧ _
        omega
      clear hs1 hl1 hg1 hai hib hlt hrel hi2
      go_wp2_with fail
      go_loopg [7] i (fun gj s7 wx => ∃ j : Nat, s7 = .int .i64 (j : Nat) ∧ Hid (∃ e : Array α, St2 wx e ∧ e.size = n ∧ Sort.insInner lt a i d1 = Sort.insInner lt a j e ∧ j ≤ gj ∧ j ≤ i))
      case atStart =>
        obtain ⟨e, h1, h2, h3, h4⟩ := HX.out
        exact ⟨i, rfl, e, h1, h2, h3, Nat.le_refl _, h4⟩
      case round =>
        obtain ⟨j, rfl, hrel⟩ := hrel
        obtain ⟨e, hs2, he2, hl2, hgj, hji⟩ := hrel.out
        have HS2 := hide hs2
        have HE2 : Hid (e.size = n ∧ j ≤ gk ∧ j ≤ i) := ⟨he2, hgj, hji⟩
        have HL2 := hide hl2
        clear hs2 he2 hl2 hgj hji hrel
        by_cases haj : a < j
        · have gj2 : (j : Int) > (a : Int) := by omega
          obtain ⟨j', hjj⟩ : ∃ j', j = j' + 1 := ⟨j - 1, by omega⟩
          have k5 : (j : Int) - 1 = (j' : Int) := by omega
          have k6 : wrap64 (j' : Int) = (j' : Int) := by have h1 := HN.out; have h2 := HE2.out; have h3 := HB1.out; unfold wrap64; omega
          have b1 : j < e.size := HE2.out.1 ▸ Nat.lt_of_le_of_lt HE2.out.2.2 (Nat.lt_of_lt_of_le HB1.out.2.2 HN.out.2.1)
          have b2 : j' < e.size := Nat.lt_trans (by rw [hjj]; exact Nat.lt_succ_self _) b1
          have HCL := hide (HM.out.less (d := e) j j' HS2.out b1 b2)
          have c0 := HM.out.c0 HS2
          have HAJ := hide haj
          have HBB : Hid (j < e.size ∧ j' < e.size) := ⟨b1, b2⟩
          clear b1 b2
          have HJJ := hide hjj
          have HJX : Hid (j' ≤ gk - 1 ∧ j' ≤ i ∧ gk = gk - 1 + 1) := by
            have h1 := HE2.out.2
            clear k1 k2 k3 k4 k5 k6
            show _ ∧ _ ∧ _
            omega
          clear hjj haj
          go_wp2_with fail
          refine HCL.out.mono ?_
          rintro _ w2 ⟨rfl, hs3⟩
          generalize hlv : lt e[j]! e[j']! = lv at *
          have HLV := hide hlv
          clear hlv HCL HS2
          cases lv with
          | true =>
            obtain ⟨w3, hrun, hs4⟩ := HM.out.swap (d := e) j j' hs3.out HBB.out.1 HBB.out.2
            have c1 := HM.out.c1 hs3
            clear hs3
            have HNX : Hid (∃ e' : Array α, St2 w3 e' ∧ e'.size = n ∧ Sort.insInner lt a i d1 = Sort.insInner lt a j' e' ∧ j' ≤ gk - 1 ∧ j' ≤ i) := ⟨_, hs4.out, (swp_size _ _ _).trans HE2.out.1, HL2.out.trans (ins_go9 HJJ.out HAJ.out HLV.out), HJX.out.1, HJX.out.2.1⟩
            clear hs4
            go_wp2_with fail
            go_roundg (gk - 1)
            case measure => exact Nat.lt_of_succ_le (Nat.le_of_eq HJX.out.2.2.symm)
            case rel => exact ⟨j', by first | rfl | rw [k6], HNX⟩
          | false =>
            as_aux_lemma =>
            have HE3 : Hid (Sort.insInner lt a i d1 = e) := HL2.out.trans (insInner_no (fun h => by have h1 := h.2; rw [HJJ.out, Nat.add_sub_cancel, ← HJJ.out, HLV.out] at h1; cases h1))
            have HNX : Hid (∃ d' : Array α, St2 w2 d' ∧ d'.size = n ∧ LS = Sort.insOuter lt a b i2 d' ∧ b - i2 ≤ g' ∧ a < i2 ∧ i2 ≤ b + 1) := ⟨e, hs3.out, HE2.out.1, by rw [HL1.out, HE3.out, HI2.out], HIX.out⟩
            go_wp2_with fail
            go_roundg g'
            case measure => exact Nat.lt_succ_self _
            case rel => exact ⟨i2, by first | rfl | rw [k4], HNX⟩
        · as_aux_lemma =>
          have gj2 : ¬ ((j : Int) > (a : Int)) := by omega
          have gjb : decide ((j : Int) > (a : Int)) = false := decide_eq_false gj2
          have HE3 : Hid (Sort.insInner lt a i d1 = e) := HL2.out.trans (insInner_no (fun h => haj h.1))
          have hs3 := HS2
          clear haj
          have HNX : Hid (∃ d' : Array α, St2 wr d' ∧ d'.size = n ∧ LS = Sort.insOuter lt a b i2 d' ∧ b - i2 ≤ g' ∧ a < i2 ∧ i2 ≤ b + 1) := ⟨e, hs3.out, HE2.out.1, by rw [HL1.out, HE3.out, HI2.out], HIX.out⟩
          go_wp2_with fail
          go_roundg g'
          case measure => exact Nat.lt_succ_self _
          case rel => exact ⟨i2, by first | rfl | rw [k4], HNX⟩
    · as_aux_lemma =>
      have gi : ¬ ((i : Int) < (b : Int)) := by omega
      have HE : Hid (St2 wr LS) := by show St2 _ _; rw [hl1, insOuter_no hlt]; exact hs1
      clear hs1 hl1 hg1 hai hib hlt hrel
      go_wp2_with fail
      first
        | (go_end0; exact ⟨rfl, HE⟩)
        | exact bodyPost_ret (results_none rfl _ _ _) rfl ⟨rfl, HE⟩
end
section
open Go.RowKit Go
set_option maxRecDepth 1000000 in
set_option maxHeartbeats 4000000 in
theorem siftDownF_any {α : Type} [Inhabited α] {gl gs : FuncId} {lb sb : Array Value} {lt : α → α → Bool} {M : Nat} {St : World → Array α → Prop} (hM : Srf gl gs lb sb lt M St) {w : World} {d : Array α} (h : St w d) (lo hi first : Nat) (hb : first + hi ≤ d.size) (hlo : lo ≤ hi) (hsz : d.size < 4611686018427387904) : Calls Tryz.prog 116 #[.agg (lsw gl gs lb sb), .int .i64 (lo : Nat), .int .i64 (hi : Nat), .int .i64 (first : Nat)] w fun e w' => e = .returned (.tuple #[]) ∧ Hid (St w' (Sort.siftDown lt hi first lo d)) := by
  obtain ⟨St2, hB, hM2, h2, hout⟩ := hM.enter h
  suffices key : Calls Tryz.prog 116 #[.agg (lsw gl gs lb sb), .int .i64 (lo : Nat), .int .i64 (hi : Nat), .int .i64 (first : Nat)] w fun e w' => e = .returned (.tuple #[]) ∧ Hid (St2 w' (Sort.siftDown lt hi first lo d)) from key.mono fun _ _ h => ⟨h.1, hout h.2⟩
  clear hout hM h
  obtain ⟨LS, hLS⟩ : ∃ LS, LS = Sort.siftDown lt hi first lo d := ⟨_, rfl⟩
  rw [← hLS]
  have HLS := hide hLS
  have HM := hide hB
  have HMF := hide hM2
  have el := hB.el
  have HS := h2
  have c0HS := HM.out.c0 HS
  have c1HS := HM.out.c1 HS
  obtain ⟨n, hn⟩ : ∃ n, n = d.size := ⟨_, rfl⟩
  rw [← hn] at hb hsz
  have HN := hide hn
  clear hB hM2 h2 hLS hn
  go_enter Tryz.func116, Tryz.ntmps116
  go_upto_region 1 with fail
  generalize w.alloc (.cells (lsw gl gs lb sb) 120) = w1 at *
  generalize w.heap.size = g at *
  go_wp2_with fail
  go_loopg [8] (hi - lo) (fun gk s8 wx => ∃ root : Nat, s8 = .int .i64 (root : Nat) ∧ (∃ d' : Array α, St2 wx d' ∧ d'.size = n ∧ LS = Sort.siftDown lt hi first root d' ∧ hi - root ≤ gk ∧ root ≤ hi))
  case atStart => exact ⟨lo, rfl, d, HS.out, HN.out.symm, HLS.out, Nat.le_refl _, hlo⟩
  case round =>
    obtain ⟨root, rfl, e, hs1, hd1, hl1, hg1, hrh⟩ := hrel
    have HS1 := hide hs1
    have c0HS1 := HM.out.c0 HS1
    have c1HS1 := HM.out.c1 HS1
    have HL1 := hide hl1
    clear hs1 hl1
    by_cases hce : hi ≤ 2 * root + 1
    · as_aux_lemma =>
      have ge1 : (hi : Int) ≤ 2 * (root : Int) + 1 := by omega
      have HE : Hid (St2 wr LS) := by show St2 _ _; rw [HL1.out, sift_end hce]; exact HS1.out
      clear HS1 HL1
      go_wp2_with fail
      first
        | (go_end0; exact ⟨rfl, HE⟩)
        | exact bodyPost_ret (results_none rfl _ _ _) rfl ⟨rfl, HE⟩
    have ge1 : ¬ ((hi : Int) ≤ 2 * (root : Int) + 1) := by omega
    by_cases h2 : 2 * root + 2 < hi
    · have gc2 : 2 * (root : Int) + 1 + 1 < (hi : Int) := by omega
      go_wp2_with fail
      refine (HM.out.lz HS1 (first + (2 * root + 1)) (first + (2 * root + 2)) _ _ (by omega) (by omega) (by omega) (by omega)).mono ?_
      rintro _ w2 ⟨rfl, hs2⟩
      have c0w2 := HM.out.c0 hs2
      have c1w2 := HM.out.c1 hs2
      generalize hlv : lt e[first + (2 * root + 1)]! e[first + (2 * root + 2)]! = lv at *
      have HLV := hide hlv
      clear hlv HS1
      cases lv with
      | true =>
        as_aux_lemma =>
        have HEQ := hide (HL1.out.trans (sift_up h2 HLV.out))
        clear HL1 HLV
        go_wp2_with fail
        refine (HM.out.lz hs2 (first + root) (first + (2 * root + 2)) _ _ (by omega) (by omega) (by omega) (by omega)).mono ?_
        rintro _ wU ⟨rfl, hsY⟩
        have c0wU := HM.out.c0 hsY
        have c1wU := HM.out.c1 hsY
        generalize hlv2 : lt e[first + root]! e[first + (2 * root + 2)]! = lv2 at *
        have HLV2 := hide hlv2
        clear hlv2 hs2
        cases lv2 with
        | false =>
          have HE : Hid (St2 wU LS) := by show St2 _ _; rw [HEQ.out]; exact hsY.out
          clear HEQ HLV2 hsY
          go_wp2_with fail
          first
            | (go_end0; exact ⟨rfl, HE⟩)
            | exact bodyPost_ret (results_none rfl _ _ _) rfl ⟨rfl, HE⟩
        | true =>
          have HLN : Hid (LS = Sort.siftDown lt hi first (2 * root + 2) (Sort.swp e (first + root) (first + (2 * root + 2)))) := by show _ = _; rw [HEQ.out]; rfl
          clear HEQ HLV2
          go_wp2_with fail
          refine upon_sz (HM.out.sz hsY (first + root) (first + (2 * root + 2)) _ _ (by omega) (by omega) (by omega) (by omega)) ?_
          rintro wV hsZ
          have c0wV := HM.out.c0 hsZ
          have c1wV := HM.out.c1 hsZ
          clear hsY
          go_wp2_with fail
          go_roundg (hi - (2 * root + 2))
          case measure => omega
          case rel => exact ⟨2 * root + 2, by first | rfl | go_num | (congr 1; omega), _, hsZ.out, (swp_size _ _ _).trans hd1, HLN.out, Nat.le_refl _, by omega⟩
      | false =>
        as_aux_lemma =>
        have HEQ := hide (HL1.out.trans (sift_lo hce (fun h => by rw [HLV.out] at h; cases h.2)))
        clear HL1 HLV
        go_wp2_with fail
        refine (HM.out.lz hs2 (first + root) (first + (2 * root + 1)) _ _ (by omega) (by omega) (by omega) (by omega)).mono ?_
        rintro _ wU ⟨rfl, hsY⟩
        have c0wU := HM.out.c0 hsY
        have c1wU := HM.out.c1 hsY
        generalize hlv2 : lt e[first + root]! e[first + (2 * root + 1)]! = lv2 at *
        have HLV2 := hide hlv2
        clear hlv2 hs2
        cases lv2 with
        | false =>
          have HE : Hid (St2 wU LS) := by show St2 _ _; rw [HEQ.out]; exact hsY.out
          clear HEQ HLV2 hsY
          go_wp2_with fail
          first
            | (go_end0; exact ⟨rfl, HE⟩)
            | exact bodyPost_ret (results_none rfl _ _ _) rfl ⟨rfl, HE⟩
        | true =>
          have HLN : Hid (LS = Sort.siftDown lt hi first (2 * root + 1) (Sort.swp e (first + root) (first + (2 * root + 1)))) := by show _ = _; rw [HEQ.out]; rfl
          clear HEQ HLV2
          go_wp2_with fail
          refine upon_sz (HM.out.sz hsY (first + root) (first + (2 * root + 1)) _ _ (by omega) (by omega) (by omega) (by omega)) ?_
          rintro wV hsZ
          have c0wV := HM.out.c0 hsZ
          have c1wV := HM.out.c1 hsZ
          clear hsY
          go_wp2_with fail
          go_roundg (hi - (2 * root + 1))
          case measure => omega
          case rel => exact ⟨2 * root + 1, by first | rfl | go_num | (congr 1; omega), _, hsZ.out, (swp_size _ _ _).trans hd1, HLN.out, Nat.le_refl _, by omega⟩
    · as_aux_lemma =>
      have gc2 : ¬ (2 * (root : Int) + 1 + 1 < (hi : Int)) := by omega
      have gc3 : decide (2 * (root : Int) + 1 + 1 < (hi : Int)) = false := decide_eq_false gc2
      have HEQ := hide (HL1.out.trans (sift_lo hce (fun h => h2 h.1)))
      clear HL1
      go_wp2_with fail
      refine (HM.out.lz HS1 (first + root) (first + (2 * root + 1)) _ _ (by omega) (by omega) (by omega) (by omega)).mono ?_
      rintro _ wU ⟨rfl, hsY⟩
      have c0wU := HM.out.c0 hsY
      have c1wU := HM.out.c1 hsY
      generalize hlv2 : lt e[first + root]! e[first + (2 * root + 1)]! = lv2 at *
      have HLV2 := hide hlv2
      clear hlv2 HS1
      cases lv2 with
      | false =>
        have HE : Hid (St2 wU LS) := by show St2 _ _; rw [HEQ.out]; exact hsY.out
        clear HEQ HLV2 hsY
        go_wp2_with fail
        first
          | (go_end0; exact ⟨rfl, HE⟩)
          | exact bodyPost_ret (results_none rfl _ _ _) rfl ⟨rfl, HE⟩
      | true =>
        have HLN : Hid (LS = Sort.siftDown lt hi first (2 * root + 1) (Sort.swp e (first + root) (first + (2 * root + 1)))) := by show _ = _; rw [HEQ.out]; rfl
        clear HEQ HLV2
        go_wp2_with fail
        refine upon_sz (HM.out.sz hsY (first + root) (first + (2 * root + 1)) _ _ (by omega) (by omega) (by omega) (by omega)) ?_
        rintro wV hsZ
        have c0wV := HM.out.c0 hsZ
        have c1wV := HM.out.c1 hsZ
        clear hsY
        go_wp2_with fail
        go_roundg (hi - (2 * root + 1))
        case measure => omega
        case rel => exact ⟨2 * root + 1, by first | rfl | go_num | (congr 1; omega), _, hsZ.out, (swp_size _ _ _).trans hd1, HLN.out, Nat.le_refl _, by omega⟩
end
section
open Go.RowKit Go
theorem siftDownF_z {α : Type} [Inhabited α] {gl gs : FuncId} {lb sb : Array Value} {lt : α → α → Bool} {M : Nat} {St : World → Array α → Prop} (hM : Srf gl gs lb sb lt M St) {w : World} {d : Array α} (h : Hid (St w d)) (lo hi first : Nat) (x y z : Int) (hx : x = (lo : Int)) (hy : y = (hi : Int)) (hz : z = (first : Int)) (hb : first + hi ≤ d.size) (hlo : lo ≤ hi) (hsz : d.size < 4611686018427387904) : Calls Tryz.prog 116 #[.agg (lsw gl gs lb sb), .int .i64 x, .int .i64 y, .int .i64 z] w fun e w' => e = .returned (.tuple #[]) ∧ Hid (St w' (Sort.siftDown lt hi first lo d)) := by
  subst hx hy hz
  exact siftDownF_any hM h.out lo hi first hb hlo hsz
set_option maxRecDepth 1000000 in
set_option maxHeartbeats 4000000 in
theorem heapSortF_any {α : Type} [Inhabited α] {gl gs : FuncId} {lb sb : Array Value} {lt : α → α → Bool} {M : Nat} {St : World → Array α → Prop} (hM : Srf gl gs lb sb lt M St) {w : World} {d : Array α} (h : St w d) (a b : Nat) (hab : a < b) (hb : b ≤ d.size) (hsz : d.size < 4611686018427387904) : Calls Tryz.prog 97 #[.agg (lsw gl gs lb sb), .int .i64 (a : Nat), .int .i64 (b : Nat)] w fun e w' => e = .returned (.tuple #[]) ∧ Hid (St w' (Sort.heapSort lt d a b)) := by
  obtain ⟨St2, hB, hM2, h2, hout⟩ := hM.enter h
  suffices key : Calls Tryz.prog 97 #[.agg (lsw gl gs lb sb), .int .i64 (a : Nat), .int .i64 (b : Nat)] w fun e w' => e = .returned (.tuple #[]) ∧ Hid (St2 w' (Sort.heapSort lt d a b)) from key.mono fun _ _ h => ⟨h.1, hout h.2⟩
  clear hout hM h
  obtain ⟨LS, hLS⟩ : ∃ LS, LS = Sort.heapSort lt d a b := ⟨_, rfl⟩
  rw [← hLS]
  obtain ⟨hi, hhi⟩ : ∃ hi, hi = b - a := ⟨_, rfl⟩
  obtain ⟨i0, hi0⟩ : ∃ i0, i0 = (hi - 1) / 2 := ⟨_, rfl⟩
  have HLS : Hid (LS = Sort.heapPop lt a hi (Sort.heapBuild lt hi a (i0 + 1) d)) := by show _ = _; rw [hLS, hi0, hhi]; rfl
  have HM := hide hB
  have HMF := hide hM2
  have el := hB.el
  have HS := h2
  have c0HS := HM.out.c0 HS
  have c1HS := HM.out.c1 HS
  obtain ⟨n, hn⟩ : ∃ n, n = d.size := ⟨_, rfl⟩
  rw [← hn] at hb hsz
  have HN := hide hn
  have k1 : (b : Int) - (a : Int) = (hi : Int) := by omega
  have k2 : ((hi : Int) - 1) / 2 = (i0 : Int) := by omega
  have hhb : a + hi ≤ n := by omega
  have hh0 : 1 ≤ hi := by omega
  have hih : i0 + 1 ≤ hi := by omega
  clear hB hM2 h2 hLS hn hhi hi0 hab hb
  go_enter Tryz.func97, Tryz.ntmps97
  go_upto_region 1 with fail
  generalize w.alloc (.cells (lsw gl gs lb sb) 120) = w1 at *
  generalize w.heap.size = g at *
  go_wp2_with fail
  rw [k2]
  clear k2
  go_loopg [9] (i0 + 1) (fun gk s9 wx => ∃ z : Int, s9 = .int .i64 z ∧ ∃ k : Nat, z = (k : Int) - 1 ∧ (∃ d' : Array α, St2 wx d' ∧ d'.size = n ∧ LS = Sort.heapPop lt a hi (Sort.heapBuild lt hi a k d') ∧ k ≤ gk ∧ k ≤ i0 + 1))
  case atStart => exact ⟨_, rfl, i0 + 1, by omega, d, HS.out, HN.out.symm, HLS.out, Nat.le_refl _, Nat.le_refl _⟩
  case round =>
    obtain ⟨z, rfl, k, hz, e, hs1, hd1, hl1, hg1, hk1⟩ := hrel
    have HS1 := hide hs1
    have c0HS1 := HM.out.c0 HS1
    have c1HS1 := HM.out.c1 HS1
    have HL1 := hide hl1
    clear hs1 hl1 HS HLS
    cases k with
    | zero =>
      have hz1 : z = -1 := by omega
      subst hz1
      clear hz
      have HL2 : Hid (LS = Sort.heapPop lt a hi e) := HL1
      clear HL1
      go_wp2_with fail
      go_loopg [10] hi (fun gk s10 wx => ∃ z : Int, s10 = .int .i64 z ∧ ∃ k : Nat, z = (k : Int) - 1 ∧ (∃ d' : Array α, St2 wx d' ∧ d'.size = n ∧ LS = Sort.heapPop lt a k d' ∧ k ≤ gk ∧ k ≤ hi))
      case atStart => exact ⟨_, rfl, hi, by omega, e, HS1.out, hd1, HL2.out, Nat.le_refl _, Nat.le_refl _⟩
      case round =>
        obtain ⟨z, rfl, k, hz, e2, hs2, hd2, hl2, hg2, hk2⟩ := hrel
        have HS2 := hide hs2
        have c0HS2 := HM.out.c0 HS2
        have c1HS2 := HM.out.c1 HS2
        have HL3 := hide hl2
        clear hs2 hl2 HS1 HL2
        cases k with
        | zero =>
          as_aux_lemma =>
          have hz1 : z = -1 := by omega
          subst hz1
          clear hz
          have HE : Hid (St2 wr LS) := by show St2 _ _; rw [HL3.out]; exact HS2.out
          clear HS2 HL3
          go_wp2_with fail
          first
            | (go_end0; exact ⟨rfl, HE⟩)
            | exact bodyPost_ret (results_none rfl _ _ _) rfl ⟨rfl, HE⟩
        | succ k =>
          as_aux_lemma =>
          have hz1 : z = (k : Int) := by omega
          subst hz1
          clear hz
          have gz : (k : Int) ≥ 0 := by omega
          go_wp2_with fail
          refine upon_sz (HM.out.sz HS2 a (a + k) _ _ (by omega) (by omega) (by omega) (by omega)) ?_
          rintro w2 hs3
          have c0w2 := HM.out.c0 hs3
          have c1w2 := HM.out.c1 hs3
          clear HS2
          go_wp2_with fail
          refine (siftDownF_z HMF.out hs3 0 k a _ _ _ (by omega) (by omega) (by omega) (by rw [swp_size]; omega) (by omega) (by rw [swp_size]; omega)).mono ?_
          rintro _ w3 ⟨rfl, hs4⟩
          have c0w3 := HM.out.c0 hs4
          have c1w3 := HM.out.c1 hs4
          clear hs3
          go_wp2_with fail
          go_roundg k
          case measure => omega
          case rel => exact ⟨_, rfl, k, by omega, _, hs4.out, (sift_size k a _ 0 _ (Nat.le_refl _)).trans ((swp_size _ _ _).trans hd2), HL3.out, Nat.le_refl _, by omega⟩
    | succ k =>
      as_aux_lemma =>
      have hz1 : z = (k : Int) := by omega
      subst hz1
      clear hz
      have gz : (k : Int) ≥ 0 := by omega
      go_wp2_with fail
      refine (siftDownF_z HMF.out HS1 k hi a _ _ _ (by omega) (by omega) (by omega) (by omega) (by omega) (by omega)).mono ?_
      rintro _ w3 ⟨rfl, hs4⟩
      have c0w3 := HM.out.c0 hs4
      have c1w3 := HM.out.c1 hs4
      clear HS1
      go_wp2_with fail
      go_roundg k
      case measure => omega
      case rel => exact ⟨_, rfl, k, by omega, _, hs4.out, (sift_size hi a _ k _ (Nat.le_refl _)).trans hd1, HL1.out, Nat.le_refl _, by omega⟩
set_option maxRecDepth 1000000 in
set_option maxHeartbeats 4000000 in
theorem reverseRangeF_any {α : Type} [Inhabited α] {gl gs : FuncId} {lb sb : Array Value} {lt : α → α → Bool} {M : Nat} {St : World → Array α → Prop} (hM : Srf gl gs lb sb lt M St) {w : World} {d : Array α} (h : St w d) (a b : Nat) (hab : a < b) (hb : b ≤ d.size) (hsz : d.size < 4611686018427387904) : Calls Tryz.prog 100 #[.agg (lsw gl gs lb sb), .int .i64 (a : Nat), .int .i64 (b : Nat)] w fun e w' => e = .returned (.tuple #[]) ∧ Hid (St w' (Sort.reverseRange d a b)) := by
  obtain ⟨St2, hB, hM2, h2, hout⟩ := hM.enter h
  suffices key : Calls Tryz.prog 100 #[.agg (lsw gl gs lb sb), .int .i64 (a : Nat), .int .i64 (b : Nat)] w fun e w' => e = .returned (.tuple #[]) ∧ Hid (St2 w' (Sort.reverseRange d a b)) from key.mono fun _ _ h => ⟨h.1, hout h.2⟩
  clear hout hM h
  obtain ⟨LS, hLS⟩ : ∃ LS, LS = Sort.reverseRange d a b := ⟨_, rfl⟩
  rw [← hLS]
  have HLS : Hid (LS = Sort.reverseLoop a (b - 1) d) := hLS
  have HM := hide hB
  have HMF := hide hM2
  have HS := h2
  have c0HS := HM.out.c0 HS
  have c1HS := HM.out.c1 HS
  obtain ⟨n, hn⟩ : ∃ n, n = d.size := ⟨_, rfl⟩
  rw [← hn] at hb hsz
  have HN := hide hn
  clear hB hM2 h2 hLS hn
  go_enter Tryz.func100, Tryz.ntmps100
  go_upto_region 1 with fail
  generalize w.alloc (.cells (lsw gl gs lb sb) 120) = w1 at *
  generalize w.heap.size = g at *
  go_wp2_with fail
  go_loopg [6, 7] (b - a) (fun gk s6 s7 wx => ∃ x y : Int, s6 = .int .i64 x ∧ s7 = .int .i64 y ∧ ∃ i j : Nat, x = (i : Int) ∧ y = (j : Int) ∧ (∃ d' : Array α, St2 wx d' ∧ d'.size = n ∧ LS = Sort.reverseLoop i j d' ∧ j - i ≤ gk ∧ j < n ∧ i ≤ n))
  case atStart => exact ⟨_, _, rfl, rfl, a, b - 1, by omega, by omega, d, HS.out, HN.out.symm, HLS.out, by omega, by omega, by omega⟩
  case round =>
    obtain ⟨x, y, rfl, rfl, i, j, hx, hy, e, hs1, hd1, hl1, hg1, hj1, hi1⟩ := hrel
    have HS1 := hide hs1
    have c0HS1 := HM.out.c0 HS1
    have c1HS1 := HM.out.c1 HS1
    have HL1 := hide hl1
    clear hs1 hl1 HS HLS
    subst hx hy
    by_cases hij : i < j
    · as_aux_lemma =>
      have gz : (i : Int) < (j : Int) := by omega
      go_wp2_with fail
      refine upon_sz (HM.out.sz HS1 i j _ _ (by omega) (by omega) (by omega) (by omega)) ?_
      rintro w2 hs3
      have c0w2 := HM.out.c0 hs3
      have c1w2 := HM.out.c1 hs3
      clear HS1
      go_wp2_with fail
      go_roundg (j - 1 - (i + 1))
      case measure => omega
      case rel => exact ⟨_, _, rfl, rfl, i + 1, j - 1, by omega, by omega, _, hs3.out, (swp_size _ _ _).trans hd1, HL1.out.trans (rev_go hij), Nat.le_refl _, by omega, by omega⟩
    · as_aux_lemma =>
      have gz : ¬ ((i : Int) < (j : Int)) := by omega
      have HE : Hid (St2 wr LS) := by show St2 _ _; rw [HL1.out, rev_no hij]; exact HS1.out
      clear HS1 HL1
      go_wp2_with fail
      first
        | (go_end0; exact ⟨rfl, HE⟩)
        | exact bodyPost_ret (results_none rfl _ _ _) rfl ⟨rfl, HE⟩
end
section
open Go.RowKit Go
section
variable {α : Type} [Inhabited α] {lt : α → α → Bool} {d : Array α}
theorem order2_in {a b s p q t n : Nat} (hr : Sort.order2 lt d a b s = (p, q, t)) (ha : a < n) (hb : b < n) : p < n ∧ q < n ∧ t ≤ s + 1 := by
  unfold Sort.order2 at hr
  split at hr <;> cases hr <;> exact ⟨by assumption, by assumption, by omega⟩
theorem median_of {a b c s p1 q1 s1 p2 q2 s2 p3 q3 s3 : Nat} (h1 : Sort.order2 lt d a b s = (p1, q1, s1)) (h2 : Sort.order2 lt d q1 c s1 = (p2, q2, s2)) (h3 : Sort.order2 lt d p1 p2 s2 = (p3, q3, s3)) : Sort.median lt d a b c s = (q3, s3) := by
  unfold Sort.median
  simp only [h1, h2, h3]
theorem median_in {a b c s p t n : Nat} (hr : Sort.median lt d a b c s = (p, t)) (ha : a < n) (hb : b < n) (hc : c < n) : p < n ∧ t ≤ s + 3 := by
  obtain ⟨⟨p1, q1, s1⟩, h1⟩ : ∃ r, Sort.order2 lt d a b s = r := ⟨_, rfl⟩
  obtain ⟨⟨p2, q2, s2⟩, h2⟩ : ∃ r, Sort.order2 lt d q1 c s1 = r := ⟨_, rfl⟩
  obtain ⟨⟨p3, q3, s3⟩, h3⟩ : ∃ r, Sort.order2 lt d p1 p2 s2 = r := ⟨_, rfl⟩
  rw [median_of h1 h2 h3] at hr
  cases hr
  have e1 := order2_in h1 ha hb
  have e2 := order2_in h2 e1.2.1 hc
  have e3 := order2_in h3 e1.1 e2.1
  exact ⟨e3.2.1, by omega⟩
end
section
variable {α : Type} [Inhabited α] {lt : α → α → Bool} {d : Array α}
def hnt (s : Nat) : Sort.Hint := if s = 0 then .increasing else if s = 12 then .decreasing else .unknown
def hcd : Sort.Hint → Int
  | .unknown => 0
  | .increasing => 1
  | .decreasing => 2
theorem pivot_big {a b i1 s1 j1 s2 k1 s3 p s4 : Nat} (h : 50 ≤ b - a) (hI : Sort.medianAdjacent lt d (a + (b - a) / 4) 0 = (i1, s1)) (hJ : Sort.medianAdjacent lt d (a + (b - a) / 4 * 2) s1 = (j1, s2)) (hK : Sort.medianAdjacent lt d (a + (b - a) / 4 * 3) s2 = (k1, s3)) (hm : Sort.median lt d i1 j1 k1 s3 = (p, s4)) : Sort.choosePivot lt d a b = (p, hnt s4) := by
  unfold Sort.choosePivot hnt
  simp only [Nat.mul_one, ge_iff_le, h, hI, hJ, hK, hm, if_true, show 8 ≤ b - a by omega]
theorem pivot_small {a b p s4 : Nat} (h8 : 8 ≤ b - a) (h : ¬ 50 ≤ b - a) (hm : Sort.median lt d (a + (b - a) / 4) (a + (b - a) / 4 * 2) (a + (b - a) / 4 * 3) 0 = (p, s4)) : Sort.choosePivot lt d a b = (p, hnt s4) := by
  unfold Sort.choosePivot hnt
  simp only [Nat.mul_one, ge_iff_le, h8, h, hm, if_true, if_false]
end
end
section
open Go.RowKit Go
theorem Srf.put {α : Type} [Inhabited α] {gl gs : FuncId} {lb sb : Array Value} {lt : α → α → Bool} {M : Nat} {St : World → Array α → Prop} (hM : Srf gl gs lb sb lt M St) {w : World} {d : Array α} (h : St w d) (cb : Nat) (v : Value) (hc : M ≤ cb) : St (w.setCell ⟨cb, 0, none⟩ v) d :=
  hM.keep h (((Kp.refl (fun q => q = cb) w).setCell ⟨cb, 0, none⟩ v (fun _ => rfl)).below (hM.low h) (fun k hk => by rw [hk]; exact hc))
def Bxw (gl gs : FuncId) (lb sb : Array Value) (g : Nat) (w : World) : Prop := w.heap[g]? = some (.cells (lsw gl gs lb sb) 120 (0, 0))
section
variable {gl gs : FuncId} {lb sb : Array Value} {g cb : Nat} {w w' : World}
theorem Bxw.c0 (h : Hid (Bxw gl gs lb sb g w)) : w.cell? ⟨g, 0, none⟩ = some (.func (.func gl) #[] lb) := blk_cell (j := 0) h.out rfl
theorem Bxw.c1 (h : Hid (Bxw gl gs lb sb g w)) : w.cell? ⟨g, 1, none⟩ = some (.func (.func gs) #[] sb) := blk_cell (j := 1) h.out rfl
theorem Bxw.kp (h : Bxw gl gs lb sb g w) (hk : Kp (fun q => q = cb) w w') (hg : g ≠ cb) : Bxw gl gs lb sb g w' := (hk.block g (blk_lt h) hg).trans h
end
theorem Srf.center {α : Type} [Inhabited α] {gl gs : FuncId} {lb sb : Array Value} {lt : α → α → Bool} {M : Nat} {St : World → Array α → Prop} (hM : Srf gl gs lb sb lt M St) {w : World} {d : Array α} {cb s : Nat} (h : St w d ∧ Cnt w cb s ∧ M ≤ cb) : Hid (St (w.alloc (.cells (lsw gl gs lb sb) 120)) d ∧ Cnt (w.alloc (.cells (lsw gl gs lb sb) 120)) cb s ∧ M ≤ cb) ∧ Hid (Bxw gl gs lb sb w.heap.size (w.alloc (.cells (lsw gl gs lb sb) 120))) ∧ Hid (w.heap.size ≠ cb) ∧ Hid (Kp (fun q => q = cb) w (w.alloc (.cells (lsw gl gs lb sb) 120))) := by
  obtain ⟨h1, h2, h3⟩ := h
  have hba := below_allocS w (.cells (lsw gl gs lb sb) 120)
  have hlt := blk_lt h2
  exact ⟨⟨hM.on h1 hba, (hba.block cb hlt).trans h2, h3⟩, heap_alloc_new w _, (by show _ ≠ _; omega), (Kp.refl _ w).alloc _⟩
set_option maxRecDepth 1000000 in
set_option maxHeartbeats 4000000 in
theorem order2F_any {α : Type} [Inhabited α] {gl gs : FuncId} {lb sb : Array Value} {lt : α → α → Bool} {M : Nat} {St : World → Array α → Prop} (hM : Srf gl gs lb sb lt M St) {w : World} {d : Array α} (cb s a b : Nat) (h : Hid (St w d ∧ Cnt w cb s ∧ M ≤ cb)) (r : Nat × Nat × Nat) (hr : Sort.order2 lt d a b s = r) (x y : Int) (hx : x = (a : Int)) (hy : y = (b : Int)) (ha : a < d.size) (hb : b < d.size) (hs : s < 1000) : Calls Tryz.prog 125 #[.agg (lsw gl gs lb sb), .int .i64 x, .int .i64 y, .pointer (some ⟨cb, 0, none⟩)] w fun e w' => e = .returned (.tuple #[.int .i64 (r.1 : Nat), .int .i64 (r.2.1 : Nat)]) ∧ Hid ((St w' d ∧ Cnt w' cb r.2.2 ∧ M ≤ cb) ∧ Kp (fun q => q = cb) w w') := by
  subst hx hy
  obtain ⟨HC, HB1, HG, HKA⟩ := hM.center h.out
  have HM := hide hM
  have el := hM.el
  have HL := hide (hM.less b a HC.out.1 hb ha)
  have c0 := Bxw.c0 HB1
  have HR := hide hr
  clear hM ha hb hr h HB1 HG
  go_enter Tryz.func125, Tryz.ntmps125
  go_upto_region 1 with fail
  generalize w.alloc (.cells (lsw gl gs lb sb) 120) = w1 at *
  generalize w.heap.size = g at *
  go_wp2_with fail
  refine HL.out.mono ?_
  rintro _ w2 ⟨rfl, hbl⟩
  clear HL
  obtain ⟨h1, h2, h3⟩ := HC.out
  have HS2 := hide (HM.out.on h1 hbl)
  have hc2 : w2.heap[cb]? = some (.cells #[.int .i64 (s : Nat)] 3 (0, 0)) := (hbl.block cb (blk_lt h2)).trans h2
  have HK2 : Hid (Kp (fun q => q = cb) w w2) := HKA.out.trans (Kp.of_below (S := fun _ => False) hbl) (fun _ _ h => h.elim)
  have H3 := hide h3
  clear HC h1 h2 h3 hbl HKA
  generalize hlv : lt d[b]! d[a]! = lv at *
  have HLV := hide hlv
  clear hlv
  cases lv with
  | true =>
    have er : r = (b, a, s + 1) := by rw [← HR.out]; unfold Sort.order2; rw [HLV.out]; rfl
    subst er
    have c1 := blk_cell (j := 0) (v := .int .i64 (s : Nat)) hc2 rfl
    have f1 := blk_frozen 0 hc2
    have HC2 := hide hc2
    have k1 : ((s + 1 : Nat) : Int) = (s : Int) + 1 := by omega
    clear hc2 HR HLV
    go_wp2_with fail
    have hcx := blk_set 0 (.int .i64 ((s : Int) + 1)) HC2.out
    go_ret2
    refine ⟨rfl, ⟨HM.out.put HS2.out cb _ H3.out, ?_, H3.out⟩, HK2.out.setCell ⟨cb, 0, none⟩ _ (fun _ => rfl)⟩
    unfold Cnt
    rw [k1]
    exact hcx
  | false =>
    have er : r = (a, b, s) := by rw [← HR.out]; unfold Sort.order2; rw [HLV.out]; rfl
    subst er
    have HC2 := hide hc2
    clear hc2 HR HLV
    go_wp2_with fail
    go_ret2
    exact ⟨rfl, ⟨HS2.out, HC2.out, H3.out⟩, HK2.out⟩
set_option maxRecDepth 1000000 in
set_option maxHeartbeats 4000000 in
theorem medianF_any {α : Type} [Inhabited α] {gl gs : FuncId} {lb sb : Array Value} {lt : α → α → Bool} {M : Nat} {St : World → Array α → Prop} (hM : Srf gl gs lb sb lt M St) {w : World} {d : Array α} (cb s a b c : Nat) (h : Hid (St w d ∧ Cnt w cb s ∧ M ≤ cb)) (p t : Nat) (hr : Sort.median lt d a b c s = (p, t)) (x y z : Int) (hx : x = (a : Int)) (hy : y = (b : Int)) (hz : z = (c : Int)) (ha : a < d.size) (hb : b < d.size) (hc : c < d.size) (hs : s < 900) : Calls Tryz.prog 120 #[.agg (lsw gl gs lb sb), .int .i64 x, .int .i64 y, .int .i64 z, .pointer (some ⟨cb, 0, none⟩)] w fun e w' => e = .returned (.int .i64 (p : Nat)) ∧ Hid ((St w' d ∧ Cnt w' cb t ∧ M ≤ cb) ∧ Kp (fun q => q = cb) w w') := by
  subst hx hy hz
  obtain ⟨HC1, HB1, HG, HK1⟩ := hM.center h.out
  obtain ⟨⟨p1, q1, s1⟩, h1⟩ : ∃ r, Sort.order2 lt d a b s = r := ⟨_, rfl⟩
  obtain ⟨⟨p2, q2, s2⟩, h2⟩ : ∃ r, Sort.order2 lt d q1 c s1 = r := ⟨_, rfl⟩
  obtain ⟨⟨p3, q3, s3⟩, h3⟩ : ∃ r, Sort.order2 lt d p1 p2 s2 = r := ⟨_, rfl⟩
  rw [median_of h1 h2 h3] at hr
  injection hr with hr1 hr2
  subst hr1 hr2
  have e1 := order2_in h1 ha hb
  have e2 := order2_in h2 e1.2.1 hc
  have e3 := order2_in h3 e1.1 e2.1
  have HM := hide hM
  have H1 := hide h1
  have H2 := hide h2
  have H3 := hide h3
  have c01 := Bxw.c0 HB1
  have c11 := Bxw.c1 HB1
  clear hM h1 h2 h3 h
  go_enter Tryz.func120, Tryz.ntmps120
  go_upto_region 1 with fail
  generalize w.alloc (.cells (lsw gl gs lb sb) 120) = w1 at *
  generalize w.heap.size = g at *
  go_wp2_with fail
  refine (order2F_any HM.out cb s a b HC1 _ H1.out _ _ rfl rfl ha hb (by omega)).mono ?_
  rintro _ w2 ⟨rfl, hw2⟩
  have HB2 := hide (HB1.out.kp hw2.out.2 HG.out)
  have HC2 := hide hw2.out.1
  have HK2 : Hid (Kp (fun q => q = cb) w w2) := HK1.out.trans hw2.out.2 (fun _ _ h => h)
  have c02 := Bxw.c0 HB2
  have c12 := Bxw.c1 HB2
  clear hw2 HB1 HC1 HK1
  go_wp2_with fail
  refine (order2F_any HM.out cb s1 q1 c HC2 _ H2.out _ _ rfl rfl e1.2.1 hc (by omega)).mono ?_
  rintro _ w3 ⟨rfl, hw3⟩
  have HB3 := hide (HB2.out.kp hw3.out.2 HG.out)
  have HC3 := hide hw3.out.1
  have HK3 : Hid (Kp (fun q => q = cb) w w3) := HK2.out.trans hw3.out.2 (fun _ _ h => h)
  have c03 := Bxw.c0 HB3
  have c13 := Bxw.c1 HB3
  clear hw3 HB2 HC2 HK2
  go_wp2_with fail
  refine (order2F_any HM.out cb s2 p1 p2 HC3 _ H3.out _ _ rfl rfl e1.1 e2.1 (by omega)).mono ?_
  rintro _ w4 ⟨rfl, hw4⟩
  have HB4 := hide (HB3.out.kp hw4.out.2 HG.out)
  have HC4 := hide hw4.out.1
  have HK4 : Hid (Kp (fun q => q = cb) w w4) := HK3.out.trans hw4.out.2 (fun _ _ h => h)
  have c04 := Bxw.c0 HB4
  have c14 := Bxw.c1 HB4
  clear hw4 HB3 HC3 HK3
  go_wp2_with fail
  go_ret
  exact ⟨rfl, HC4.out, HK4.out⟩
set_option maxRecDepth 1000000 in
set_option maxHeartbeats 4000000 in
theorem medianAdjacentF_any {α : Type} [Inhabited α] {gl gs : FuncId} {lb sb : Array Value} {lt : α → α → Bool} {M : Nat} {St : World → Array α → Prop} (hM : Srf gl gs lb sb lt M St) {w : World} {d : Array α} (cb s a : Nat) (h : Hid (St w d ∧ Cnt w cb s ∧ M ≤ cb)) (p t : Nat) (hr : Sort.medianAdjacent lt d a s = (p, t)) (x : Int) (hx : x = (a : Int)) (ha : 1 ≤ a) (hb : a + 1 < d.size) (hsz : d.size < 4611686018427387904) (hs : s < 900) : Calls Tryz.prog 119 #[.agg (lsw gl gs lb sb), .int .i64 x, .pointer (some ⟨cb, 0, none⟩)] w fun e w' => e = .returned (.int .i64 (p : Nat)) ∧ Hid ((St w' d ∧ Cnt w' cb t ∧ M ≤ cb) ∧ Kp (fun q => q = cb) w w') := by
  subst hx
  obtain ⟨HC1, HB1, HG, HK1⟩ := hM.center h.out
  have HM := hide hM
  have HR : Hid (Sort.median lt d (a - 1) a (a + 1) s = (p, t)) := hr
  have c01 := Bxw.c0 HB1
  have c11 := Bxw.c1 HB1
  clear hM hr h
  go_enter Tryz.func119, Tryz.ntmps119
  go_upto_region 1 with fail
  generalize w.alloc (.cells (lsw gl gs lb sb) 120) = w1 at *
  generalize w.heap.size = g at *
  go_wp2_with fail
  refine (medianF_any HM.out cb s (a - 1) a (a + 1) HC1 _ _ HR.out _ _ _ (by omega) rfl (by omega) (by omega) (by omega) (by omega) (by omega)).mono ?_
  rintro _ w2 ⟨rfl, hw2⟩
  have HB2 := hide (HB1.out.kp hw2.out.2 HG.out)
  have HC2 := hide hw2.out.1
  have HK2 : Hid (Kp (fun q => q = cb) w w2) := HK1.out.trans hw2.out.2 (fun _ _ h => h)
  have c02 := Bxw.c0 HB2
  have c12 := Bxw.c1 HB2
  clear hw2 HB1 HC1 HK1
  go_wp2_with fail
  go_ret
  exact ⟨rfl, HC2.out, HK2.out⟩
end
section
open Go.RowKit Go
section
variable {α : Type} [Inhabited α] {lt : α → α → Bool} {p : α → Bool} {d : Array α}
theorem scanUp_go {i j : Nat} (h : i ≤ j) (hp : p d[i]! = true) : Sort.scanUp p d j i = Sort.scanUp p d j (i + 1) := by
  conv => lhs; unfold Sort.scanUp
  rw [if_pos (by simp [hp, h])]
theorem scanUp_no {i j : Nat} (h : ¬ (i ≤ j ∧ p d[i]! = true)) : Sort.scanUp p d j i = i := by
  unfold Sort.scanUp
  rw [if_neg (by simpa using h)]
theorem scanDown_go {i j : Nat} (h0 : 1 ≤ j) (h : i ≤ j) (hp : p d[j]! = true) : Sort.scanDown p d i j = Sort.scanDown p d i (j - 1) := by
  cases j with
  | zero => omega
  | succ j =>
    conv => lhs; unfold Sort.scanDown
    rw [if_pos (by simp [hp, h]), Nat.add_sub_cancel]
theorem scanDown_no {i j : Nat} (h : ¬ (i ≤ j ∧ p d[j]! = true)) : Sort.scanDown p d i j = j := by
  cases j with
  | zero => rfl
  | succ j =>
    unfold Sort.scanDown
    rw [if_neg (by simpa using h)]
theorem part_brk {a i j I J : Nat} (hI : Sort.scanUp (fun x => lt x d[a]!) d j i = I) (hJ : Sort.scanDown (fun x => !lt x d[a]!) d I j = J) (h : I > J) : Sort.partLoop lt a i j d = (J, d) := by
  unfold Sort.partLoop
  simp only [hI, hJ]
  rw [if_pos h]
theorem part_on {a i j I J : Nat} (hI : Sort.scanUp (fun x => lt x d[a]!) d j i = I) (hJ : Sort.scanDown (fun x => !lt x d[a]!) d I j = J) (h : I < J) (h1 : i ≤ I) (h2 : J ≤ j) : Sort.partLoop lt a i j d = Sort.partLoop lt a (I + 1) (J - 1) (Sort.swp d I J) := by
  conv => lhs; unfold Sort.partLoop
  simp only [hI, hJ]
  rw [if_neg (by omega), dif_pos (by omega)]
theorem parte_brk {a i j I J : Nat} (hI : Sort.scanUp (fun x => !lt d[a]! x) d j i = I) (hJ : Sort.scanDown (fun x => lt d[a]! x) d I j = J) (h : I > J) : Sort.partEqLoop lt a i j d = (I, d) := by
  unfold Sort.partEqLoop
  simp only [hI, hJ]
  rw [if_pos h]
theorem parte_on {a i j I J : Nat} (hI : Sort.scanUp (fun x => !lt d[a]! x) d j i = I) (hJ : Sort.scanDown (fun x => lt d[a]! x) d I j = J) (h : I < J) (h1 : i ≤ I) (h2 : J ≤ j) : Sort.partEqLoop lt a i j d = Sort.partEqLoop lt a (I + 1) (J - 1) (Sort.swp d I J) := by
  conv => lhs; unfold Sort.partEqLoop
  simp only [hI, hJ]
  rw [if_neg (by omega), dif_pos (by omega)]
theorem part_yes {a b pv I J : Nat} (hI : Sort.scanUp (fun x => lt x (Sort.swp d a pv)[a]!) (Sort.swp d a pv) (b - 1) (a + 1) = I) (hJ : Sort.scanDown (fun x => !lt x (Sort.swp d a pv)[a]!) (Sort.swp d a pv) I (b - 1) = J) (h : I > J) : Sort.partition lt d a b pv = (J, true, Sort.swp (Sort.swp d a pv) J a) := by
  unfold Sort.partition
  simp only [hI, hJ]
  rw [if_pos h]
theorem part_no {a b pv I J : Nat} (hI : Sort.scanUp (fun x => lt x (Sort.swp d a pv)[a]!) (Sort.swp d a pv) (b - 1) (a + 1) = I) (hJ : Sort.scanDown (fun x => !lt x (Sort.swp d a pv)[a]!) (Sort.swp d a pv) I (b - 1) = J) (h : ¬ I > J) {R : Nat × Array α} (hR : Sort.partLoop lt a (I + 1) (J - 1) (Sort.swp (Sort.swp d a pv) I J) = R) : Sort.partition lt d a b pv = (R.1, false, Sort.swp R.2 R.1 a) := by
  unfold Sort.partition
  simp only [hI, hJ]
  rw [if_neg h, hR]
end
end
section
open Go.RowKit Go
theorem hnt_0 {s : Nat} (h : s = 0) : hcd (hnt s) = 1 := by subst h; rfl
theorem hnt_12 {s : Nat} (h0 : s ≠ 0) (h : s = 12) : hcd (hnt s) = 2 := by subst h; rfl
theorem hnt_no {s : Nat} (h0 : s ≠ 0) (h : s ≠ 12) : hcd (hnt s) = 0 := by
  unfold hnt
  rw [if_neg h0, if_neg h]
  rfl
end
end Go.Proofs.YtnbbnainmifenaaGreatDoor
