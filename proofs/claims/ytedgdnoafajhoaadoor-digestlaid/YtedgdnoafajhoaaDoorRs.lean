import Derived.Test.YtedgdnoafajhoaaDoorRd
import Derived.Test.YtedgdnoafajhoaaDoorRc
namespace Go.Proofs.YtedgdnoafajhoaaDoor
open Go.RowKit

set_option maxRecDepth 1000000 in
set_option maxHeartbeats 4000000 in
theorem refFirst_any (w : World) : Calls Tryd.prog 36 #[] w fun e w' => e = .returned (.agg (wv hh).toArray) ∧ Below w.heap.size w w' := by
  go_enter Tryd.func36, Tryd.ntmps36
  go_wp2
  refine bodyPost_ret (v := .agg #[.int .u32 1779033703, .int .u32 3144134277, .int .u32 1013904242, .int .u32 2773480762, .int .u32 1359893119, .int .u32 2600822924, .int .u32 528734635, .int .u32 1541459225]) ((results_one (p := 0) (ty := 92) rfl _ _ _).trans (by go_simp; first | done | rfl)) rfl ⟨by kernel_rfl, ?_⟩
  exact (Below.refl _ _).alloc (Nat.le_refl _) _

theorem pad_len (b : List Nat) : (pad b).length = b.length + 1 + zer b.length + 8 := by simp [pad, beb_len]; omega
theorem pad_mod (b : List Nat) : (pad b).length % 64 = 0 := by rw [pad_len]; have := zer_mod b.length; omega
theorem pad_byte (b : List Nat) (h : ∀ x ∈ b, x < 256) : ∀ x ∈ pad b, x < 256 := by
  intro x hx
  unfold pad at hx
  rcases List.mem_append.1 hx with hx | hx
  · rcases List.mem_append.1 hx with hx | hx
    · rcases List.mem_append.1 hx with hx | hx
      · exact h x hx
      · simp at hx; omega
    · have := List.eq_of_mem_replicate hx; omega
  · exact beb_byte _ _ _ hx
theorem cmp_lt (b : List Nat) (p : Nat) (s : List Nat) : ∀ x ∈ cmp b p s, x < 4294967296 := by
  intro x hx
  unfold cmp at hx
  obtain ⟨i, hi, e⟩ := List.mem_iff_getElem.1 hx
  rw [List.getElem_zipWith] at e
  rw [← e]
  exact Nat.mod_lt _ (by decide)
theorem abs_lt (b s : List Nat) (h : ∀ x ∈ s, x < 4294967296) : ∀ n, ∀ x ∈ abs b s n, x < 4294967296
  | 0, x, hx => h x hx
  | _ + 1, x, hx => cmp_lt _ _ _ x hx
theorem hh_lt : ∀ x ∈ hh, x < 4294967296 := by decide

/-! ### Whole rows -/
theorem row_same {w : World} {g : Nat} {old cs : Array Value} {t : TypeId} (h : w.heap[g]? = some (.cells old t (0, 0))) : (w.setRow g cs).heap[g]? = some (.cells cs t (0, 0)) := by
  simp [World.setRow, Array.getElem?_modify, h]
theorem row_other {w : World} {g k : Nat} {cs : Array Value} (h : k ≠ g) : (w.setRow g cs).heap[k]? = w.heap[k]? := by
  have h' : ¬ g = k := fun e => h e.symm
  simp [World.setRow, Array.getElem?_modify, h']
theorem row_kp (w : World) (g : Nat) (cs : Array Value) : Kp (fun q => q = g) w (w.setRow g cs) :=
  ⟨rfl, rfl, rfl, by simp [World.setRow], fun _ _ h => row_other h⟩
theorem row_load {w : World} {g n : Nat} {cs : Array Value} {t : TypeId} (h : w.heap[g]? = some (.cells cs t (0, 0))) (hn : cs.size = n) : Sem.run Tryd.prog (loadCellsFrom ⟨g, 0, none⟩ 0 n #[]) w = .ok cs w := by
  subst hn
  have := run_loadCells_list (P := Tryd.prog) (w := w) ⟨g, 0, none⟩ cs.toList (fun j v hv => by
    have hadd : (⟨g, 0, none⟩ : Addr).add j = ⟨g, j, none⟩ := by unfold Addr.add; split <;> simp_all
    rw [hadd]
    exact blk_cell h (by simpa using hv))
  simpa [loadCells] using this
theorem row_store {w : World} {g : Nat} {old cs : Array Value} {t : TypeId} (h : w.heap[g]? = some (.cells old t (0, 0))) (hn : cs.size = old.size) (h1 : ∀ v ∈ cs.toList, v.oneCell' = true) : Sem.run Tryd.prog (storeCells ⟨g, 0, none⟩ cs.toList) w = .ok () (w.setRow g cs) := by
  have := run_storeCells_from (P := Tryd.prog) g t cs.toList 0 old w h (by simp; omega) h1
  simpa using this
/-- A whole array out of its block, by value. -/
theorem wpList_loadRow {ops : Array Oper} {rest : List Oper} {o : Oper} {a : Act} {Q : Exit → Act → World → Prop} {w : World} {T e : TypeId} {p : Operand} (hgd : o.guard = none) (ho : o.op = .load T p) (g n : Nat) (cs : Array Value) (t : TypeId)
    (hp : a.eval p = .pointer (some ⟨g, 0, none⟩)) (hg : w.heap[g]? = some (.cells cs t (0, 0))) (hu : Tryd.prog.underlying T = some (.array n e)) (hi : (Tryd.prog.info? T).map (·.size) = some cs.size)
    (h : wpList Tryd.prog ops Q rest (a.put o.dst (.agg cs)) w) : wpList Tryd.prog ops Q (o :: rest) a w := by
  refine wpList_plain hgd fun K hK => ?_
  unfold Oper.wp execOp
  have hr : (Instr.loadAt T (.pointer (some ⟨g, 0, none⟩))).run Tryd.prog w = .ok (.agg cs) w := by
    simp only [Instr.loadAt, Instr.sureAddr, Sem.run_bind, Sem.run_pure, Result.andThen]
    exact run_loadVar_row (P := Tryd.prog) w g t T cs (0, 0) _ hg hu rfl hi
  simp only [ho, Sem.run_bind, hp, hr, Result.andThen_ok]
  exact hK _ _ h
theorem wpList_storeRow {ops : Array Oper} {rest : List Oper} {o : Oper} {a : Act} {Q : Exit → Act → World → Prop} {w : World} {T : TypeId} {p x : Operand} (hgd : o.guard = none) (ho : o.op = .store T p x) (g : Nat) (old cs : Array Value) (t : TypeId)
    (hp : a.eval p = .pointer (some ⟨g, 0, none⟩)) (hx : a.eval x = .agg cs) (hg : w.heap[g]? = some (.cells old t (0, 0))) (hi : (Tryd.prog.info? T).map (·.size) = some cs.size) (hn : old.size = cs.size) (h1 : cs.all (·.oneCell') = true)
    (h : wpList Tryd.prog ops Q rest (a.put o.dst undef) (w.setRow g cs)) : wpList Tryd.prog ops Q (o :: rest) a w := by
  refine wpList_plain hgd fun K hK => ?_
  unfold Oper.wp execOp
  have hr : (Instr.storeAt T (.pointer (some ⟨g, 0, none⟩)) (.agg cs)).run Tryd.prog w = .ok () (w.setRow g cs) := by
    simp only [Instr.storeAt, Instr.sureAddr, Sem.run_bind, Sem.run_pure, Result.andThen]
    exact run_storeVar_row (P := Tryd.prog) w g t T old cs hg hi hn h1
  simp only [ho, Sem.run_bind, hp, hx, hr, Result.andThen_ok]
  exact hK _ _ h
theorem wv_one (l : List Nat) : ∀ v ∈ wv l, v.oneCell' = true := by
  intro v hv
  simp [wv] at hv
  obtain ⟨x, _, rfl⟩ := hv
  rfl
theorem z32_lit : (bv (List.replicate 32 0)).toArray = #[.int .u8 0, .int .u8 0, .int .u8 0, .int .u8 0, .int .u8 0, .int .u8 0, .int .u8 0, .int .u8 0, .int .u8 0, .int .u8 0, .int .u8 0, .int .u8 0, .int .u8 0, .int .u8 0, .int .u8 0, .int .u8 0, .int .u8 0, .int .u8 0, .int .u8 0, .int .u8 0, .int .u8 0, .int .u8 0, .int .u8 0, .int .u8 0, .int .u8 0, .int .u8 0, .int .u8 0, .int .u8 0, .int .u8 0, .int .u8 0, .int .u8 0, .int .u8 0] := by kernel_rfl
theorem info8 : (Tryd.prog.info? 92).map (·.size) = some (wv hh).toArray.size := by kernel_rfl
theorem info32 : (Tryd.prog.info? 28).map (·.size) = some 32 := by kernel_rfl
theorem store_hh (w : World) : Sem.run Tryd.prog (storeCells ⟨w.heap.size, 0, none⟩ (wv hh)) (w.alloc (.cells #[.int .u32 0, .int .u32 0, .int .u32 0, .int .u32 0, .int .u32 0, .int .u32 0, .int .u32 0, .int .u32 0] 92)) = .ok () (w.alloc (.cells (wv hh).toArray 92)) := by
  have h := run_storeCells_new (P := Tryd.prog) w 92 #[.int .u32 0, .int .u32 0, .int .u32 0, .int .u32 0, .int .u32 0, .int .u32 0, .int .u32 0, .int .u32 0] (wv hh).toArray info8 (by kernel_rfl) (by kernel_rfl)
  exact h

theorem outb_len (s : List Nat) (h : s.length = 8) : (outb s).length = 32 := by
  match s, h with
  | [_, _, _, _, _, _, _, _], _ => rfl
theorem out_set (l : List Nat) (hl : l.length = 32) (j : Nat) (hj : j < 32) : (bv (l.take j ++ List.replicate (32 - j) 0)).toArray.setIfInBounds j (.int .u8 ((l.getD j 0 : Nat) : Int)) = (bv (l.take (j + 1) ++ List.replicate (32 - (j + 1)) 0)).toArray := by
  have e : 32 - j = (32 - (j + 1)) + 1 := by omega
  rw [List.setIfInBounds_toArray, e, List.replicate_succ, take_snoc3 l j (by omega)]
  congr 1
  simp only [bv, List.map_append, List.map_cons]
  rw [List.set_append_right _ _ (by simp [hl]; omega)]
  simp [hl, Nat.min_eq_left (Nat.le_of_lt hj)]
theorem outb_byte (s : List Nat) : ∀ x ∈ outb s, x < 256 := by
  intro x hx
  unfold outb at hx
  obtain ⟨y, _, hy⟩ := List.mem_flatMap.1 hx
  exact beb_byte _ _ _ hy
theorem outb_get (s : List Nat) (h : s.length = 8) (j : Nat) (hj : j < 32) : (outb s).getD j 0 = s.getD (j / 4) 0 / 256 ^ (3 - j % 4) % 256 := by
  match s, h with
  | [_, _, _, _, _, _, _, _], _ =>
    rcases (by omega : j = 0 ∨ j = 1 ∨ j = 2 ∨ j = 3 ∨ j = 4 ∨ j = 5 ∨ j = 6 ∨ j = 7 ∨ j = 8 ∨ j = 9 ∨ j = 10 ∨ j = 11 ∨ j = 12 ∨ j = 13 ∨ j = 14 ∨ j = 15 ∨ j = 16 ∨ j = 17 ∨ j = 18 ∨ j = 19 ∨ j = 20 ∨ j = 21 ∨ j = 22 ∨ j = 23 ∨ j = 24 ∨ j = 25 ∨ j = 26 ∨ j = 27 ∨ j = 28 ∨ j = 29 ∨ j = 30 ∨ j = 31) with rfl | rfl | rfl | rfl | rfl | rfl | rfl | rfl | rfl | rfl | rfl | rfl | rfl | rfl | rfl | rfl | rfl | rfl | rfl | rfl | rfl | rfl | rfl | rfl | rfl | rfl | rfl | rfl | rfl | rfl | rfl | rfl <;> rfl

set_option maxRecDepth 1000000 in
set_option maxHeartbeats 4000000 in
theorem refSum_any (w : World) (v : Value) (xs : List Nat) (hsl : BSl w v xs) (hlen : xs.length ≤ 140737488351232) :
    Calls Tryd.prog 10 #[v] w fun e w' => e = .returned (.agg (bv (sha xs)).toArray) ∧ Below w.heap.size w w' := by
  have HSL := hide hsl
  have HL := hide hlen
  clear hsl hlen
  have HR0 : Hid ((w.alloc (.cells #[.int .u8 0, .int .u8 0, .int .u8 0, .int .u8 0, .int .u8 0, .int .u8 0, .int .u8 0, .int .u8 0, .int .u8 0, .int .u8 0, .int .u8 0, .int .u8 0, .int .u8 0, .int .u8 0, .int .u8 0, .int .u8 0, .int .u8 0, .int .u8 0, .int .u8 0, .int .u8 0, .int .u8 0, .int .u8 0, .int .u8 0, .int .u8 0, .int .u8 0, .int .u8 0, .int .u8 0, .int .u8 0, .int .u8 0, .int .u8 0, .int .u8 0, .int .u8 0] 28)).heap[w.heap.size]? = some (.cells (bv (List.replicate 32 0)).toArray 28 (0, 0))) := by
    rw [← z32_lit]; exact heap_alloc_new w _
  have HB0 : Hid (Below w.heap.size w (w.alloc (.cells #[.int .u8 0, .int .u8 0, .int .u8 0, .int .u8 0, .int .u8 0, .int .u8 0, .int .u8 0, .int .u8 0, .int .u8 0, .int .u8 0, .int .u8 0, .int .u8 0, .int .u8 0, .int .u8 0, .int .u8 0, .int .u8 0, .int .u8 0, .int .u8 0, .int .u8 0, .int .u8 0, .int .u8 0, .int .u8 0, .int .u8 0, .int .u8 0, .int .u8 0, .int .u8 0, .int .u8 0, .int .u8 0, .int .u8 0, .int .u8 0, .int .u8 0, .int .u8 0] 28))) := (Below.refl _ _).alloc (Nat.le_refl _) _
  go_enter Tryd.func10, Tryd.ntmps10
  go_wp2_with fail
  generalize w.alloc (.cells #[.int .u8 0, .int .u8 0, .int .u8 0, .int .u8 0, .int .u8 0, .int .u8 0, .int .u8 0, .int .u8 0, .int .u8 0, .int .u8 0, .int .u8 0, .int .u8 0, .int .u8 0, .int .u8 0, .int .u8 0, .int .u8 0, .int .u8 0, .int .u8 0, .int .u8 0, .int .u8 0, .int .u8 0, .int .u8 0, .int .u8 0, .int .u8 0, .int .u8 0, .int .u8 0, .int .u8 0, .int .u8 0, .int .u8 0, .int .u8 0, .int .u8 0, .int .u8 0] 28) = w0 at *
  refine (refFirst_any _).mono ?_
  rintro e w1 ⟨rfl, hb1⟩
  generalize hRR : w.heap.size = R at *
  have HRR := hide hRR
  clear hRR
  have HR1 := hide ((hb1.block R (blk_lt HR0.out)).trans HR0.out)
  have HB1 : Hid (Below R w w1) := HB0.out.trans (hb1.mono (by have := HB0.out.size; have := HRR.out; omega))
  clear hb1 HR0 HB0
  have hst := store_hh w1
  have hhl : (wv hh).length = 8 := by kernel_rfl
  go_wp2_with fail
  have HS2 : Hid ((w1.alloc (.cells (wv hh).toArray 92)).heap[w1.heap.size]? = some (.cells (wv hh).toArray 92 (0, 0))) := heap_alloc_new w1 _
  have HR2 := hide (blk_alloc (.cells (wv hh).toArray 92) HR1.out)
  have hRS : R < w1.heap.size := blk_lt HR1.out
  have HB2 : Hid (Below R w (w1.alloc (.cells (wv hh).toArray 92))) := HB1.out.alloc (by omega) _
  clear hst hhl
  generalize w1.alloc (.cells (wv hh).toArray 92) = w2 at *
  generalize w1.heap.size = S at *
  refine (lengthened_any _ v xs (HSL.out.move (keep_below (by rw [HRR.out]; exact HB2.out))) HL.out).mono ?_
  rintro e w3 ⟨vl, rfl, ho3, hb3⟩
  have HP3 := hide (BSl.own ho3 (pad_byte xs HSL.out.byte))
  have HPO : Hid (∀ q, vl.ownBlock = some q → w2.heap.size ≤ q) := fun q hq => (ho3.lt q hq).1
  have HS3 := hide ((hb3.block S (blk_lt HS2.out)).trans HS2.out)
  have HR3 := hide ((hb3.block R (blk_lt HR2.out)).trans HR2.out)
  have HB3 : Hid (Below R w w3) := HB2.out.trans (hb3.mono (by have := HB2.out.size; have := HRR.out; omega))
  have HS2l : Hid (S < w2.heap.size) := blk_lt HS2.out
  have HZ3 : Hid (w2.heap.size ≤ w3.heap.size) := hb3.size
  obtain ⟨al, cl, hv, hv1, hv2, hv3⟩ := own_form ho3
  subst hv
  clear ho3 hb3 hv1 hv2 hv3 HS2 HR2 HB2 HR1 HB1
  have hpm := pad_mod xs
  have hpl := pad_len xs
  have hpx : (pad xs).length ≤ 140737488355328 := by have := HL.out; have := zer_lt xs.length; omega
  have HPX := hide hpx
  have HSH : Hid (sha xs = outb (abs (pad xs) hh ((pad xs).length / 64))) := rfl
  clear hpl hpx
  generalize pad xs = PP at *
  go_wp2
  go_loopw [5] (fun aa wx => ∃ n : Nat, 64 * n ≤ PP.length ∧ aa = .int .i64 (64 * (n : Int)) ∧ Hid (wx.heap[S]? = some (.cells (wv (abs PP hh n)).toArray 92 (0, 0))) ∧ Hid (wx.heap[R]? = some (.cells (bv (List.replicate 32 0)).toArray 28 (0, 0))) ∧ Hid (BSl wx (.slice al PP.length cl) PP) ∧ Hid (Below R w wx) ∧ Hid (w2.heap.size ≤ wx.heap.size)) (fun aa _ => PP.length - (intOf aa).toNat)
  case atStart => exact ⟨0, by omega, by simp, HS3, HR3, HP3, HB3, HZ3⟩
  case round =>
    obtain ⟨n, hn, rfl, HS4, HR4, HP4, HB4, HZ4⟩ := hrel
    clear HS3 HR3 HP3 HB3 HZ3
    have HAL := hide (abs_len PP hh rfl n)
    by_cases hlt : 64 * n < PP.length
    · have hlt' : 64 * (n : Int) < (PP.length : Int) := by omega
      have HAB := hide (abs_lt PP hh hh_lt n)
      have HST : Hid (abs PP hh (n + 1) = cmp PP (64 * n) (abs PP hh n)) := rfl
      have HCL := hide (cmp_len PP (64 * n) (abs PP hh n) HAL.out)
      obtain ⟨a0, a1, a2, a3, a4, a5, a6, a7, haa⟩ := eight (abs PP hh n) HAL.out
      have q0 : wr.cell? ⟨S, 0, none⟩ = some (.int .u32 (a0 : Nat)) := blk_cell HS4.out (by rw [haa]; rfl)
      have q1 : wr.cell? ⟨S, 1, none⟩ = some (.int .u32 (a1 : Nat)) := blk_cell HS4.out (by rw [haa]; rfl)
      have q2 : wr.cell? ⟨S, 2, none⟩ = some (.int .u32 (a2 : Nat)) := blk_cell HS4.out (by rw [haa]; rfl)
      have q3 : wr.cell? ⟨S, 3, none⟩ = some (.int .u32 (a3 : Nat)) := blk_cell HS4.out (by rw [haa]; rfl)
      have q4 : wr.cell? ⟨S, 4, none⟩ = some (.int .u32 (a4 : Nat)) := blk_cell HS4.out (by rw [haa]; rfl)
      have q5 : wr.cell? ⟨S, 5, none⟩ = some (.int .u32 (a5 : Nat)) := blk_cell HS4.out (by rw [haa]; rfl)
      have q6 : wr.cell? ⟨S, 6, none⟩ = some (.int .u32 (a6 : Nat)) := blk_cell HS4.out (by rw [haa]; rfl)
      have q7 : wr.cell? ⟨S, 7, none⟩ = some (.int .u32 (a7 : Nat)) := blk_cell HS4.out (by rw [haa]; rfl)
      have HAA := hide haa
      clear haa
      go_wp2_with fail
      have hat : 64 * (n : Int) = ((64 * n : Nat) : Int) := by omega
      rw [hat]
      have hlit : #[Value.int .u32 (a0 : Nat), .int .u32 (a1 : Nat), .int .u32 (a2 : Nat), .int .u32 (a3 : Nat), .int .u32 (a4 : Nat), .int .u32 (a5 : Nat), .int .u32 (a6 : Nat), .int .u32 (a7 : Nat)] = (wv (abs PP hh n)).toArray := by rw [HAA.out]; rfl
      rw [hlit]
      clear hat hlit q0 q1 q2 q3 q4 q5 q6 q7
      refine (refRounds_any _ _ PP (abs PP hh n) (64 * n) HP4.out (by omega) HAL.out HAB.out).mono ?_
      rintro e w5 ⟨rfl, hb5⟩
      have HS5 := hide ((hb5.block S (blk_lt HS4.out)).trans HS4.out)
      have HR5 := hide ((hb5.block R (blk_lt HR4.out)).trans HR4.out)
      have HP5 := hide (HP4.out.move (keep_below hb5))
      have HB5 : Hid (Below R w w5) := HB4.out.trans (hb5.mono (by have := HB4.out.size; have := HRR.out; omega))
      have HZ5 : Hid (w2.heap.size ≤ w5.heap.size) := Nat.le_trans HZ4.out hb5.size
      clear hb5
      rw [← HST.out]
      have HCL' : Hid ((abs PP hh (n + 1)).length = 8) := abs_len PP hh rfl (n + 1)
      have hst : Sem.run Tryd.prog (storeCells ⟨S, 0, none⟩ (wv (abs PP hh (n + 1)))) w5 = .ok () (w5.setRow S (wv (abs PP hh (n + 1))).toArray) := row_store HS5.out (by simp [wv_len, HCL'.out, HAL.out]) (fun u hu => wv_one (abs PP hh (n + 1)) u hu)
      have hsl8 : (wv (abs PP hh (n + 1))).length = 8 := by rw [wv_len, HCL'.out]
      have hpx := HPX.out
      go_wp2
      go_roundw
      case rel =>
        refine ⟨n + 1, by omega, by go_num, row_same HS5.out, (row_other (by omega)).trans HR5.out, (row_kp w5 S _).bsl HP5.out (fun q hq e => ?_), ?_, by have := HZ5.out; show _ ≤ _; simpa [World.setRow] using this⟩
        · have := HPO.out q hq; have := HS2l.out; omega
        · exact HB5.out.trans ((row_kp w5 S _).below (by have := HB5.out.size; have := HRR.out; omega) (fun q e => by omega))
      case measure => simp [intOf]; omega
    · have hnn : n = PP.length / 64 := by omega
      have hlt' : ¬ 64 * (n : Int) < (PP.length : Int) := by omega
      rw [← hnn] at HSH
      clear hnn
      have HAB := hide (abs_lt PP hh hh_lt n)
      have HO5 : Hid ((wr.alloc (.cells #[.int .u8 0, .int .u8 0, .int .u8 0, .int .u8 0, .int .u8 0, .int .u8 0, .int .u8 0, .int .u8 0, .int .u8 0, .int .u8 0, .int .u8 0, .int .u8 0, .int .u8 0, .int .u8 0, .int .u8 0, .int .u8 0, .int .u8 0, .int .u8 0, .int .u8 0, .int .u8 0, .int .u8 0, .int .u8 0, .int .u8 0, .int .u8 0, .int .u8 0, .int .u8 0, .int .u8 0, .int .u8 0, .int .u8 0, .int .u8 0, .int .u8 0, .int .u8 0] 28)).heap[wr.heap.size]? = some (.cells (bv (List.replicate 32 0)).toArray 28 (0, 0))) := by
        rw [← z32_lit]; exact heap_alloc_new wr _
      have HS5 := hide (blk_alloc (.cells #[.int .u8 0, .int .u8 0, .int .u8 0, .int .u8 0, .int .u8 0, .int .u8 0, .int .u8 0, .int .u8 0, .int .u8 0, .int .u8 0, .int .u8 0, .int .u8 0, .int .u8 0, .int .u8 0, .int .u8 0, .int .u8 0, .int .u8 0, .int .u8 0, .int .u8 0, .int .u8 0, .int .u8 0, .int .u8 0, .int .u8 0, .int .u8 0, .int .u8 0, .int .u8 0, .int .u8 0, .int .u8 0, .int .u8 0, .int .u8 0, .int .u8 0, .int .u8 0] 28) HS4.out)
      have HR5 := hide (blk_alloc (.cells #[.int .u8 0, .int .u8 0, .int .u8 0, .int .u8 0, .int .u8 0, .int .u8 0, .int .u8 0, .int .u8 0, .int .u8 0, .int .u8 0, .int .u8 0, .int .u8 0, .int .u8 0, .int .u8 0, .int .u8 0, .int .u8 0, .int .u8 0, .int .u8 0, .int .u8 0, .int .u8 0, .int .u8 0, .int .u8 0, .int .u8 0, .int .u8 0, .int .u8 0, .int .u8 0, .int .u8 0, .int .u8 0, .int .u8 0, .int .u8 0, .int .u8 0, .int .u8 0] 28) HR4.out)
      have HB5 : Hid (Below R w (wr.alloc (.cells #[.int .u8 0, .int .u8 0, .int .u8 0, .int .u8 0, .int .u8 0, .int .u8 0, .int .u8 0, .int .u8 0, .int .u8 0, .int .u8 0, .int .u8 0, .int .u8 0, .int .u8 0, .int .u8 0, .int .u8 0, .int .u8 0, .int .u8 0, .int .u8 0, .int .u8 0, .int .u8 0, .int .u8 0, .int .u8 0, .int .u8 0, .int .u8 0, .int .u8 0, .int .u8 0, .int .u8 0, .int .u8 0, .int .u8 0, .int .u8 0, .int .u8 0, .int .u8 0] 28))) := HB4.out.alloc (by have := HB4.out.size; have := HRR.out; omega) _
      have hSO : S < wr.heap.size := blk_lt HS4.out
      go_wp2
      generalize wr.alloc (.cells #[.int .u8 0, .int .u8 0, .int .u8 0, .int .u8 0, .int .u8 0, .int .u8 0, .int .u8 0, .int .u8 0, .int .u8 0, .int .u8 0, .int .u8 0, .int .u8 0, .int .u8 0, .int .u8 0, .int .u8 0, .int .u8 0, .int .u8 0, .int .u8 0, .int .u8 0, .int .u8 0, .int .u8 0, .int .u8 0, .int .u8 0, .int .u8 0, .int .u8 0, .int .u8 0, .int .u8 0, .int .u8 0, .int .u8 0, .int .u8 0, .int .u8 0, .int .u8 0] 28) = w6 at *
      generalize wr.heap.size = O at *
      have HOL := hide (outb_len (abs PP hh n) HAL.out)
      have HOB := hide (outb_byte (abs PP hh n))
      go_loopw [7] (fun ii wx => ∃ j : Nat, j ≤ 32 ∧ ii = .int .i64 (j : Nat) ∧ Hid (wx.heap[O]? = some (.cells (bv ((outb (abs PP hh n)).take j ++ List.replicate (32 - j) 0)).toArray 28 (0, 0))) ∧ Hid (wx.heap[S]? = some (.cells (wv (abs PP hh n)).toArray 92 (0, 0))) ∧ Hid (wx.heap[R]? = some (.cells (bv (List.replicate 32 0)).toArray 28 (0, 0))) ∧ Hid (Below R w wx)) (fun ii _ => 32 - (intOf ii).toNat)
      case atStart => exact ⟨0, by omega, rfl, HO5, HS5, HR5, HB5⟩
      case round =>
        obtain ⟨j, hj, rfl, HO7, HS7, HR7, HB7⟩ := hrel
        clear HO5 HS5 HR5 HB5 HS4 HR4 HB4 HZ4 HP4
        rename World => wz
        by_cases hj32 : j < 32
        · have hj32' : (j : Int) < 32 := by omega
          have c1 : wz.cell? ⟨S, j / 4, none⟩ = some (.int .u32 (((abs PP hh n).getD (j / 4) 0 : Nat) : Int)) := blk_cell HS7.out (wvt_get (by rw [HAL.out]; omega))
          have hA := getD_w HAB.out (j / 4)
          have HBL : Hid ((bv ((outb (abs PP hh n)).take j ++ List.replicate (32 - j) 0)).length = 32) := by show _ = _; simp [bv, HOL.out]; omega
          have c2 : wz.cell? ⟨O, j, none⟩ = some (.int .u8 ((((outb (abs PP hh n)).take j ++ List.replicate (32 - j) 0).getD j 0 : Nat) : Int)) := blk_cell HO7.out (by rw [List.getElem?_toArray]; exact bv_get (by simpa [bv] using (by rw [HBL.out]; exact hj32 : j < (bv ((outb (abs PP hh n)).take j ++ List.replicate (32 - j) 0)).length)))
          have f2 := blk_frozen j HO7.out
          have HBS := hide (out_set (outb (abs PP hh n)) HOL.out j hj32)
          have HOG := hide (outb_get (abs PP hh n) HAL.out j hj32)
          generalize (abs PP hh n).getD (j / 4) 0 = A at *
          generalize ((outb (abs PP hh n)).take j ++ List.replicate (32 - j) 0).getD j 0 = o at *
          have hOS : ¬ O = S := by omega
          have hOR : ¬ O = R := by omega
          go_wp2
          go_roundw
          case rel =>
            have ea : (A : Int) / 2 ^ (24 - 8 * (j % 4)) % 256 = (((outb (abs PP hh n)).getD j 0 : Nat) : Int) := by
              rw [HOG.out]
              have e : (2 : Int) ^ (24 - 8 * (j % 4)) = ((256 ^ (3 - j % 4) : Nat) : Int) := by
                rw [← pow_int8]
                congr 1
                omega
              rw [e]
              omega
            rw [ea]
            refine ⟨j + 1, by omega, by go_num, ?_, blk_other j _ HS7.out (fun e => hOS e.symm), blk_other j _ HR7.out (fun e => hOR e.symm), below_set3 HB7.out _ _ (by omega) _⟩
            show _ = _
            rw [← HBS.out]
            exact blk_set j _ HO7.out
          case measure => simp [intOf]; omega
        · have hj2 : j = 32 := by omega
          have hj32' : ¬ (j : Int) < 32 := by omega
          have HOF : Hid (wz.heap[O]? = some (.cells (bv (outb (abs PP hh n))).toArray 28 (0, 0))) := by
            have h := HO7.out
            rw [hj2, List.take_of_length_le (by rw [HOL.out]; exact Nat.le_refl _)] at h
            show _ = _
            simpa using h
          clear hj2 HO7
          have HI32 : Hid ((Tryd.prog.info? 28).map (·.size) = some (bv (outb (abs PP hh n))).toArray.size) := by
            have h := info32
            show _ = _
            simpa [bv_len, HOL.out] using h
          have HSZ : Hid ((bv (List.replicate 32 0)).toArray.size = (bv (outb (abs PP hh n))).toArray.size) := by show _ = _; simp [bv_len, HOL.out]
          have HON : Hid ((bv (outb (abs PP hh n))).toArray.all (·.oneCell') = true) := by
            show _ = _
            rw [Array.all_eq_true_iff_forall_mem]
            intro u hu
            exact bv_one _ u (by simpa using hu)
          have hSR : ¬ R = O := by omega
          generalize outb (abs PP hh n) = D at *
          go_wp2_with (first
            | (refine wpList_loadRow rfl rfl O 32 (bv D).toArray 28 rfl HOF.out Tryd.underlying28 HI32.out ?_)
            | (refine wpList_storeRow rfl rfl R _ (bv D).toArray 28 rfl rfl HR7.out HI32.out HSZ.out HON.out ?_))
          refine bodyPost_ret (v := .agg (bv D).toArray) ((results_one (p := 2) (ty := 28) rfl _ _ _).trans (run_loadVar_row (P := Tryd.prog) _ R 28 28 (bv D).toArray (0, 0) _ (row_same HR7.out) Tryd.underlying28 rfl HI32.out)) rfl ⟨by rw [HSH.out], ?_⟩
          rw [HRR.out]
          exact HB7.out.trans ((row_kp wz R _).below (by have := HB7.out.size; have := HRR.out; omega) (fun q e => by omega))
end Go.Proofs.YtedgdnoafajhoaaDoor
