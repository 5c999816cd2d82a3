import Derived.Test.YtidglddjinfncaaDoorJa
namespace Go.Proofs.YtidglddjinfncaaDoor
section
open Go.RowKit
set_option maxRecDepth 1000000 in
set_option maxHeartbeats 4000000 in
theorem refFirst_any (w : World) : Calls Tryd.prog 70 #[] w fun e w' => e = .returned (.agg (wv hh).toArray) ∧ Below w.heap.size w w' := by
  go_enter Tryd.func70, Tryd.ntmps70
  go_wp2
  refine bodyPost_ret (v := .agg #[.int .u32 1779033703, .int .u32 3144134277, .int .u32 1013904242, .int .u32 2773480762, .int .u32 1359893119, .int .u32 2600822924, .int .u32 528734635, .int .u32 1541459225]) ((results_one (p := 0) (ty := 105) rfl _ _ _).trans (by go_simp; first | done | rfl)) rfl ⟨by kernel_rfl, ?_⟩
  exact (Below.refl _ _).alloc (Nat.le_refl _) _

theorem pad_len (b : List Nat) : (pad b).length = b.length + 1 + zer b.length + 8 := by simp [pad, beb_len]; omega
theorem pad_mod (b : List Nat) : (pad b).length % 64 = 0 := by rw [pad_len]; have := zer_mod b.length; omega
theorem pad_byte (b : List Nat) (h : ∀ x ∈ b, x < 256) : ∀ x ∈ pad b, x < 256 := by
  intro x hx
  unfold pad at hx
  rcases List.mem_append.1 hx with hx | hx
  · rcases List.mem_append.1 hx with hx | hx
    · rcases List.mem_append.1 hx with hx | hx
      · exact h x hx
      · simp at hx; omega
    · have := List.eq_of_mem_replicate hx; omega
  · exact beb_byte _ _ _ hx
theorem cmp_lt (b : List Nat) (p : Nat) (s : List Nat) : ∀ x ∈ cmp b p s, x < 4294967296 := by
  intro x hx
  unfold cmp at hx
  obtain ⟨i, hi, e⟩ := List.mem_iff_getElem.1 hx
  rw [List.getElem_zipWith] at e
  rw [← e]
  exact Nat.mod_lt _ (by decide)
theorem abs_lt (b s : List Nat) (h : ∀ x ∈ s, x < 4294967296) : ∀ n, ∀ x ∈ abs b s n, x < 4294967296
  | 0, x, hx => h x hx
  | _ + 1, x, hx => cmp_lt _ _ _ x hx
theorem hh_lt : ∀ x ∈ hh, x < 4294967296 := by decide

/-! ### Whole rows -/
theorem row_same {w : World} {g : Nat} {old cs : Array Value} {t : TypeId} (h : w.heap[g]? = some (.cells old t (0, 0))) : (w.setRow g cs).heap[g]? = some (.cells cs t (0, 0)) := by
  simp [World.setRow, Array.getElem?_modify, h]
theorem row_other {w : World} {g k : Nat} {cs : Array Value} (h : k ≠ g) : (w.setRow g cs).heap[k]? = w.heap[k]? := by
  have h' : ¬ g = k := fun e => h e.symm
  simp [World.setRow, Array.getElem?_modify, h']
theorem row_kp (w : World) (g : Nat) (cs : Array Value) : Kp (fun q => q = g) w (w.setRow g cs) :=
  ⟨rfl, rfl, rfl, by simp [World.setRow], fun _ _ h => row_other h⟩
theorem row_load {w : World} {g n : Nat} {cs : Array Value} {t : TypeId} (h : w.heap[g]? = some (.cells cs t (0, 0))) (hn : cs.size = n) : Sem.run Tryd.prog (loadCellsFrom ⟨g, 0, none⟩ 0 n #[]) w = .ok cs w := by
  subst hn
  have := run_loadCells_list (P := Tryd.prog) (w := w) ⟨g, 0, none⟩ cs.toList (fun j v hv => by
    have hadd : (⟨g, 0, none⟩ : Addr).add j = ⟨g, j, none⟩ := by unfold Addr.add; split <;> simp_all
    rw [hadd]
    exact blk_cell h (by simpa using hv))
  simpa [loadCells] using this
theorem row_store {w : World} {g : Nat} {old cs : Array Value} {t : TypeId} (h : w.heap[g]? = some (.cells old t (0, 0))) (hn : cs.size = old.size) (h1 : ∀ v ∈ cs.toList, v.oneCell' = true) : Sem.run Tryd.prog (storeCells ⟨g, 0, none⟩ cs.toList) w = .ok () (w.setRow g cs) := by
  have := run_storeCells_from (P := Tryd.prog) g t cs.toList 0 old w h (by simp; omega) h1
  simpa using this
/-- A whole array out of its block, by value. -/
theorem wpList_loadRow {ops : Array Oper} {rest : List Oper} {o : Oper} {a : Act} {Q : Exit → Act → World → Prop} {w : World} {T e : TypeId} {p : Operand} (hgd : o.guard = none) (ho : o.op = .load T p) (g n : Nat) (cs : Array Value) (t : TypeId)
    (hp : a.eval p = .pointer (some ⟨g, 0, none⟩)) (hg : w.heap[g]? = some (.cells cs t (0, 0))) (hu : Tryd.prog.underlying T = some (.array n e)) (hi : (Tryd.prog.info? T).map (·.size) = some cs.size)
    (h : wpList Tryd.prog ops Q rest (a.put o.dst (.agg cs)) w) : wpList Tryd.prog ops Q (o :: rest) a w := by
  refine wpList_plain hgd fun K hK => ?_
  unfold Oper.wp execOp
  have hr : (Instr.loadAt T (.pointer (some ⟨g, 0, none⟩))).run Tryd.prog w = .ok (.agg cs) w := by
    simp only [Instr.loadAt, Instr.sureAddr, Sem.run_bind, Sem.run_pure, Result.andThen]
    exact run_loadVar_row (P := Tryd.prog) w g t T cs (0, 0) _ hg hu rfl hi
  simp only [ho, Sem.run_bind, hp, hr, Result.andThen_ok]
  exact hK _ _ h
theorem wpList_storeRow {ops : Array Oper} {rest : List Oper} {o : Oper} {a : Act} {Q : Exit → Act → World → Prop} {w : World} {T : TypeId} {p x : Operand} (hgd : o.guard = none) (ho : o.op = .store T p x) (g : Nat) (old cs : Array Value) (t : TypeId)
    (hp : a.eval p = .pointer (some ⟨g, 0, none⟩)) (hx : a.eval x = .agg cs) (hg : w.heap[g]? = some (.cells old t (0, 0))) (hi : (Tryd.prog.info? T).map (·.size) = some cs.size) (hn : old.size = cs.size) (h1 : cs.all (·.oneCell') = true)
    (h : wpList Tryd.prog ops Q rest (a.put o.dst undef) (w.setRow g cs)) : wpList Tryd.prog ops Q (o :: rest) a w := by
  refine wpList_plain hgd fun K hK => ?_
  unfold Oper.wp execOp
  have hr : (Instr.storeAt T (.pointer (some ⟨g, 0, none⟩)) (.agg cs)).run Tryd.prog w = .ok () (w.setRow g cs) := by
    simp only [Instr.storeAt, Instr.sureAddr, Sem.run_bind, Sem.run_pure, Result.andThen]
    exact run_storeVar_row (P := Tryd.prog) w g t T old cs hg hi hn h1
  simp only [ho, Sem.run_bind, hp, hx, hr, Result.andThen_ok]
  exact hK _ _ h
theorem wv_one (l : List Nat) : ∀ v ∈ wv l, v.oneCell' = true := by
  intro v hv
  simp [wv] at hv
  obtain ⟨x, _, rfl⟩ := hv
  rfl
theorem z32_lit : (bv (List.replicate 32 0)).toArray = #[.int .u8 0, .int .u8 0, .int .u8 0, .int .u8 0, .int .u8 0, .int .u8 0, .int .u8 0, .int .u8 0, .int .u8 0, .int .u8 0, .int .u8 0, .int .u8 0, .int .u8 0, .int .u8 0, .int .u8 0, .int .u8 0, .int .u8 0, .int .u8 0, .int .u8 0, .int .u8 0, .int .u8 0, .int .u8 0, .int .u8 0, .int .u8 0, .int .u8 0, .int .u8 0, .int .u8 0, .int .u8 0, .int .u8 0, .int .u8 0, .int .u8 0, .int .u8 0] := by kernel_rfl
theorem info8 : (Tryd.prog.info? 105).map (·.size) = some (wv hh).toArray.size := by kernel_rfl
theorem info32 : (Tryd.prog.info? 76).map (·.size) = some 32 := by kernel_rfl
theorem store_hh (w : World) : Sem.run Tryd.prog (storeCells ⟨w.heap.size, 0, none⟩ (wv hh)) (w.alloc (.cells #[.int .u32 0, .int .u32 0, .int .u32 0, .int .u32 0, .int .u32 0, .int .u32 0, .int .u32 0, .int .u32 0] 105)) = .ok () (w.alloc (.cells (wv hh).toArray 105)) := by
  have h := run_storeCells_new (P := Tryd.prog) w 105 #[.int .u32 0, .int .u32 0, .int .u32 0, .int .u32 0, .int .u32 0, .int .u32 0, .int .u32 0, .int .u32 0] (wv hh).toArray info8 (by kernel_rfl) (by kernel_rfl)
  exact h

theorem outb_len (s : List Nat) (h : s.length = 8) : (outb s).length = 32 := by
  match s, h with
  | [_, _, _, _, _, _, _, _], _ => rfl
theorem out_set (l : List Nat) (hl : l.length = 32) (j : Nat) (hj : j < 32) : (bv (l.take j ++ List.replicate (32 - j) 0)).toArray.setIfInBounds j (.int .u8 ((l.getD j 0 : Nat) : Int)) = (bv (l.take (j + 1) ++ List.replicate (32 - (j + 1)) 0)).toArray := by
  have e : 32 - j = (32 - (j + 1)) + 1 := by omega
  rw [List.setIfInBounds_toArray, e, List.replicate_succ, take_snoc3 l j (by omega)]
  congr 1
  simp only [bv, List.map_append, List.map_cons]
  rw [List.set_append_right _ _ (by simp [hl]; omega)]
  simp [hl, Nat.min_eq_left (Nat.le_of_lt hj)]
theorem outb_byte (s : List Nat) : ∀ x ∈ outb s, x < 256 := by
  intro x hx
  unfold outb at hx
  obtain ⟨y, _, hy⟩ := List.mem_flatMap.1 hx
  exact beb_byte _ _ _ hy
theorem outb_get (s : List Nat) (h : s.length = 8) (j : Nat) (hj : j < 32) : (outb s).getD j 0 = s.getD (j / 4) 0 / 256 ^ (3 - j % 4) % 256 := by
  match s, h with
  | [_, _, _, _, _, _, _, _], _ =>
    rcases (by omega : j = 0 ∨ j = 1 ∨ j = 2 ∨ j = 3 ∨ j = 4 ∨ j = 5 ∨ j = 6 ∨ j = 7 ∨ j = 8 ∨ j = 9 ∨ j = 10 ∨ j = 11 ∨ j = 12 ∨ j = 13 ∨ j = 14 ∨ j = 15 ∨ j = 16 ∨ j = 17 ∨ j = 18 ∨ j = 19 ∨ j = 20 ∨ j = 21 ∨ j = 22 ∨ j = 23 ∨ j = 24 ∨ j = 25 ∨ j = 26 ∨ j = 27 ∨ j = 28 ∨ j = 29 ∨ j = 30 ∨ j = 31) with rfl | rfl | rfl | rfl | rfl | rfl | rfl | rfl | rfl | rfl | rfl | rfl | rfl | rfl | rfl | rfl | rfl | rfl | rfl | rfl | rfl | rfl | rfl | rfl | rfl | rfl | rfl | rfl | rfl | rfl | rfl | rfl <;> rfl

set_option maxRecDepth 1000000 in
set_option maxHeartbeats 4000000 in
theorem refSum_any (w : World) (v : Value) (xs : List Nat) (hsl : BSl w v xs) (hlen : xs.length ≤ 140737488351232) :
    Calls Tryd.prog 45 #[v] w fun e w' => e = .returned (.agg (bv (sha xs)).toArray) ∧ Below w.heap.size w w' := by
  have HSL := hide hsl
  have HL := hide hlen
  clear hsl hlen
  have HR0 : Hid ((w.alloc (.cells #[.int .u8 0, .int .u8 0, .int .u8 0, .int .u8 0, .int .u8 0, .int .u8 0, .int .u8 0, .int .u8 0, .int .u8 0, .int .u8 0, .int .u8 0, .int .u8 0, .int .u8 0, .int .u8 0, .int .u8 0, .int .u8 0, .int .u8 0, .int .u8 0, .int .u8 0, .int .u8 0, .int .u8 0, .int .u8 0, .int .u8 0, .int .u8 0, .int .u8 0, .int .u8 0, .int .u8 0, .int .u8 0, .int .u8 0, .int .u8 0, .int .u8 0, .int .u8 0] 76)).heap[w.heap.size]? = some (.cells (bv (List.replicate 32 0)).toArray 76 (0, 0))) := by
    rw [← z32_lit]; exact heap_alloc_new w _
  have HB0 : Hid (Below w.heap.size w (w.alloc (.cells #[.int .u8 0, .int .u8 0, .int .u8 0, .int .u8 0, .int .u8 0, .int .u8 0, .int .u8 0, .int .u8 0, .int .u8 0, .int .u8 0, .int .u8 0, .int .u8 0, .int .u8 0, .int .u8 0, .int .u8 0, .int .u8 0, .int .u8 0, .int .u8 0, .int .u8 0, .int .u8 0, .int .u8 0, .int .u8 0, .int .u8 0, .int .u8 0, .int .u8 0, .int .u8 0, .int .u8 0, .int .u8 0, .int .u8 0, .int .u8 0, .int .u8 0, .int .u8 0] 76))) := (Below.refl _ _).alloc (Nat.le_refl _) _
  go_enter Tryd.func45, Tryd.ntmps45
  go_wp2_with fail
  generalize w.alloc (.cells #[.int .u8 0, .int .u8 0, .int .u8 0, .int .u8 0, .int .u8 0, .int .u8 0, .int .u8 0, .int .u8 0, .int .u8 0, .int .u8 0, .int .u8 0, .int .u8 0, .int .u8 0, .int .u8 0, .int .u8 0, .int .u8 0, .int .u8 0, .int .u8 0, .int .u8 0, .int .u8 0, .int .u8 0, .int .u8 0, .int .u8 0, .int .u8 0, .int .u8 0, .int .u8 0, .int .u8 0, .int .u8 0, .int .u8 0, .int .u8 0, .int .u8 0, .int .u8 0] 76) = w0 at *
  refine (refFirst_any _).mono ?_
  rintro e w1 ⟨rfl, hb1⟩
  generalize hRR : w.heap.size = R at *
  have HRR := hide hRR
  clear hRR
  have HR1 := hide ((hb1.block R (blk_lt HR0.out)).trans HR0.out)
  have HB1 : Hid (Below R w w1) := HB0.out.trans (hb1.mono (by have := HB0.out.size; have := HRR.out; omega))
  clear hb1 HR0 HB0
  have hst := store_hh w1
  have hhl : (wv hh).length = 8 := by kernel_rfl
  go_wp2_with fail
  have HS2 : Hid ((w1.alloc (.cells (wv hh).toArray 105)).heap[w1.heap.size]? = some (.cells (wv hh).toArray 105 (0, 0))) := heap_alloc_new w1 _
  have HR2 := hide (blk_alloc (.cells (wv hh).toArray 105) HR1.out)
  have hRS : R < w1.heap.size := blk_lt HR1.out
  have HB2 : Hid (Below R w (w1.alloc (.cells (wv hh).toArray 105))) := HB1.out.alloc (by omega) _
  clear hst hhl
  generalize w1.alloc (.cells (wv hh).toArray 105) = w2 at *
  generalize w1.heap.size = S at *
  refine (lengthened_any _ v xs (HSL.out.move (keep_below (by rw [HRR.out]; exact HB2.out))) HL.out).mono ?_
  rintro e w3 ⟨vl, rfl, ho3, hb3⟩
  have HP3 := hide (BSl.own ho3 (pad_byte xs HSL.out.byte))
  have HPO : Hid (∀ q, vl.ownBlock = some q → w2.heap.size ≤ q) := fun q hq => (ho3.lt q hq).1
  have HS3 := hide ((hb3.block S (blk_lt HS2.out)).trans HS2.out)
  have HR3 := hide ((hb3.block R (blk_lt HR2.out)).trans HR2.out)
  have HB3 : Hid (Below R w w3) := HB2.out.trans (hb3.mono (by have := HB2.out.size; have := HRR.out; omega))
  have HS2l : Hid (S < w2.heap.size) := blk_lt HS2.out
  have HZ3 : Hid (w2.heap.size ≤ w3.heap.size) := hb3.size
  obtain ⟨al, cl, hv, hv1, hv2, hv3⟩ := own_form ho3
  subst hv
  clear ho3 hb3 hv1 hv2 hv3 HS2 HR2 HB2 HR1 HB1
  have hpm := pad_mod xs
  have hpl := pad_len xs
  have hpx : (pad xs).length ≤ 140737488355328 := by have := HL.out; have := zer_lt xs.length; omega
  have HPX := hide hpx
  have HSH : Hid (sha xs = outb (abs (pad xs) hh ((pad xs).length / 64))) := rfl
  clear hpl hpx
  generalize pad xs = PP at *
  go_wp2
  go_loopw [5] (fun aa wx => ∃ n : Nat, 64 * n ≤ PP.length ∧ aa = .int .i64 (64 * (n : Int)) ∧ Hid (wx.heap[S]? = some (.cells (wv (abs PP hh n)).toArray 105 (0, 0))) ∧ Hid (wx.heap[R]? = some (.cells (bv (List.replicate 32 0)).toArray 76 (0, 0))) ∧ Hid (BSl wx (.slice al PP.length cl) PP) ∧ Hid (Below R w wx) ∧ Hid (w2.heap.size ≤ wx.heap.size)) (fun aa _ => PP.length - (intOf aa).toNat)
  case atStart => exact ⟨0, by omega, by simp, HS3, HR3, HP3, HB3, HZ3⟩
  case round =>
    obtain ⟨n, hn, rfl, HS4, HR4, HP4, HB4, HZ4⟩ := hrel
    clear HS3 HR3 HP3 HB3 HZ3
    have HAL := hide (abs_len PP hh rfl n)
    by_cases hlt : 64 * n < PP.length
    · have hlt' : 64 * (n : Int) < (PP.length : Int) := by omega
      have HAB := hide (abs_lt PP hh hh_lt n)
      have HST : Hid (abs PP hh (n + 1) = cmp PP (64 * n) (abs PP hh n)) := rfl
      have HCL := hide (cmp_len PP (64 * n) (abs PP hh n) HAL.out)
      obtain ⟨a0, a1, a2, a3, a4, a5, a6, a7, haa⟩ := eight (abs PP hh n) HAL.out
      have q0 : wr.cell? ⟨S, 0, none⟩ = some (.int .u32 (a0 : Nat)) := blk_cell HS4.out (by rw [haa]; rfl)
      have q1 : wr.cell? ⟨S, 1, none⟩ = some (.int .u32 (a1 : Nat)) := blk_cell HS4.out (by rw [haa]; rfl)
      have q2 : wr.cell? ⟨S, 2, none⟩ = some (.int .u32 (a2 : Nat)) := blk_cell HS4.out (by rw [haa]; rfl)
      have q3 : wr.cell? ⟨S, 3, none⟩ = some (.int .u32 (a3 : Nat)) := blk_cell HS4.out (by rw [haa]; rfl)
      have q4 : wr.cell? ⟨S, 4, none⟩ = some (.int .u32 (a4 : Nat)) := blk_cell HS4.out (by rw [haa]; rfl)
      have q5 : wr.cell? ⟨S, 5, none⟩ = some (.int .u32 (a5 : Nat)) := blk_cell HS4.out (by rw [haa]; rfl)
      have q6 : wr.cell? ⟨S, 6, none⟩ = some (.int .u32 (a6 : Nat)) := blk_cell HS4.out (by rw [haa]; rfl)
      have q7 : wr.cell? ⟨S, 7, none⟩ = some (.int .u32 (a7 : Nat)) := blk_cell HS4.out (by rw [haa]; rfl)
      have HAA := hide haa
      clear haa
      go_wp2_with fail
      have hat : 64 * (n : Int) = ((64 * n : Nat) : Int) := by omega
      rw [hat]
      have hlit : #[Value.int .u32 (a0 : Nat), .int .u32 (a1 : Nat), .int .u32 (a2 : Nat), .int .u32 (a3 : Nat), .int .u32 (a4 : Nat), .int .u32 (a5 : Nat), .int .u32 (a6 : Nat), .int .u32 (a7 : Nat)] = (wv (abs PP hh n)).toArray := by rw [HAA.out]; rfl
      rw [hlit]
      clear hat hlit q0 q1 q2 q3 q4 q5 q6 q7
      refine (refRounds_any _ _ PP (abs PP hh n) (64 * n) HP4.out (by omega) HAL.out HAB.out).mono ?_
      rintro e w5 ⟨rfl, hb5⟩
      have HS5 := hide ((hb5.block S (blk_lt HS4.out)).trans HS4.out)
      have HR5 := hide ((hb5.block R (blk_lt HR4.out)).trans HR4.out)
      have HP5 := hide (HP4.out.move (keep_below hb5))
      have HB5 : Hid (Below R w w5) := HB4.out.trans (hb5.mono (by have := HB4.out.size; have := HRR.out; omega))
      have HZ5 : Hid (w2.heap.size ≤ w5.heap.size) := Nat.le_trans HZ4.out hb5.size
      clear hb5
      rw [← HST.out]
      have HCL' : Hid ((abs PP hh (n + 1)).length = 8) := abs_len PP hh rfl (n + 1)
      have hst : Sem.run Tryd.prog (storeCells ⟨S, 0, none⟩ (wv (abs PP hh (n + 1)))) w5 = .ok () (w5.setRow S (wv (abs PP hh (n + 1))).toArray) := row_store HS5.out (by simp [wv_len, HCL'.out, HAL.out]) (fun u hu => wv_one (abs PP hh (n + 1)) u hu)
      have hsl8 : (wv (abs PP hh (n + 1))).length = 8 := by rw [wv_len, HCL'.out]
      have hpx := HPX.out
      go_wp2
      go_roundw
      case rel =>
        refine ⟨n + 1, by omega, by go_num, row_same HS5.out, (row_other (by omega)).trans HR5.out, (row_kp w5 S _).bsl HP5.out (fun q hq e => ?_), ?_, by have := HZ5.out; show _ ≤ _; simpa [World.setRow] using this⟩
        · have := HPO.out q hq; have := HS2l.out; omega
        · exact HB5.out.trans ((row_kp w5 S _).below (by have := HB5.out.size; have := HRR.out; omega) (fun q e => by omega))
      case measure => simp [intOf]; omega
    · have hnn : n = PP.length / 64 := by omega
      have hlt' : ¬ 64 * (n : Int) < (PP.length : Int) := by omega
      rw [← hnn] at HSH
      clear hnn
      have HAB := hide (abs_lt PP hh hh_lt n)
      have HO5 : Hid ((wr.alloc (.cells #[.int .u8 0, .int .u8 0, .int .u8 0, .int .u8 0, .int .u8 0, .int .u8 0, .int .u8 0, .int .u8 0, .int .u8 0, .int .u8 0, .int .u8 0, .int .u8 0, .int .u8 0, .int .u8 0, .int .u8 0, .int .u8 0, .int .u8 0, .int .u8 0, .int .u8 0, .int .u8 0, .int .u8 0, .int .u8 0, .int .u8 0, .int .u8 0, .int .u8 0, .int .u8 0, .int .u8 0, .int .u8 0, .int .u8 0, .int .u8 0, .int .u8 0, .int .u8 0] 76)).heap[wr.heap.size]? = some (.cells (bv (List.replicate 32 0)).toArray 76 (0, 0))) := by
        rw [← z32_lit]; exact heap_alloc_new wr _
      have HS5 := hide (blk_alloc (.cells #[.int .u8 0, .int .u8 0, .int .u8 0, .int .u8 0, .int .u8 0, .int .u8 0, .int .u8 0, .int .u8 0, .int .u8 0, .int .u8 0, .int .u8 0, .int .u8 0, .int .u8 0, .int .u8 0, .int .u8 0, .int .u8 0, .int .u8 0, .int .u8 0, .int .u8 0, .int .u8 0, .int .u8 0, .int .u8 0, .int .u8 0, .int .u8 0, .int .u8 0, .int .u8 0, .int .u8 0, .int .u8 0, .int .u8 0, .int .u8 0, .int .u8 0, .int .u8 0] 76) HS4.out)
      have HR5 := hide (blk_alloc (.cells #[.int .u8 0, .int .u8 0, .int .u8 0, .int .u8 0, .int .u8 0, .int .u8 0, .int .u8 0, .int .u8 0, .int .u8 0, .int .u8 0, .int .u8 0, .int .u8 0, .int .u8 0, .int .u8 0, .int .u8 0, .int .u8 0, .int .u8 0, .int .u8 0, .int .u8 0, .int .u8 0, .int .u8 0, .int .u8 0, .int .u8 0, .int .u8 0, .int .u8 0, .int .u8 0, .int .u8 0, .int .u8 0, .int .u8 0, .int .u8 0, .int .u8 0, .int .u8 0] 76) HR4.out)
      have HB5 : Hid (Below R w (wr.alloc (.cells #[.int .u8 0, .int .u8 0, .int .u8 0, .int .u8 0, .int .u8 0, .int .u8 0, .int .u8 0, .int .u8 0, .int .u8 0, .int .u8 0, .int .u8 0, .int .u8 0, .int .u8 0, .int .u8 0, .int .u8 0, .int .u8 0, .int .u8 0, .int .u8 0, .int .u8 0, .int .u8 0, .int .u8 0, .int .u8 0, .int .u8 0, .int .u8 0, .int .u8 0, .int .u8 0, .int .u8 0, .int .u8 0, .int .u8 0, .int .u8 0, .int .u8 0, .int .u8 0] 76))) := HB4.out.alloc (by have := HB4.out.size; have := HRR.out; omega) _
      have hSO : S < wr.heap.size := blk_lt HS4.out
      go_wp2
      generalize wr.alloc (.cells #[.int .u8 0, .int .u8 0, .int .u8 0, .int .u8 0, .int .u8 0, .int .u8 0, .int .u8 0, .int .u8 0, .int .u8 0, .int .u8 0, .int .u8 0, .int .u8 0, .int .u8 0, .int .u8 0, .int .u8 0, .int .u8 0, .int .u8 0, .int .u8 0, .int .u8 0, .int .u8 0, .int .u8 0, .int .u8 0, .int .u8 0, .int .u8 0, .int .u8 0, .int .u8 0, .int .u8 0, .int .u8 0, .int .u8 0, .int .u8 0, .int .u8 0, .int .u8 0] 76) = w6 at *
      generalize wr.heap.size = O at *
      have HOL := hide (outb_len (abs PP hh n) HAL.out)
      have HOB := hide (outb_byte (abs PP hh n))
      go_loopw [7] (fun ii wx => ∃ j : Nat, j ≤ 32 ∧ ii = .int .i64 (j : Nat) ∧ Hid (wx.heap[O]? = some (.cells (bv ((outb (abs PP hh n)).take j ++ List.replicate (32 - j) 0)).toArray 76 (0, 0))) ∧ Hid (wx.heap[S]? = some (.cells (wv (abs PP hh n)).toArray 105 (0, 0))) ∧ Hid (wx.heap[R]? = some (.cells (bv (List.replicate 32 0)).toArray 76 (0, 0))) ∧ Hid (Below R w wx)) (fun ii _ => 32 - (intOf ii).toNat)
      case atStart => exact ⟨0, by omega, rfl, HO5, HS5, HR5, HB5⟩
      case round =>
        obtain ⟨j, hj, rfl, HO7, HS7, HR7, HB7⟩ := hrel
        clear HO5 HS5 HR5 HB5 HS4 HR4 HB4 HZ4 HP4
        rename World => wz
        by_cases hj32 : j < 32
        · have hj32' : (j : Int) < 32 := by omega
          have c1 : wz.cell? ⟨S, j / 4, none⟩ = some (.int .u32 (((abs PP hh n).getD (j / 4) 0 : Nat) : Int)) := blk_cell HS7.out (wvt_get (by rw [HAL.out]; omega))
          have hA := getD_w HAB.out (j / 4)
          have HBL : Hid ((bv ((outb (abs PP hh n)).take j ++ List.replicate (32 - j) 0)).length = 32) := by show _ = _; simp [bv, HOL.out]; omega
          have c2 : wz.cell? ⟨O, j, none⟩ = some (.int .u8 ((((outb (abs PP hh n)).take j ++ List.replicate (32 - j) 0).getD j 0 : Nat) : Int)) := blk_cell HO7.out (by rw [List.getElem?_toArray]; exact bv_get (by simpa [bv] using (by rw [HBL.out]; exact hj32 : j < (bv ((outb (abs PP hh n)).take j ++ List.replicate (32 - j) 0)).length)))
          have f2 := blk_frozen j HO7.out
          have HBS := hide (out_set (outb (abs PP hh n)) HOL.out j hj32)
          have HOG := hide (outb_get (abs PP hh n) HAL.out j hj32)
          generalize (abs PP hh n).getD (j / 4) 0 = A at *
          generalize ((outb (abs PP hh n)).take j ++ List.replicate (32 - j) 0).getD j 0 = o at *
          have hOS : ¬ O = S := by omega
          have hOR : ¬ O = R := by omega
          go_wp2
          go_roundw
          case rel =>
            have ea : (A : Int) / 2 ^ (24 - 8 * (j % 4)) % 256 = (((outb (abs PP hh n)).getD j 0 : Nat) : Int) := by
              rw [HOG.out]
              have e : (2 : Int) ^ (24 - 8 * (j % 4)) = ((256 ^ (3 - j % 4) : Nat) : Int) := by
                rw [← pow_int8]
                congr 1
                omega
              rw [e]
              omega
            rw [ea]
            refine ⟨j + 1, by omega, by go_num, ?_, blk_other j _ HS7.out (fun e => hOS e.symm), blk_other j _ HR7.out (fun e => hOR e.symm), below_set3 HB7.out _ _ (by omega) _⟩
            show _ = _
            rw [← HBS.out]
            exact blk_set j _ HO7.out
          case measure => simp [intOf]; omega
        · have hj2 : j = 32 := by omega
          have hj32' : ¬ (j : Int) < 32 := by omega
          have HOF : Hid (wz.heap[O]? = some (.cells (bv (outb (abs PP hh n))).toArray 76 (0, 0))) := by
            have h := HO7.out
            rw [hj2, List.take_of_length_le (by rw [HOL.out]; exact Nat.le_refl _)] at h
            show _ = _
            simpa using h
          clear hj2 HO7
          have HI32 : Hid ((Tryd.prog.info? 76).map (·.size) = some (bv (outb (abs PP hh n))).toArray.size) := by
            have h := info32
            show _ = _
            simpa [bv_len, HOL.out] using h
          have HSZ : Hid ((bv (List.replicate 32 0)).toArray.size = (bv (outb (abs PP hh n))).toArray.size) := by show _ = _; simp [bv_len, HOL.out]
          have HON : Hid ((bv (outb (abs PP hh n))).toArray.all (·.oneCell') = true) := by
            show _ = _
            rw [Array.all_eq_true_iff_forall_mem]
            intro u hu
            exact bv_one _ u (by simpa using hu)
          have hSR : ¬ R = O := by omega
          generalize outb (abs PP hh n) = D at *
          go_wp2_with (first
            | (refine wpList_loadRow rfl rfl O 32 (bv D).toArray 76 rfl HOF.out Tryd.underlying76 HI32.out ?_)
            | (refine wpList_storeRow rfl rfl R _ (bv D).toArray 76 rfl rfl HR7.out HI32.out HSZ.out HON.out ?_))
          refine bodyPost_ret (v := .agg (bv D).toArray) ((results_one (p := 2) (ty := 76) rfl _ _ _).trans (run_loadVar_row (P := Tryd.prog) _ R 76 76 (bv D).toArray (0, 0) _ (row_same HR7.out) Tryd.underlying76 rfl HI32.out)) rfl ⟨by rw [HSH.out], ?_⟩
          rw [HRR.out]
          exact HB7.out.trans ((row_kp wz R _).below (by have := HB7.out.size; have := HRR.out; omega) (fun q e => by omega))
end
section
open Go.RowKit
/-! ### Eq -/
set_option maxRecDepth 1000000 in
set_option maxHeartbeats 400000 in
theorem same3_any (w : World) (v1 v2 : Value) (xs ys : List Nat) (h1 : BSl w v1 xs) (h2 : BSl w v2 ys) :
    Calls Tryd.prog 74 #[v1, v2] w fun e w' => e = .returned (.bool (decide (xs = ys))) ∧ Kp (fun _ => False) w w' := by
  have H1 := hide h1
  have H2 := hide h2
  obtain ⟨⟨a1, cap1, rfl, _, hc1⟩, hm1, _⟩ := h1
  obtain ⟨⟨a2, cap2, rfl, _, hc2⟩, hm2, _⟩ := h2
  have HC1 := hide hc1
  have HC2 := hide hc2
  clear hc1 hc2
  by_cases hlen : xs.length = ys.length
  · have hne : ((xs.length : Int) != (ys.length : Int)) = false := by simp [hlen]
    have HLN := hide hlen
    clear hlen
    go_enter Tryd.func74, Tryd.ntmps74
    go_wp2
    go_loopw [5] (fun i wr => ∃ k : Nat, k ≤ xs.length ∧ i = .int .i64 k ∧ Kp (fun _ => False) w wr ∧ xs.take k = ys.take k) (fun i _ => xs.length - (intOf i).toNat)
    case atStart => exact ⟨0, Nat.zero_le _, rfl, Kp.refl _ _, by simp⟩
    case round =>
      obtain ⟨k, hk, rfl, hkp, htk⟩ := hrel
      have HK := hide hkp
      have HTK := hide htk
      clear hkp htk
      by_cases hlt : k < xs.length
      · have hlt' : (k : Int) < (xs.length : Int) := by omega
        have hlty : k < ys.length := by have := HLN.out; omega
        have hlty' : (k : Int) < (ys.length : Int) := by omega
        rcases HC1.out with h | ⟨b1, o1, rfl, hcc1⟩
        · rw [h] at hlt; simp at hlt
        rcases HC2.out with h | ⟨b2, o2, rfl, hcc2⟩
        · rw [h] at hlty; simp at hlty
        have cc1 := HK.out.cell (hcc1 k hlt) (by simp)
        have cc2 := HK.out.cell (hcc2 k hlty) (by simp)
        have hs1 : xs.take (k + 1) = xs.take k ++ [xs.getD k 0] := by rw [List.take_succ_eq_append_getElem hlt]; simp [List.getD, hlt]
        have hs2 : ys.take (k + 1) = ys.take k ++ [ys.getD k 0] := by rw [List.take_succ_eq_append_getElem hlty]; simp [List.getD, hlty]
        have HS1 := hide hs1
        have HS2 := hide hs2
        clear hcc1 hcc2 hs1 hs2
        by_cases hxy : xs.getD k 0 = ys.getD k 0
        · have hxy' : (((xs.getD k 0 : Nat) : Int) != ((ys.getD k 0 : Nat) : Int)) = false := by rw [hxy]; simp
          have HXY := hide hxy
          clear hxy
          generalize xs.getD k 0 = x at *
          generalize ys.getD k 0 = y at *
          go_wp2
          go_quiet (fail)
          go_wp2
          go_roundw
          case rel => exact ⟨k + 1, by omega, by go_num, HK.out.drewN _, by rw [HS1.out, HS2.out, HTK.out, HXY.out]⟩
          case measure => simp [intOf]; omega
        · have hxy' : (((xs.getD k 0 : Nat) : Int) != ((ys.getD k 0 : Nat) : Int)) = true := bne_iff_ne.2 (by omega)
          have hd : decide (xs = ys) = false := decide_eq_false (fun e => hxy (by rw [e]))
          have HD := hide hd
          clear hxy hd
          generalize xs.getD k 0 = x at *
          generalize ys.getD k 0 = y at *
          go_wp2
          go_quiet (fail)
          go_wp2
          go_ret
          exact ⟨by rw [HD.out]; rfl, HK.out.drewN _⟩
      · have hlt' : ¬ (k : Int) < (xs.length : Int) := by omega
        have hd : decide (xs = ys) = true := decide_eq_true (by
          have h := HTK.out
          rw [List.take_of_length_le (by omega), List.take_of_length_le (by have := HLN.out; omega)] at h
          exact h)
        have HD := hide hd
        clear hd
        go_wp2
        go_ret
        exact ⟨by rw [HD.out]; rfl, HK.out⟩
  · have hne : ((xs.length : Int) != (ys.length : Int)) = true := bne_iff_ne.2 (by omega)
    have hd : decide (xs = ys) = false := decide_eq_false (fun e => hlen (by rw [e]))
    rw [hd]
    clear hlen hd
    go_enter Tryd.func74, Tryd.ntmps74
    go_wp2
    go_ret
    exact ⟨rfl, Kp.refl _ _⟩
end
section
open Go.RowKit
set_option maxRecDepth 1000000 in
set_option maxHeartbeats 400000 in
theorem copy_any (w : World) (v : Value) (xs : List Nat) (hsl : BSl w v xs) (hlen : xs.length ≤ 140737488351232) :
    Calls Tryd.prog 28 #[v] w fun e w' => ∃ v', e = .returned v' ∧ w'.ownsRow w.heap.size 5 1 v' xs.length (bv xs) ∧ Below w.heap.size w w' := by
  have HSL := hide hsl
  have HL := hide hlen
  obtain ⟨⟨a, cap, rfl, hn, hc⟩, hmax, hb⟩ := hsl
  clear hn hc hb hlen
  go_enter Tryd.func28, Tryd.ntmps28
  go_wp2_with (at_builtin; refine append_bsl rfl _ _ rfl w.heap.size _ 0 [] rfl (World.ownsRow_nil _ _ _ _) _ xs rfl HSL.out ?b1 ?b2 ?_)
  case b1 => have := HL.out; omega
  case b2 => exact Nat.le_refl _
  intro v1 w1 ho1 hg1
  have hb1 : Below w.heap.size w w1 := (Below.refl _ _).grown hg1 (Nat.le_refl _) (fun q hq => by cases hq)
  have HO1 := hide ho1
  have HB1 := hide hb1
  clear ho1 hb1 hg1
  go_wp2
  go_ret
  exact ⟨_, rfl, by simpa using HO1.out, HB1.out⟩

theorem own_two (w : World) (x y : Nat) : (w.alloc (.cells #[.int .u8 ((x : Nat) : Int), .int .u8 ((y : Nat) : Int)] 5)).ownsRow w.heap.size 5 1 (.slice (some ⟨w.heap.size, 0, none⟩) 2 2) 2 (bv [x, y]) :=
  ⟨rfl, .inr ⟨w.heap.size, 2, _, rfl, Nat.le_refl _, heap_alloc_new w _, Nat.le_refl _, by decide, rfl, rfl⟩⟩
/-- What Lay of the document tells. -/
def dlay (h : Nat) (d : List Nat) : List Nat × Nat :=
  if h ≠ 18 ∧ h ≠ 0 then ([], 30) else if (h = 18 ∧ d.length ≠ 32) ∨ (h = 0 ∧ 64 < d.length) then ([], 31) else (h :: d.length :: d, 0)

set_option maxRecDepth 1000000 in
set_option maxHeartbeats 400000 in
theorem refDLay_any (w : World) (h : Nat) (v : Value) (d : List Nat) (hh : h < 18446744073709551616) (hsl : BSl w v d) :
    Calls Tryd.prog 58 #[.int .u64 (h : Nat), v] w fun e w' => ∃ v', e = .returned (.tuple #[v', .int .i64 ((dlay h d).2 : Nat)]) ∧ w'.ownsRow w.heap.size 5 1 v' (dlay h d).1.length (bv (dlay h d).1) ∧ Below w.heap.size w w' := by
  have HSL := hide hsl
  obtain ⟨⟨a, cap, rfl, hn, hc⟩, hmax, hb⟩ := hsl
  clear hn hc hb
  by_cases h18 : h = 18
  · subst h18
    by_cases hd : d.length = 32
    · have e : dlay 18 d = (18 :: d.length :: d, 0) := by simp [dlay, hd]
      rw [e]
      have hd' : ((d.length : Int) != 32) = false := bne_eq_false_iff_eq.2 (by omega)
      have hd64 : d.length ≤ 64 := by omega
      have HO := hide (own_two w 18 d.length)
      have HSA := hide (HSL.out.move (keep_alloc w (.cells #[.int .u8 ((18 : Nat) : Int), .int .u8 ((d.length : Nat) : Int)] 5)))
      clear hd e
      go_enter Tryd.func58, Tryd.ntmps58
      go_wp2_with (at_builtin; refine append_bsl rfl _ _ rfl w.heap.size _ 2 [18, d.length] rfl HO.out _ d rfl HSA.out ?b1 ?b2 ?_)
      case b1 => omega
      case b2 => simp
      intro v1 w1 ho1 hg1
      have hb1 : Below w.heap.size w w1 := ((Below.refl _ _).alloc (Nat.le_refl _) _).grown hg1 (by simp) (fun q hq => by simp [Value.ownBlock] at hq; omega)
      have HO1 := hide ho1
      have HB1 := hide hb1
      clear ho1 hb1 hg1
      go_wp2
      go_ret2
      refine ⟨_, rfl, ?_, HB1.out⟩
      have e2 : d.length + 1 + 1 = 2 + d.length := by omega
      rw [e2]
      exact HO1.out
    · have e : dlay 18 d = ([], 31) := by simp [dlay, hd]
      rw [e]
      have hd' : ((d.length : Int) != 32) = true := bne_iff_ne.2 (by omega)
      go_enter Tryd.func58, Tryd.ntmps58
      go_wp2
      go_ret2
      exact ⟨_, rfl, World.ownsRow_nil _ _ _ _, Below.refl _ _⟩
  · by_cases h0 : h = 0
    · subst h0
      by_cases hd : 64 < d.length
      · have e : dlay 0 d = ([], 31) := by simp [dlay, hd]
        rw [e]
        have hd' : (64 : Int) < (d.length : Int) := by omega
        go_enter Tryd.func58, Tryd.ntmps58
        go_wp2
        go_ret2
        exact ⟨_, rfl, World.ownsRow_nil _ _ _ _, Below.refl _ _⟩
      · have e : dlay 0 d = (0 :: d.length :: d, 0) := by simp [dlay, hd]
        rw [e]
        have hd' : ¬ (64 : Int) < (d.length : Int) := by omega
        have hd64 : d.length ≤ 64 := by omega
        have HO : Hid ((w.alloc (.cells #[.int .u8 0, .int .u8 ((d.length : Nat) : Int)] 5)).ownsRow w.heap.size 5 1 (.slice (some ⟨w.heap.size, 0, none⟩) 2 2) 2 (bv [0, d.length])) := own_two w 0 d.length
        have HSA := hide (HSL.out.move (keep_alloc w (.cells #[.int .u8 0, .int .u8 ((d.length : Nat) : Int)] 5)))
        clear hd e
        go_enter Tryd.func58, Tryd.ntmps58
        go_wp2_with (at_builtin; refine append_bsl rfl _ _ rfl w.heap.size _ 2 [0, d.length] rfl HO.out _ d rfl HSA.out ?b1 ?b2 ?_)
        case b1 => omega
        intro v1 w1 ho1 hg1
        have hb1 : Below w.heap.size w w1 := ((Below.refl _ _).alloc (Nat.le_refl _) _).grown hg1 (by simp) (fun q hq => by simp [Value.ownBlock] at hq; omega)
        have HO1 := hide ho1
        have HB1 := hide hb1
        clear ho1 hb1 hg1
        go_wp2
        go_ret2
        refine ⟨_, rfl, ?_, HB1.out⟩
        have e2 : d.length + 1 + 1 = 2 + d.length := by omega
        rw [e2]
        exact HO1.out
    · have e : dlay h d = ([], 30) := by simp [dlay, h18, h0]
      rw [e]
      have g1 : ((h : Int) != 18) = true := bne_iff_ne.2 (by omega)
      have g2 : ((h : Int) != 0) = true := bne_iff_ne.2 (by omega)
      go_enter Tryd.func58, Tryd.ntmps58
      go_wp2
      go_ret2
      exact ⟨_, rfl, World.ownsRow_nil _ _ _ _, Below.refl _ _⟩
end
section
open Go.RowKit Go
/-- The number that digits make, the first one the highest. -/
def valB (b : Nat) (l : List Nat) : Nat := l.foldl (fun r d => r * b + d) 0
theorem valB_nil (b : Nat) : valB b [] = 0 := rfl
theorem valB_snoc (b : Nat) (l : List Nat) (d : Nat) : valB b (l ++ [d]) = valB b l * b + d := by simp [valB]
theorem foldl_shift (b : Nat) : ∀ (l : List Nat) (r : Nat), l.foldl (fun r d => r * b + d) r = r * b ^ l.length + valB b l
  | [], r => by simp [valB]
  | d :: l, r => by
    have h1 := foldl_shift b l (r * b + d)
    have h2 := foldl_shift b l (0 * b + d)
    simp only [List.foldl_cons, List.length_cons, valB] at *
    rw [h1, h2, Nat.zero_mul, Nat.zero_add, Nat.pow_succ, Nat.add_mul]
    have e : r * b * b ^ l.length = r * (b ^ l.length * b) := by rw [Nat.mul_assoc, Nat.mul_comm b]
    omega
theorem valB_cons (b d : Nat) (l : List Nat) : valB b (d :: l) = d * b ^ l.length + valB b l := by
  have h := foldl_shift b l (0 * b + d)
  unfold valB at *
  rw [List.foldl_cons, h, Nat.zero_mul, Nat.zero_add]
theorem valB_app (b : Nat) (l m : List Nat) : valB b (l ++ m) = valB b l * b ^ m.length + valB b m := by
  have h := foldl_shift b m (valB b l)
  unfold valB at *
  rw [List.foldl_append, h]
theorem valB_lt {b : Nat} (hb : 0 < b) : ∀ {l : List Nat}, (∀ d ∈ l, d < b) → valB b l < b ^ l.length
  | [], _ => by simp [valB]
  | d :: l, h => by
    have ih := valB_lt hb (l := l) (fun x hx => h x (List.mem_cons_of_mem _ hx))
    have hd := h d (by simp)
    rw [valB_cons, List.length_cons, Nat.pow_succ]
    have : (d + 1) * b ^ l.length ≤ b * b ^ l.length := Nat.mul_le_mul_right _ hd
    rw [Nat.add_mul, Nat.one_mul] at this
    rw [Nat.mul_comm (b ^ l.length) b]
    omega
/-- A number's digits, the highest first, none of 0. -/
def digB (b n : Nat) : List Nat := if _h : n = 0 ∨ b < 2 then [] else digB b (n / b) ++ [n % b]
termination_by n
decreasing_by exact Nat.div_lt_self (by omega) (by omega)
theorem digB_zero (b : Nat) : digB b 0 = [] := by unfold digB; simp
theorem digB_pos {b n : Nat} (hb : 2 ≤ b) (hn : 0 < n) : digB b n = digB b (n / b) ++ [n % b] := by
  rw [digB, dif_neg (by omega)]
theorem valB_digB {b : Nat} (hb : 2 ≤ b) (n : Nat) : valB b (digB b n) = n := by
  induction n using Nat.strongRecOn with
  | _ n ih =>
    by_cases h : n = 0
    · subst h
      rw [digB_zero]
      rfl
    · rw [digB_pos hb (by omega), valB_snoc, ih (n / b) (Nat.div_lt_self (by omega) (by omega)), Nat.mul_comm]
      exact Nat.div_add_mod n b
theorem digB_lt {b : Nat} (hb : 2 ≤ b) (n : Nat) : ∀ d ∈ digB b n, d < b := by
  induction n using Nat.strongRecOn with
  | _ n ih =>
    by_cases h : n = 0
    · subst h
      rw [digB_zero]
      simp
    · rw [digB_pos hb (by omega)]
      intro d hd
      rcases List.mem_append.1 hd with hd | hd
      · exact ih (n / b) (Nat.div_lt_self (by omega) (by omega)) d hd
      · simp at hd
        subst hd
        exact Nat.mod_lt _ (by omega)
theorem digB_head {b : Nat} (hb : 2 ≤ b) (n : Nat) : (digB b n).head? ≠ some 0 := by
  induction n using Nat.strongRecOn with
  | _ n ih =>
    by_cases h : n = 0
    · subst h
      rw [digB_zero]
      simp
    · rw [digB_pos hb (by omega)]
      by_cases hq : n / b = 0
      · rw [hq, digB_zero]
        have := Nat.div_add_mod n b
        rw [hq] at this
        simp
        omega
      · have ih2 := ih (n / b) (Nat.div_lt_self (by omega) (by omega))
        have hne : digB b (n / b) ≠ [] := by
          intro e
          have := valB_digB hb (n / b)
          rw [e] at this
          simp [valB] at this
          omega
        cases hd : digB b (n / b) with
        | nil => exact absurd hd hne
        | cons x l =>
          rw [hd] at ih2
          simpa using ih2
theorem valB_pos {b : Nat} (hb : 2 ≤ b) {l : List Nat} (hl : l ≠ []) (hh : l.head? ≠ some 0) : 0 < valB b l := by
  cases l with
  | nil => exact absurd rfl hl
  | cons d l =>
    rw [valB_cons]
    have hd : 0 < d := by simp at hh; omega
    have := Nat.mul_pos hd (Nat.pow_pos (n := l.length) (show 0 < b by omega))
    omega
theorem digB_valB {b : Nat} (hb : 2 ≤ b) : ∀ (k : Nat) (l : List Nat), l.length = k → (∀ d ∈ l, d < b) → l.head? ≠ some 0 → digB b (valB b l) = l
  | 0, l, hk, _, _ => by
    have : l = [] := List.eq_nil_of_length_eq_zero hk
    subst this
    exact digB_zero b
  | k + 1, l, hk, hd, hh => by
    have hne : l ≠ [] := by intro e; subst e; simp at hk
    obtain ⟨l0, d, rfl⟩ : ∃ l0 d, l = l0 ++ [d] := ⟨l.dropLast, l.getLast hne, (List.dropLast_concat_getLast hne).symm⟩
    have hdb : d < b := hd d (by simp)
    have hpos := valB_pos hb hne hh
    rw [digB_pos hb hpos, valB_snoc]
    have e1 : (valB b l0 * b + d) / b = valB b l0 := by
      rw [Nat.mul_comm, Nat.mul_add_div (by omega), Nat.div_eq_of_lt hdb, Nat.add_zero]
    have e2 : (valB b l0 * b + d) % b = d := by
      rw [Nat.mul_comm, Nat.mul_add_mod, Nat.mod_eq_of_lt hdb]
    rw [e1, e2]
    congr 1
    refine digB_valB hb k l0 (by simpa using hk) (fun x hx => hd x (by simp [hx])) ?_
    cases l0 with
    | nil => simp
    | cons x l0 => simpa using hh
/-- Digits of one base in another one: a 0 for each 0 at the front, then the number. -/
def conv (a b : Nat) (l : List Nat) : List Nat := List.replicate (l.takeWhile (· == 0)).length 0 ++ digB b (valB a (l.dropWhile (· == 0)))
theorem drop_head (l : List Nat) : (l.dropWhile (· == 0)).head? ≠ some 0 := by
  induction l with
  | nil => simp
  | cons x l ih =>
    by_cases h : x = 0
    · subst h
      simpa [List.dropWhile_cons] using ih
    · simp [h]
theorem zeros_take (l : List Nat) : l.takeWhile (· == 0) = List.replicate (l.takeWhile (· == 0)).length 0 := by
  induction l with
  | nil => rfl
  | cons x l ih =>
    by_cases h : x = 0
    · subst h
      simp only [List.takeWhile_cons, beq_self_eq_true, if_true, List.length_cons, List.replicate_succ]
      rw [← ih]
    · simp [h]
theorem take_zeros (z : Nat) {d : List Nat} (hd : d.head? ≠ some 0) : (List.replicate z 0 ++ d).takeWhile (· == 0) = List.replicate z 0 ∧ (List.replicate z 0 ++ d).dropWhile (· == 0) = d := by
  induction z with
  | zero =>
    cases d with
    | nil => simp
    | cons x d =>
      have : x ≠ 0 := by simpa using hd
      simp [this]
  | succ z ih => simp [List.replicate_succ, ih]
theorem conv_conv {a b : Nat} (ha : 2 ≤ a) (hb : 2 ≤ b) {l : List Nat} (hl : ∀ d ∈ l, d < a) : conv b a (conv a b l) = l := by
  have h1 := take_zeros (l.takeWhile (· == 0)).length (digB_head hb (valB a (l.dropWhile (· == 0))))
  have e : conv a b l = List.replicate (l.takeWhile (· == 0)).length 0 ++ digB b (valB a (l.dropWhile (· == 0))) := rfl
  show List.replicate ((conv a b l).takeWhile (· == 0)).length 0 ++ digB a (valB b ((conv a b l).dropWhile (· == 0))) = l
  rw [e, h1.1, h1.2, List.length_replicate, valB_digB hb, digB_valB ha _ _ rfl (fun d hd => hl d ((List.dropWhile_suffix _).subset hd)) (drop_head l), ← zeros_take]
  exact List.takeWhile_append_dropWhile
theorem conv_lt {a b : Nat} (hb : 2 ≤ b) (l : List Nat) : ∀ d ∈ conv a b l, d < b := by
  intro d hd
  rcases List.mem_append.1 hd with h | h
  · have := List.eq_of_mem_replicate h
    omega
  · exact digB_lt hb _ d h
/-- A number's lowest w bits, the highest first. -/
def bitsW (w x : Nat) : List Nat := (List.range w).map fun k => x / 2 ^ (w - 1 - k) % 2
theorem bitsW_len (w x : Nat) : (bitsW w x).length = w := by simp [bitsW]
theorem bitsW_lt (w x : Nat) : ∀ d ∈ bitsW w x, d < 2 := by
  intro d hd
  obtain ⟨k, _, rfl⟩ := List.mem_map.1 hd
  exact Nat.mod_lt _ (by decide)
theorem bitsW_succ (w x : Nat) : bitsW (w + 1) x = x / 2 ^ w % 2 :: bitsW w x := by
  unfold bitsW
  rw [List.range_succ_eq_map, List.map_cons, List.map_map]
  congr 1
  refine List.map_congr_left fun k hk => ?_
  have := List.mem_range.1 hk
  simp only [Function.comp]
  congr 3
  omega
theorem valB_bitsW : ∀ w x, valB 2 (bitsW w x) = x % 2 ^ w
  | 0, x => by
    rw [Nat.pow_zero, Nat.mod_one]
    rfl
  | w + 1, x => by
    rw [bitsW_succ, valB_cons, bitsW_len, valB_bitsW w x, Nat.pow_succ, Nat.mod_mul]
    rw [Nat.mul_comm]
    omega
theorem bitsW_valB : ∀ (l : List Nat), (∀ d ∈ l, d < 2) → bitsW l.length (valB 2 l) = l
  | [], _ => rfl
  | d :: l, h => by
    have hd := h d (by simp)
    have hl : ∀ x ∈ l, x < 2 := fun x hx => h x (List.mem_cons_of_mem _ hx)
    have hv := valB_lt (b := 2) (by decide) hl
    rw [List.length_cons, bitsW_succ, valB_cons]
    have e1 : (d * 2 ^ l.length + valB 2 l) / 2 ^ l.length % 2 = d := by
      rw [Nat.mul_comm, Nat.mul_add_div (Nat.pow_pos (by decide)), Nat.div_eq_of_lt hv, Nat.add_zero, Nat.mod_eq_of_lt hd]
    have e2 : bitsW l.length (d * 2 ^ l.length + valB 2 l) = bitsW l.length (valB 2 l) := by
      unfold bitsW
      refine List.map_congr_left fun k hk => ?_
      have hk := List.mem_range.1 hk
      have e3 : d * 2 ^ l.length = 2 ^ (l.length - 1 - k) * (2 * (d * 2 ^ k)) := by
        have : 2 ^ l.length = 2 ^ (l.length - 1 - k) * (2 * 2 ^ k) := by
          rw [← Nat.pow_succ', ← Nat.pow_add]
          congr 1
          omega
        rw [this]
        ac_rfl
      rw [e3, Nat.mul_add_div (Nat.pow_pos (by decide)), Nat.add_mod, Nat.mul_mod_right, Nat.zero_add, Nat.mod_mod]
    rw [e1, e2, bitsW_valB l hl]
/-- Whole groups of w bits. -/
def grp (w : Nat) (l : List Nat) : List Nat := if _h : w = 0 ∨ l.length < w then [] else valB 2 (l.take w) :: grp w (l.drop w)
termination_by l.length
decreasing_by rw [List.length_drop]; omega
theorem grp_short {w : Nat} {l : List Nat} (h : l.length < w) : grp w l = [] := by rw [grp, dif_pos (.inr h)]
theorem grp_app {w : Nat} (hw : 0 < w) {a : List Nat} (ha : a.length = w) (l : List Nat) : grp w (a ++ l) = valB 2 a :: grp w l := by
  rw [grp, dif_neg (by rw [List.length_append]; omega), List.take_append_of_le_length (by omega), List.take_of_length_le (by omega), List.drop_append_of_le_length (by omega), List.drop_of_length_le (by omega), List.nil_append]
/-- Bytes read out of their bits, whatever fewer than w bits stand behind. -/
theorem grp_bits {w : Nat} (hw : 0 < w) {z : List Nat} (hz : z.length < w) : ∀ {b : List Nat}, (∀ x ∈ b, x < 2 ^ w) → grp w (b.flatMap (bitsW w) ++ z) = b
  | [], _ => by simpa using grp_short hz
  | x :: b, h => by
    rw [List.flatMap_cons, List.append_assoc, grp_app hw (bitsW_len w x), valB_bitsW, Nat.mod_eq_of_lt (h x (by simp)), grp_bits hw hz (fun y hy => h y (List.mem_cons_of_mem _ hy))]
theorem bits_grp {w : Nat} (hw : 0 < w) : ∀ (k : Nat) (l : List Nat), l.length = k * w → (∀ d ∈ l, d < 2) → (grp w l).flatMap (bitsW w) = l
  | 0, l, hk, _ => by
    have : l = [] := List.eq_nil_of_length_eq_zero (by omega)
    subst this
    rw [grp_short (by simpa using hw)]
    rfl
  | k + 1, l, hk, hd => by
    rw [Nat.add_mul, Nat.one_mul] at hk
    rw [grp, dif_neg (by omega), List.flatMap_cons, bits_grp hw k (l.drop w) (by rw [List.length_drop]; omega) (fun d h => hd d (List.mem_of_mem_drop h))]
    have hl : (l.take w).length = w := by rw [List.length_take]; omega
    have e := bitsW_valB (l.take w) (fun d h => hd d (List.mem_of_mem_take h))
    rw [hl] at e
    rw [e, List.take_append_drop]
/-- The digits, of w bits each, of bytes; the last one is filled with 0. -/
def encW (w : Nat) (b : List Nat) : List Nat := grp w (b.flatMap (bitsW 8) ++ List.replicate ((w - b.length * 8 % w) % w) 0)
/-- The whole bytes of digits. -/
def decW (w : Nat) (ds : List Nat) : List Nat := grp 8 (ds.flatMap (bitsW w))
theorem flat_len (w : Nat) (b : List Nat) : (b.flatMap (bitsW w)).length = b.length * w := by
  induction b with
  | nil => simp
  | cons x b ih => rw [List.flatMap_cons, List.length_append, ih, bitsW_len, List.length_cons, Nat.add_mul, Nat.one_mul]; omega
theorem flat_lt (w : Nat) (b : List Nat) : ∀ d ∈ b.flatMap (bitsW w), d < 2 := by
  intro d hd
  obtain ⟨x, _, h⟩ := List.mem_flatMap.1 hd
  exact bitsW_lt w x d h
theorem dec_enc {w : Nat} (hw : 0 < w) (hw8 : w ≤ 8) {b : List Nat} (hb : ∀ x ∈ b, x < 256) : decW w (encW w b) = b := by
  unfold decW encW
  have hp : (w - b.length * 8 % w) % w < w := Nat.mod_lt _ hw
  have hlen : (b.flatMap (bitsW 8) ++ List.replicate ((w - b.length * 8 % w) % w) 0).length = (b.length * 8 + (w - b.length * 8 % w) % w) := by rw [List.length_append, flat_len, List.length_replicate]
  have hdiv : (b.length * 8 + (w - b.length * 8 % w) % w) % w = 0 := by
    have h1 := Nat.mod_lt (b.length * 8) hw
    by_cases h0 : b.length * 8 % w = 0
    · rw [h0, Nat.sub_zero, Nat.mod_self, Nat.add_zero]
      exact h0
    · rw [Nat.mod_eq_of_lt (a := w - b.length * 8 % w) (by omega)]
      have h2 := Nat.div_add_mod (b.length * 8) w
      have e : b.length * 8 + (w - b.length * 8 % w) = w * (b.length * 8 / w + 1) := by rw [Nat.mul_add, Nat.mul_one]; omega
      rw [e]
      exact Nat.mul_mod_right _ _
  obtain ⟨k, hk⟩ := Nat.dvd_of_mod_eq_zero hdiv
  rw [bits_grp hw k _ (by rw [hlen, hk, Nat.mul_comm]) (fun d hd => by
    rcases List.mem_append.1 hd with h | h
    · exact flat_lt 8 b d h
    · have := List.eq_of_mem_replicate h
      omega)]
  exact grp_bits (by decide) (by rw [List.length_replicate]; omega) hb
end
section
open Go.RowKit
theorem or_low (k a b : Nat) (hb : b < 2 ^ k) (h : 2 ^ k * a + b < 4294967296) (A B : Int) (hA : A = ((2 ^ k * a : Nat) : Int)) (hB : B = (b : Nat)) : bits .or .u32 A B = ((2 ^ k * a + b : Nat) : Int) := by
  subst hA
  subst hB
  rw [u32_or_nat _ _ (by omega) (by omega), ← Nat.two_pow_add_eq_or_of_lt hb]

set_option maxRecDepth 1000000 in
theorem word_any (w : World) (v : Value) (l : List Nat) (hsl : BSl w v l) (hp : l.length = 4) :
    Calls Tryd.prog 96 #[v] w fun e w' => e = .returned (.int .u32 (wrd l 0 : Nat)) ∧ Below w.heap.size w w' := by
  obtain ⟨⟨a, cap, rfl, hn, hc⟩, hmax, hb⟩ := hsl
  rcases hc with hc | ⟨b, off, rfl, hc⟩
  · subst hc; simp at hp
  have c0 : w.cell? ⟨b, off + 0, none⟩ = some (.int .u8 ((l.getD 0 0 : Nat) : Int)) := hc 0 (by omega)
  have c1 : w.cell? ⟨b, off + 1, none⟩ = some (.int .u8 ((l.getD 1 0 : Nat) : Int)) := hc 1 (by omega)
  have c2 : w.cell? ⟨b, off + 2, none⟩ = some (.int .u8 ((l.getD 2 0 : Nat) : Int)) := hc 2 (by omega)
  have c3 : w.cell? ⟨b, off + 3, none⟩ = some (.int .u8 ((l.getD 3 0 : Nat) : Int)) := hc 3 (by omega)
  have h0 := getD_lt hb 0
  have h1 := getD_lt hb 1
  have h2 := getD_lt hb 2
  have h3 := getD_lt hb 3
  have hE : wrd l 0 = ((l.getD 0 0 * 256 + l.getD 1 0) * 256 + l.getD 2 0) * 256 + l.getD 3 0 := rfl
  rw [hE]
  clear hn hc hb hE
  generalize l.getD 0 0 = x0 at *
  generalize l.getD 1 0 = x1 at *
  generalize l.getD 2 0 = x2 at *
  generalize l.getD 3 0 = x3 at *
  rw [Nat.add_zero] at c0
  have f1 : bits .or .u32 ((x0 : Int) * 16777216) ((x1 : Int) * 65536) = ((2 ^ 24 * x0 + x1 * 65536 : Nat) : Int) := or_low 24 x0 (x1 * 65536) (by omega) (by omega) _ _ (by omega) (by omega)
  have f2 : bits .or .u32 ((2 ^ 24 * x0 + x1 * 65536 : Nat) : Int) ((x2 : Int) * 256) = ((2 ^ 16 * (x0 * 256 + x1) + x2 * 256 : Nat) : Int) := or_low 16 (x0 * 256 + x1) (x2 * 256) (by omega) (by omega) _ _ (by omega) (by omega)
  have f3 : bits .or .u32 ((2 ^ 16 * (x0 * 256 + x1) + x2 * 256 : Nat) : Int) (x3 : Int) = ((2 ^ 8 * ((x0 * 256 + x1) * 256 + x2) + x3 : Nat) : Int) := or_low 8 ((x0 * 256 + x1) * 256 + x2) x3 (by omega) (by omega) _ _ (by omega) (by omega)
  have e3 : ((x0 * 256 + x1) * 256 + x2) * 256 + x3 = 2 ^ 8 * ((x0 * 256 + x1) * 256 + x2) + x3 := by omega
  rw [e3]
  have b1 : 2 ^ 24 * x0 + x1 * 65536 < 4294967296 := by omega
  have b2 : 2 ^ 16 * (x0 * 256 + x1) + x2 * 256 < 4294967296 := by omega
  have b3 : 2 ^ 8 * ((x0 * 256 + x1) * 256 + x2) + x3 < 4294967296 := by omega
  clear e3
  generalize 2 ^ 24 * x0 + x1 * 65536 = y1 at *
  generalize 2 ^ 16 * (x0 * 256 + x1) + x2 * 256 = y2 at *
  generalize 2 ^ 8 * ((x0 * 256 + x1) * 256 + x2) + x3 = y3 at *
  go_enter Tryd.func96, Tryd.ntmps96
  go_wp2_with fail
  go_quiet (fail)
  go_wp2_with fail
  go_ret
  exact ⟨rfl, (Kp.drewN (Kp.refl (fun _ => False) _) _).below (Nat.le_refl _) (fun _ h => h.elim)⟩
end
section
open Go.RowKit
/-! ### The landed digest: words -/
theorem rot_or (x n : Nat) (hx : x < 4294967296) (hn : n ≤ 32) (A B : Int) (hA : A = ((x * 2 ^ (32 - n) % 4294967296 : Nat) : Int)) (hB : B = ((x / 2 ^ n : Nat) : Int)) : bits .or .u32 A B = (rt x n : Nat) := by
  subst hA
  subst hB
  have he : 2 ^ n * 2 ^ (32 - n) = 4294967296 := by rw [← Nat.pow_add]; have : n + (32 - n) = 32 := by omega
                                                    rw [this]
  have hp : 0 < 2 ^ n := Nat.pow_pos (by decide)
  have h1 : x / 2 ^ n < 2 ^ (32 - n) := by rw [Nat.div_lt_iff_lt_mul hp, Nat.mul_comm, he]; exact hx
  have h2 : x * 2 ^ (32 - n) % 4294967296 = 2 ^ (32 - n) * (x % 2 ^ n) := by
    rw [← he, Nat.mul_mod_mul_right, Nat.mul_comm]
  have h3 : x * 2 ^ (32 - n) % 4294967296 < 4294967296 := Nat.mod_lt _ (by decide)
  have h4 : x / 2 ^ n < 4294967296 := Nat.lt_of_le_of_lt (Nat.div_le_self _ _) hx
  rw [u32_or_nat _ _ h3 h4, h2, ← Nat.two_pow_add_eq_or_of_lt h1]
  unfold rt
  rw [Nat.add_comm, Nat.mul_comm]

set_option maxRecDepth 1000000 in
theorem rot_any (x n : Nat) (w : World) (hx : x < 4294967296) (hn : n = 2 ∨ n = 6 ∨ n = 7 ∨ n = 11 ∨ n = 13 ∨ n = 17 ∨ n = 18 ∨ n = 19 ∨ n = 22 ∨ n = 25) :
    Calls Tryd.prog 100 #[.int .u32 (x : Nat), .int .i64 (-(n : Int))] w fun e w' => e = .returned (.int .u32 (rt x n : Nat)) ∧ w' = w := by
  rcases hn with rfl | rfl | rfl | rfl | rfl | rfl | rfl | rfl | rfl | rfl
  · have hf : bits .and .u64 (IntKind.u64.wrap (-2)) 31 = 30 := by decide
    have ho : bits .or .u32 ((x : Int) * 1073741824 % 4294967296) ((x : Int) / 4) = (rt x 2 : Nat) := rot_or x 2 hx (by decide) _ _ (by omega) (by omega)
    go_enter Tryd.func100, Tryd.ntmps100
    go_wp2_with fail
    go_ret
    exact ⟨rfl, rfl⟩
  · have hf : bits .and .u64 (IntKind.u64.wrap (-6)) 31 = 26 := by decide
    have ho : bits .or .u32 ((x : Int) * 67108864 % 4294967296) ((x : Int) / 64) = (rt x 6 : Nat) := rot_or x 6 hx (by decide) _ _ (by omega) (by omega)
    go_enter Tryd.func100, Tryd.ntmps100
    go_wp2_with fail
    go_ret
    exact ⟨rfl, rfl⟩
  · have hf : bits .and .u64 (IntKind.u64.wrap (-7)) 31 = 25 := by decide
    have ho : bits .or .u32 ((x : Int) * 33554432 % 4294967296) ((x : Int) / 128) = (rt x 7 : Nat) := rot_or x 7 hx (by decide) _ _ (by omega) (by omega)
    go_enter Tryd.func100, Tryd.ntmps100
    go_wp2_with fail
    go_ret
    exact ⟨rfl, rfl⟩
  · have hf : bits .and .u64 (IntKind.u64.wrap (-11)) 31 = 21 := by decide
    have ho : bits .or .u32 ((x : Int) * 2097152 % 4294967296) ((x : Int) / 2048) = (rt x 11 : Nat) := rot_or x 11 hx (by decide) _ _ (by omega) (by omega)
    go_enter Tryd.func100, Tryd.ntmps100
    go_wp2_with fail
    go_ret
    exact ⟨rfl, rfl⟩
  · have hf : bits .and .u64 (IntKind.u64.wrap (-13)) 31 = 19 := by decide
    have ho : bits .or .u32 ((x : Int) * 524288 % 4294967296) ((x : Int) / 8192) = (rt x 13 : Nat) := rot_or x 13 hx (by decide) _ _ (by omega) (by omega)
    go_enter Tryd.func100, Tryd.ntmps100
    go_wp2_with fail
    go_ret
    exact ⟨rfl, rfl⟩
  · have hf : bits .and .u64 (IntKind.u64.wrap (-17)) 31 = 15 := by decide
    have ho : bits .or .u32 ((x : Int) * 32768 % 4294967296) ((x : Int) / 131072) = (rt x 17 : Nat) := rot_or x 17 hx (by decide) _ _ (by omega) (by omega)
    go_enter Tryd.func100, Tryd.ntmps100
    go_wp2_with fail
    go_ret
    exact ⟨rfl, rfl⟩
  · have hf : bits .and .u64 (IntKind.u64.wrap (-18)) 31 = 14 := by decide
    have ho : bits .or .u32 ((x : Int) * 16384 % 4294967296) ((x : Int) / 262144) = (rt x 18 : Nat) := rot_or x 18 hx (by decide) _ _ (by omega) (by omega)
    go_enter Tryd.func100, Tryd.ntmps100
    go_wp2_with fail
    go_ret
    exact ⟨rfl, rfl⟩
  · have hf : bits .and .u64 (IntKind.u64.wrap (-19)) 31 = 13 := by decide
    have ho : bits .or .u32 ((x : Int) * 8192 % 4294967296) ((x : Int) / 524288) = (rt x 19 : Nat) := rot_or x 19 hx (by decide) _ _ (by omega) (by omega)
    go_enter Tryd.func100, Tryd.ntmps100
    go_wp2_with fail
    go_ret
    exact ⟨rfl, rfl⟩
  · have hf : bits .and .u64 (IntKind.u64.wrap (-22)) 31 = 10 := by decide
    have ho : bits .or .u32 ((x : Int) * 1024 % 4294967296) ((x : Int) / 4194304) = (rt x 22 : Nat) := rot_or x 22 hx (by decide) _ _ (by omega) (by omega)
    go_enter Tryd.func100, Tryd.ntmps100
    go_wp2_with fail
    go_ret
    exact ⟨rfl, rfl⟩
  · have hf : bits .and .u64 (IntKind.u64.wrap (-25)) 31 = 7 := by decide
    have ho : bits .or .u32 ((x : Int) * 128 % 4294967296) ((x : Int) / 33554432) = (rt x 25 : Nat) := rot_or x 25 hx (by decide) _ _ (by omega) (by omega)
    go_enter Tryd.func100, Tryd.ntmps100
    go_wp2_with fail
    go_ret
    exact ⟨rfl, rfl⟩

set_option maxRecDepth 1000000 in
theorem turn_any (x n : Nat) (w : World) (hx : x < 4294967296) (hn : n = 2 ∨ n = 6 ∨ n = 7 ∨ n = 11 ∨ n = 13 ∨ n = 17 ∨ n = 18 ∨ n = 19 ∨ n = 22 ∨ n = 25) :
    Calls Tryd.prog 99 #[.int .u32 (x : Nat), .int .i64 (n : Nat)] w fun e w' => e = .returned (.int .u32 (rt x n : Nat)) ∧ w' = w := by
  have hn' : n < 32 := by omega
  go_enter Tryd.func99, Tryd.ntmps99
  go_wp2_with fail
  refine (rot_any x n w hx hn).mono ?_
  rintro e w' ⟨rfl, rfl⟩
  go_wp2_with fail
  go_ret
  exact ⟨rfl, rfl⟩

set_option maxRecDepth 1000000 in
theorem smallS0_any (x : Nat) (w : World) (hx : x < 4294967296) :
    Calls Tryd.prog 98 #[.int .u32 (x : Nat)] w fun e w' => e = .returned (.int .u32 (ls0 x : Nat)) ∧ w' = w := by
  obtain ⟨A3, A4, e1, e2, _, e4⟩ := ls0_bits x hx
  rw [e4]
  go_enter Tryd.func98, Tryd.ntmps98
  go_wp2_with fail
  refine (turn_any x 7 w hx (by decide)).mono ?_
  rintro e w' ⟨rfl, rfl⟩
  go_wp2_with fail
  refine (turn_any x 18 w' hx (by decide)).mono ?_
  rintro e w' ⟨rfl, rfl⟩
  go_wp2_with fail
  go_ret
  exact ⟨rfl, rfl⟩

set_option maxRecDepth 1000000 in
theorem smallS1_any (x : Nat) (w : World) (hx : x < 4294967296) :
    Calls Tryd.prog 97 #[.int .u32 (x : Nat)] w fun e w' => e = .returned (.int .u32 (ls1 x : Nat)) ∧ w' = w := by
  obtain ⟨A3, A4, e1, e2, _, e4⟩ := ls1_bits x hx
  rw [e4]
  go_enter Tryd.func97, Tryd.ntmps97
  go_wp2_with fail
  refine (turn_any x 17 w hx (by decide)).mono ?_
  rintro e w' ⟨rfl, rfl⟩
  go_wp2_with fail
  refine (turn_any x 19 w' hx (by decide)).mono ?_
  rintro e w' ⟨rfl, rfl⟩
  go_wp2_with fail
  go_ret
  exact ⟨rfl, rfl⟩

set_option maxRecDepth 1000000 in
theorem bigS0_any (x : Nat) (w : World) (hx : x < 4294967296) :
    Calls Tryd.prog 95 #[.int .u32 (x : Nat)] w fun e w' => e = .returned (.int .u32 (us0 x : Nat)) ∧ w' = w := by
  obtain ⟨A3, A4, e1, e2, _, e4⟩ := us0_bits x hx
  rw [e4]
  go_enter Tryd.func95, Tryd.ntmps95
  go_wp2_with fail
  refine (turn_any x 2 w hx (by decide)).mono ?_
  rintro e w' ⟨rfl, rfl⟩
  go_wp2_with fail
  refine (turn_any x 13 w' hx (by decide)).mono ?_
  rintro e w' ⟨rfl, rfl⟩
  go_wp2_with fail
  refine (turn_any x 22 w' hx (by decide)).mono ?_
  rintro e w' ⟨rfl, rfl⟩
  go_wp2_with fail
  go_ret
  exact ⟨rfl, rfl⟩

set_option maxRecDepth 1000000 in
theorem bigS1_any (x : Nat) (w : World) (hx : x < 4294967296) :
    Calls Tryd.prog 94 #[.int .u32 (x : Nat)] w fun e w' => e = .returned (.int .u32 (us1 x : Nat)) ∧ w' = w := by
  obtain ⟨A3, A4, e1, e2, _, e4⟩ := us1_bits x hx
  rw [e4]
  go_enter Tryd.func94, Tryd.ntmps94
  go_wp2_with fail
  refine (turn_any x 6 w hx (by decide)).mono ?_
  rintro e w' ⟨rfl, rfl⟩
  go_wp2_with fail
  refine (turn_any x 11 w' hx (by decide)).mono ?_
  rintro e w' ⟨rfl, rfl⟩
  go_wp2_with fail
  refine (turn_any x 25 w' hx (by decide)).mono ?_
  rintro e w' ⟨rfl, rfl⟩
  go_wp2_with fail
  go_ret
  exact ⟨rfl, rfl⟩
end
section
open Go.RowKit
def digs : Nat → Nat → List Nat
  | 0, _ => []
  | f + 1, n => if n < 128 then [n] else (n % 128 + 128) :: digs f (n / 128)

theorem digs_small {f n : Nat} (h : n < 128) : digs (f + 1) n = [n] := by simp [digs, h]
theorem digs_big {f n : Nat} (h : 128 ≤ n) : digs (f + 1) n = (n % 128 + 128) :: digs f (n / 128) := by
  have : ¬ n < 128 := by omega
  simp [digs, this]
/-- What a step of the loop keeps: the number is 128 or more, so there is fuel for another. -/
theorem fuel_down {f n : Nat} (h : 128 ≤ n) (hf : n < 128 ^ (f + 1)) : ∃ g, f = g + 1 ∧ n / 128 < 128 ^ (g + 1) := by
  match f, hf with
  | 0, hf => simp at hf; omega
  | g + 1, hf => exact ⟨g, rfl, by rw [Nat.pow_succ] at hf; exact Nat.div_lt_of_lt_mul (by omega)⟩
theorem digs_pos {f n : Nat} : 1 ≤ (digs (f + 1) n).length := by
  unfold digs; split <;> simp
theorem digs_len : ∀ f n, (digs f n).length ≤ f
  | 0, _ => by simp [digs]
  | f + 1, n => by
    unfold digs; split
    · simp
    · have := digs_len f (n / 128); simp; omega
end
section
open Go.RowKit
/-! ### Plain -/
/-- What Read tells: k bytes have gone by, m is what they come to. -/
def rd : Nat → Nat → List Nat → Nat × Nat × Nat
  | k, _, [] => if k = 9 then (0, 0, 11) else (0, 0, 10)
  | k, m, x :: r => if k = 9 then (0, 0, 11) else if 128 ≤ x then rd (k + 1) (m + x % 128 * 128 ^ k) r else if x = 0 ∧ 0 < k then (0, 0, 12) else (m + x % 128 * 128 ^ k, k + 1, 0)

theorem and127 (x : Nat) (h : x < 256) : bits .and .u8 (x : Int) 127 = ((x % 128 : Nat) : Int) := by
  have := bits_mask .u8 8 (by decide) wraps_u8 7 (by decide) (x : Int) (by omega) (by omega)
  simpa using this
theorem and128 (x : Nat) (h : x < 256) : bits .and .u8 (x : Int) 128 = if 128 ≤ x then 128 else 0 := by
  have h1 := u8_and_nat x 128 h (by omega)
  have h2 := nat_bit 7 x
  have e : (2 : Nat) ^ 7 = 128 := rfl
  rw [e] at h2
  rw [h2] at h1
  have h3 : bits .and .u8 (x : Int) 128 = ((x / 128 % 2 * 128 : Nat) : Int) := h1
  rw [h3]
  split <;> omega
theorem pow7 (k : Nat) : 2 ^ (7 * k) = 128 ^ k := by rw [Nat.pow_mul]
theorem small_pow (k : Nat) (h : k ≤ 8) : 128 ^ k ≤ 72057594037927936 := by
  have h2 : 128 ^ k ≤ 128 ^ 8 := Nat.pow_le_pow_right (by decide) h
  exact h2
theorem step_val (x m k : Nat) (hx : x < 256) (hk : k ≤ 8) (hm : m < 128 ^ k) :
    bits .or .u64 (m : Int) (IntKind.u64.wrap (IntKind.u64.wrap (bits .and .u8 (x : Int) 127) * 2 ^ (7 * k))) = ((m + x % 128 * 128 ^ k : Nat) : Int) := by
  rw [and127 x hx]
  have hp := small_pow k hk
  have hy : x % 128 * 128 ^ k < 128 * 72057594037927936 := by
    have h1 : x % 128 < 128 := by omega
    have h2 : 0 < 128 ^ k := Nat.pow_pos (by decide)
    calc x % 128 * 128 ^ k < 128 * 128 ^ k := Nat.mul_lt_mul_of_pos_right h1 h2
      _ ≤ 128 * 72057594037927936 := Nat.mul_le_mul_left _ hp
  have e1 : IntKind.u64.wrap (((x % 128 : Nat)) : Int) = ((x % 128 : Nat) : Int) := by rw [IntKind.wrap_u64]; omega
  have e2 : ((x % 128 : Nat) : Int) * 2 ^ (7 * k) = ((x % 128 * 128 ^ k : Nat) : Int) := by
    rw [Int.natCast_mul, ← pow7, Int.natCast_pow]; rfl
  rw [e1, e2]
  generalize hY : x % 128 * 128 ^ k = y at *
  have e3 : IntKind.u64.wrap ((y : Nat) : Int) = ((y : Nat) : Int) := by rw [IntKind.wrap_u64]; omega
  rw [e3, u64_or_nat m y (by omega) (by omega)]
  rw [Nat.or_comm, nat_join (7 * k) y m (by rw [pow7, ← hY]; exact Nat.mul_mod_left _ _) (by rw [pow7]; exact hm), Nat.add_comm]
theorem next_small (x m k : Nat) (hm : m < 128 ^ k) : m + x % 128 * 128 ^ k < 128 ^ (k + 1) := by
  have h1 : x % 128 ≤ 127 := by omega
  have h2 : x % 128 * 128 ^ k ≤ 127 * 128 ^ k := Nat.mul_le_mul_right _ h1
  rw [Nat.pow_succ]
  omega
theorem drop_at (xs : List Nat) (k : Nat) (h : k < xs.length) : xs.drop k = xs.getD k 0 :: xs.drop (k + 1) := by
  rw [List.drop_eq_getElem_cons h]
  simp [List.getD, h]

/-! ### The walk -/
set_option maxRecDepth 1000000 in
set_option maxHeartbeats 400000 in
theorem vread_any (b off len cap : Nat) (xs : List Nat) (w : World) (hz : xs.length = len) (hmax : len ≤ 9223372036854775807)
    (hc : ∀ j, j < len → w.cell? ⟨b, off + j, none⟩ = some (.int .u8 (xs.getD j 0 : Nat)))
    (hr : ∀ j : Nat, xs.getD j 0 < 256) :
    Calls Tryd.prog 56 #[.slice (some ⟨b, off, none⟩) len cap] w fun e w' => e = .returned (.tuple #[.int .u64 (rd 0 0 xs).1, .int .i64 (rd 0 0 xs).2.1, .int .i64 (rd 0 0 xs).2.2]) ∧ w' = w := by
  generalize hR : rd 0 0 xs = R
  have HR0 := hide hR
  clear hR
  go_enter Tryd.func56, Tryd.ntmps56
  go_wp2
  refine scope_again 0 (fun a' w' => w' = w ∧ ∃ (m k : Nat) (u7 u8 u9 u10 u11 u12 u13 u14 u15 u16 u17 u18 u19 u20 u21 u22 u23 u24 u25 u26 u27 u28 u29 u30 u31 u32 u33 u34 u35 u36 u37 u38 : Value), a' = { tmps := #[.slice (some ⟨b, off, none⟩) len cap, undef, .int .u64 0, .int .i64 0, .int .i64 0, .int .u64 m, .int .i64 k, u7, u8, u9, u10, u11, u12, u13, u14, u15, u16, u17, u18, u19, u20, u21, u22, u23, u24, u25, u26, u27, u28, u29, u30, u31, u32, u33, u34, u35, u36, u37, u38], defers := [] } ∧ k ≤ 9 ∧ k ≤ len ∧ m < 128 ^ k ∧ rd k m (xs.drop k) = R) (fun a' _ => 10 - (intOf (a'.tmps.getD 6 undef)).toNat) rfl ?_ ?_
  · clear HR0
    rintro a' w' ⟨rfl, m, k, u7, u8, u9, u10, u11, u12, u13, u14, u15, u16, u17, u18, u19, u20, u21, u22, u23, u24, u25, u26, u27, u28, u29, u30, u31, u32, u33, u34, u35, u36, u37, u38, rfl, hk, hkl, hm, hrel⟩
    have HM := hide hm
    have HREL := hide hrel
    have HZ := hide hz
    have hcell : k < len → w'.cell? ⟨b, off + k, none⟩ = some (.int .u8 (xs.getD k 0 : Nat)) := fun h => hc k h
    have hrk : ((xs.getD k 0 : Nat) : Int) < 256 := by have := hr k; omega
    have hdr : Hid (k < len → xs.drop k = xs.getD k 0 :: xs.drop (k + 1)) := fun h => drop_at xs k (by omega)
    generalize xs.getD k 0 = x at *
    clear hc hr hm hrel hz
    by_cases h9 : k = 9
    · have h9' : ((k : Int) == 9) = true := beq_iff_eq.2 (by omega)
      have hend : R = (0, 0, 11) := by
        rw [← HREL.out, h9]; cases xs.drop 9 <;> rfl
      subst h9
      subst hend
      clear HREL hdr HM
      go_wp2
      simp only [Exit.jump]
      go_ret3
      exact ⟨rfl, rfl⟩
    · have h9' : ((k : Int) == 9) = false := beq_eq_false_iff_ne.2 (by omega)
      by_cases hl : k = len
      · have hl' : ((k : Int) == (len : Int)) = true := beq_iff_eq.2 (by omega)
        have hend : R = (0, 0, 10) := by
          rw [← HREL.out, List.drop_eq_nil_of_le (by have := HZ.out; omega)]; simp [rd, h9]
        subst hend
        clear HREL hdr HM h9 hcell
        go_wp2
        simp only [Exit.jump]
        go_ret3
        exact ⟨rfl, rfl⟩
      · have hl' : ((k : Int) == (len : Int)) = false := beq_eq_false_iff_ne.2 (by omega)
        have hlt : k < len := by omega
        have hcc := hcell hlt
        have hrd := HREL.out
        rw [hdr.out hlt] at hrd
        have HRD := hide hrd
        have hx : x < 256 := by omega
        have HSV := hide (step_val x m k hx (by omega) HM.out)
        have hk8 : k ≤ 8 := by omega
        clear hrd HREL hdr hcell h9 hl HZ
        by_cases hb : 128 ≤ x
        · have ha : (bits .and .u8 (x : Int) 128 != 0) = true := by rw [and128 x hx, if_pos hb]; rfl
          go_wp2
          go_step3
          rw [HSV.out]
          refine ⟨rfl, ⟨rfl, m + x % 128 * 128 ^ k, k + 1, _, _, _, _, _, _, _, _, _, _, _, _, _, _, _, _, _, _, _, _, _, _, _, _, _, _, _, _, _, _, _, _, rfl, by omega, by omega, next_small x m k HM.out, ?_⟩, ?_⟩
          · have h := HRD.out
            have h9 : k ≠ 9 := by have := beq_eq_false_iff_ne.1 h9'; omega
            rw [rd, if_neg h9, if_pos hb] at h
            exact h
          · simp [intOf]; omega
        · have ha : (bits .and .u8 (x : Int) 128 != 0) = false := by rw [and128 x hx, if_neg hb]; rfl
          have h := HRD.out
          have h9 : k ≠ 9 := by have := beq_eq_false_iff_ne.1 h9'; omega
          rw [rd, if_neg h9, if_neg hb] at h
          clear h9 HRD
          by_cases hq : x = 0 ∧ 0 < k
          · rw [if_pos hq] at h
            subst h
            obtain ⟨hx0, hk0⟩ := hq
            have hx0' : ((x : Int) == 0) = true := beq_iff_eq.2 (by omega)
            have hk0' : decide ((1 : Int) < (k : Int) + 1) = true := by simp; omega
            clear HSV HM hx0
            go_wp2
            all_goals simp only [Exit.jump]
            all_goals go_ret3
            all_goals exact ⟨rfl, rfl⟩
          · rw [if_neg hq] at h
            subst h
            have HQ := hide hq
            clear hq
            by_cases hx0 : x = 0
            · have hx0' : ((x : Int) == 0) = true := beq_iff_eq.2 (by omega)
              have hk0 : k = 0 := by have := HQ.out; omega
              have hk0' : decide ((1 : Int) < (k : Int) + 1) = false := by simp; omega
              have hk1 : ¬ ((1 : Int) < (k : Int) + 1) := by omega
              clear hx0 hk0
              go_wp2
              simp only [Exit.jump]
              rw [HSV.out]
              go_ret3
              exact ⟨rfl, rfl⟩
            · have hx0' : ((x : Int) == 0) = false := beq_eq_false_iff_ne.2 (by omega)
              clear hx0
              go_wp2
              simp only [Exit.jump]
              rw [HSV.out]
              go_ret3
              exact ⟨rfl, rfl⟩
  · intro HR
    go_wp2
    go_step3
    rename_i hK
    exact hK _ _ (HR.out _ _ ⟨rfl, 0, 0, _, _, _, _, _, _, _, _, _, _, _, _, _, _, _, _, _, _, _, _, _, _, _, _, _, _, _, _, _, _, _, _, rfl, by omega, by omega, by decide, by simpa using HR0.out⟩)

set_option maxRecDepth 1000000 in
set_option maxHeartbeats 400000 in
theorem vread_empty (a : Option Addr) (cap : Nat) (w : World) :
    Calls Tryd.prog 56 #[.slice a 0 cap] w fun e w' => e = .returned (.tuple #[.int .u64 0, .int .i64 0, .int .i64 10]) ∧ w' = w := by
  go_enter Tryd.func56, Tryd.ntmps56
  go_wp2
  refine wp_scope_jumps 0 (fun _ _ => False) (fun _ _ => 0) rfl ?_ (fun _ _ h => h.elim)
  go_wp2
  go_step3
  go_wp2
  simp only [Exit.jump]
  go_ret3
  exact ⟨rfl, rfl⟩
theorem BSl.vread {w : World} {v : Value} {xs : List Nat} (h : BSl w v xs) :
    Calls Tryd.prog 56 #[v] w fun e w' => e = .returned (.tuple #[.int .u64 (rd 0 0 xs).1, .int .i64 (rd 0 0 xs).2.1, .int .i64 (rd 0 0 xs).2.2]) ∧ w' = w := by
  obtain ⟨⟨a, cap, rfl, _, hc⟩, hmax, hb⟩ := h
  rcases hc with rfl | ⟨b, off, rfl, hc⟩
  · exact vread_empty a cap w
  · exact vread_any b off xs.length cap xs w rfl hmax hc (getD_lt hb)
end
section
open Go.RowKit
/-- What Number of the document tells. -/
def dnum (xs : List Nat) : Nat × Nat × Nat := if (rd 0 0 xs).2.2 = 0 then rd 0 0 xs else (0, 0, if (rd 0 0 xs).2.2 = 10 then 32 else 33)
def dnumR (r : Nat × Nat × Nat) : Value := .tuple #[.int .u64 (r.1 : Nat), .int .i64 (r.2.1 : Nat), .int .i64 (r.2.2 : Nat)]

theorem num_val (x m k : Nat) (hk : k ≤ 8) (hm : m < 128 ^ k) : IntKind.u64.wrap ((m : Int) + IntKind.u64.wrap ((x : Int) % 128 * 2 ^ (7 * k))) = ((m + x % 128 * 128 ^ k : Nat) : Int) := by
  have hp := small_pow k hk
  have hy : x % 128 * 128 ^ k ≤ 127 * 128 ^ k := Nat.mul_le_mul_right _ (by omega)
  have e2 : (x : Int) % 128 * 2 ^ (7 * k) = ((x % 128 * 128 ^ k : Nat) : Int) := by
    rw [Int.natCast_mul, ← pow7, Int.natCast_pow]; rfl
  rw [e2]
  generalize x % 128 * 128 ^ k = y at *
  have e3 : IntKind.u64.wrap ((y : Nat) : Int) = ((y : Nat) : Int) := by rw [IntKind.wrap_u64]; omega
  rw [e3, IntKind.wrap_u64]
  omega

set_option maxRecDepth 1000000 in
set_option maxHeartbeats 4000000 in
theorem refNumber_any (w : World) (v : Value) (xs : List Nat) (hsl : BSl w v xs) :
    Calls Tryd.prog 81 #[v] w fun e w' => e = .returned (dnumR (dnum xs)) ∧ Kp (fun _ => False) w w' := by
  obtain ⟨⟨a, cap, rfl, hn, hc⟩, hmax, hb⟩ := hsl
  have HC := hide hc
  have HB := hide hb
  clear hn hc hb
  go_enter Tryd.func81, Tryd.ntmps81
  go_wp2
  go_loop [5, 6] (fun nn ii => ∃ k m : Nat, k ≤ 9 ∧ k ≤ xs.length ∧ ii = .int .i64 (k : Nat) ∧ nn = .int .u64 (m : Nat) ∧ Hid (m < 128 ^ k) ∧ Hid (rd k m (xs.drop k) = rd 0 0 xs)) (fun _ ii => 9 - (intOf ii).toNat)
  case atStart => exact ⟨0, 0, by omega, by omega, rfl, rfl, by show _ < _; simp, rfl⟩
  case round =>
    obtain ⟨k, m, hk9, hkl, rfl, rfl, HM, HRD⟩ := hrel
    by_cases hll : k < xs.length
    · have hll' : (k : Int) < (xs.length : Int) := by omega
      by_cases h9 : k < 9
      · have h9' : (k : Int) < 9 := by omega
        rcases HC.out with hc | ⟨b, off, rfl, hcc⟩
        · subst hc; simp at hll
        have c := hcc k hll
        have hx := getD_lt HB.out k
        have hd := HRD.out
        rw [drop_at xs k hll, rd, if_neg (by omega)] at hd
        have HV := hide (num_val (xs.getD k 0) m k (by omega) HM.out)
        have HNS := hide (next_small (xs.getD k 0) m k HM.out)
        clear hcc
        generalize xs.getD k 0 = x at *
        by_cases hx128 : 128 ≤ x
        · rw [if_pos hx128] at hd
          have HD := hide hd
          clear hd
          have g1 : ¬ (x : Int) < 128 := by omega
          go_wp2
          go_round
          case rel => exact ⟨k + 1, m + x % 128 * 128 ^ k, by omega, by omega, by go_num, by rw [HV.out], HNS, HD⟩
          case measure => simp [intOf]; omega
        · rw [if_neg hx128] at hd
          have g1 : (x : Int) < 128 := by omega
          by_cases hz : x = 0 ∧ 0 < k
          · rw [if_pos hz] at hd
            have HE : Hid (dnum xs = (0, 0, 33)) := by show _ = _; unfold dnum; rw [← hd]; rfl
            clear hd
            obtain ⟨rfl, hk0⟩ := hz
            have hk0' : (0 : Int) < (k : Int) := by omega
            have c' : w.cell? ⟨b, off + k, none⟩ = some (.int .u8 0) := c
            clear c
            go_wp2
            go_ret3
            exact ⟨by rw [HE.out]; rfl, Kp.refl _ _⟩
          · rw [if_neg hz] at hd
            have HE : Hid (dnum xs = (m + x % 128 * 128 ^ k, k + 1, 0)) := by show _ = _; unfold dnum; rw [← hd]; rfl
            clear hd
            have HVE := hide HV.out
            by_cases hk0 : 0 < k
            · have hk0' : (0 : Int) < (k : Int) := by omega
              have hx0 : ((x : Int) == 0) = false := beq_eq_false_iff_ne.2 (by omega)
              clear hz
              go_wp2
              go_ret3
              refine ⟨?_, Kp.refl _ _⟩
              rw [HE.out]
              simp only [dnumR]
              rw [← HVE.out]
              rfl
            · have hk0' : ¬ (0 : Int) < (k : Int) := by omega
              clear hz
              go_wp2
              go_ret3
              refine ⟨?_, Kp.refl _ _⟩
              rw [HE.out]
              simp only [dnumR]
              rw [← HVE.out]
              rfl
      · have h9' : ¬ (k : Int) < 9 := by omega
        have hl9 : (9 : Int) ≤ (xs.length : Int) := by omega
        have HE : Hid (dnum xs = (0, 0, 33)) := by
          show _ = _
          have hd := HRD.out
          have hk : k = 9 := by omega
          rw [drop_at xs k hll, rd, if_pos hk] at hd
          unfold dnum
          rw [← hd]
          rfl
        go_wp2
        go_ret3
        exact ⟨by rw [HE.out]; rfl, Kp.refl _ _⟩
    · have hll' : ¬ (k : Int) < (xs.length : Int) := by omega
      have hkx : k = xs.length := by omega
      have hd := HRD.out
      rw [hkx, List.drop_length, rd] at hd
      by_cases h9 : xs.length = 9
      · have hl9 : (9 : Int) ≤ (xs.length : Int) := by omega
        rw [if_pos h9] at hd
        have HE : Hid (dnum xs = (0, 0, 33)) := by show _ = _; unfold dnum; rw [← hd]; rfl
        clear hd hkx
        go_wp2
        go_ret3
        exact ⟨by rw [HE.out]; rfl, Kp.refl _ _⟩
      · have hl9 : ¬ (9 : Int) ≤ (xs.length : Int) := by omega
        rw [if_neg h9] at hd
        have HE : Hid (dnum xs = (0, 0, 32)) := by show _ = _; unfold dnum; rw [← hd]; rfl
        clear hd hkx
        go_wp2
        go_ret3
        exact ⟨by rw [HE.out]; rfl, Kp.refl _ _⟩
end
section
open Go.RowKit
theorem rd_bound : ∀ (xs : List Nat) (k m : Nat), k ≤ 9 → m < 128 ^ k → (rd k m xs).2.2 = 0 → (rd k m xs).1 < 9223372036854775808 ∧ (rd k m xs).2.1 ≤ k + xs.length ∧ (rd k m xs).2.1 ≤ 9
  | [], k, m, hk, hm, h => by
    rw [rd] at h
    split at h <;> simp at h
  | x :: r, k, m, hk, hm, h => by
    rw [rd] at h ⊢
    by_cases h9 : k = 9
    · rw [if_pos h9] at h; simp at h
    · rw [if_neg h9] at h ⊢
      have hn := next_small x m k hm
      by_cases hx : 128 ≤ x
      · rw [if_pos hx] at h ⊢
        have := rd_bound r (k + 1) _ (by omega) hn h
        simp only [List.length_cons]
        omega
      · rw [if_neg hx] at h ⊢
        by_cases hz : x = 0 ∧ 0 < k
        · rw [if_pos hz] at h; simp at h
        · rw [if_neg hz]
          have hp : 128 ^ (k + 1) ≤ 128 ^ 9 := Nat.pow_le_pow_right (by decide) (by omega)
          have e9 : 128 ^ 9 = 9223372036854775808 := rfl
          simp only [List.length_cons]
          omega
theorem dnum_bound (xs : List Nat) (h : (dnum xs).2.2 = 0) : (dnum xs).1 < 9223372036854775808 ∧ (dnum xs).2.1 ≤ xs.length ∧ (dnum xs).2.1 ≤ 9 := by
  unfold dnum at h ⊢
  by_cases h0 : (rd 0 0 xs).2.2 = 0
  · rw [if_pos h0]
    have := rd_bound xs 0 0 (by omega) (by simp) h0
    omega
  · rw [if_neg h0] at h
    simp only at h
    split at h <;> simp at h
theorem dnum_bad (xs : List Nat) (h : (dnum xs).2.2 ≠ 0) : (dnum xs).2.2 = 32 ∨ (dnum xs).2.2 = 33 := by
  unfold dnum at h ⊢
  by_cases h0 : (rd 0 0 xs).2.2 = 0
  · rw [if_pos h0] at h; exact absurd h0 h
  · rw [if_neg h0]
    simp only
    split
    · exact .inl rfl
    · exact .inr rfl
/-- What Read of the document tells. -/
def dread (xs : List Nat) : Nat × List Nat × Nat × Nat :=
  if (dnum xs).2.2 ≠ 0 then (0, [], 0, (dnum xs).2.2)
  else if (dnum (xs.drop (dnum xs).2.1)).2.2 ≠ 0 then (0, [], 0, (dnum (xs.drop (dnum xs).2.1)).2.2)
  else if (dnum xs).1 ≠ 18 ∧ (dnum xs).1 ≠ 0 then (0, [], 0, 30)
  else if ((dnum xs).1 = 18 ∧ (dnum (xs.drop (dnum xs).2.1)).1 ≠ 32) ∨ ((dnum xs).1 = 0 ∧ 64 < (dnum (xs.drop (dnum xs).2.1)).1) then (0, [], 0, 31)
  else if xs.length - ((dnum xs).2.1 + (dnum (xs.drop (dnum xs).2.1)).2.1) < (dnum (xs.drop (dnum xs).2.1)).1 then (0, [], 0, 32)
  else ((dnum xs).1, (xs.drop ((dnum xs).2.1 + (dnum (xs.drop (dnum xs).2.1)).2.1)).take (dnum (xs.drop (dnum xs).2.1)).1, (dnum xs).2.1 + (dnum (xs.drop (dnum xs).2.1)).2.1 + (dnum (xs.drop (dnum xs).2.1)).1, 0)

theorem dread_one {xs : List Nat} (h : (dnum xs).2.2 ≠ 0) : dread xs = (0, [], 0, (dnum xs).2.2) := by unfold dread; rw [if_pos h]
theorem dread_rest {xs : List Nat} {hn u : Nat} (h : dnum xs = (hn, u, 0)) : 
    ((dnum (xs.drop u)).2.2 ≠ 0 → dread xs = (0, [], 0, (dnum (xs.drop u)).2.2)) ∧
    ∀ n m, dnum (xs.drop u) = (n, m, 0) →
      (hn ≠ 18 ∧ hn ≠ 0 → dread xs = (0, [], 0, 30)) ∧ (¬ (hn ≠ 18 ∧ hn ≠ 0) →
      ((hn = 18 ∧ n ≠ 32) ∨ (hn = 0 ∧ 64 < n) → dread xs = (0, [], 0, 31)) ∧ (¬ ((hn = 18 ∧ n ≠ 32) ∨ (hn = 0 ∧ 64 < n)) →
      (xs.length - (u + m) < n → dread xs = (0, [], 0, 32)) ∧ (¬ xs.length - (u + m) < n → dread xs = (hn, (xs.drop (u + m)).take n, u + m + n, 0)))) := by
  have e1 : (dnum xs).1 = hn := by rw [h]
  have e2 : (dnum xs).2.1 = u := by rw [h]
  have e3 : ¬ (dnum xs).2.2 ≠ 0 := by rw [h]; simp
  unfold dread
  rw [if_neg e3, e1, e2]
  refine ⟨fun hb => by rw [if_pos hb], fun n m hq => ?_⟩
  have q1 : (dnum (xs.drop u)).1 = n := by rw [hq]
  have q2 : (dnum (xs.drop u)).2.1 = m := by rw [hq]
  have q3 : ¬ (dnum (xs.drop u)).2.2 ≠ 0 := by rw [hq]; simp
  rw [if_neg q3, q1, q2]
  refine ⟨fun h1 => by rw [if_pos h1], fun h1 => ?_⟩
  rw [if_neg h1]
  refine ⟨fun h2 => by rw [if_pos h2], fun h2 => ?_⟩
  rw [if_neg h2]
  exact ⟨fun h3 => by rw [if_pos h3], fun h3 => by rw [if_neg h3]⟩
/-- The bytes from a place on, where something is left behind it. -/
theorem BSl.drop {w : World} {b off n cap : Nat} {xs : List Nat} (h : BSl w (.slice (some ⟨b, off, none⟩) n cap) xs) (k : Nat) (hk : k ≤ xs.length) : BSl w (.slice (some ⟨b, off + k, none⟩) (n - k) (cap - k)) (xs.drop k) := by
  obtain ⟨⟨a, cap', hv, hn, hc⟩, hmax, hby⟩ := h
  injection hv with h1 h2 h3
  subst h1
  subst h3
  subst h2
  refine ⟨⟨_, cap - k, by rw [List.length_drop], ⟨by rw [List.length_drop]; omega, fun h => by cases h⟩, ?_⟩, by rw [List.length_drop]; omega, fun z hz => hby z (List.mem_of_mem_drop hz)⟩
  rcases hc with hc | ⟨b', off', e, hc⟩
  · exact .inl (by subst hc; simp)
  · injection e with e
    injection e with e1 e2 e3
    subst e1
    subst e2
    refine .inr ⟨b, off + k, rfl, fun j hj => ?_⟩
    rw [List.length_drop] at hj
    have hq := hc (k + j) (by omega)
    have e : off + (k + j) = off + k + j := by omega
    rw [e] at hq
    rw [hq]
    simp [List.getD]

theorem results_four {fn : Func} {p q r s : Tmp} (h : fn.results = #[.tmp p, .tmp q, .tmp r, .tmp s]) (tmps : Array Value) (P : Program) (w : World) :
    (results fn tmps).run P w = .ok (.tuple #[tmps.getD p undef, tmps.getD q undef, tmps.getD r undef, tmps.getD s undef]) w := by
  simp only [results, h]
  simp
theorem dnum_nil : dnum [] = (0, 0, 32) := rfl

set_option maxRecDepth 1000000 in
set_option maxHeartbeats 4000000 in
theorem refDRead_any (w : World) (v : Value) (xs : List Nat) (hsl : BSl w v xs) :
    Calls Tryd.prog 82 #[v] w fun e w' => ∃ v', e = .returned (.tuple #[.int .u64 ((dread xs).1 : Nat), v', .int .i64 ((dread xs).2.2.1 : Nat), .int .i64 ((dread xs).2.2.2 : Nat)]) ∧ w'.ownsRow w.heap.size 5 1 v' (dread xs).2.1.length (bv (dread xs).2.1) ∧ Below w.heap.size w w' := by
  have HSL := hide hsl
  have HRB := hide (dnum_bound xs)
  have HRX := hide (dnum_bad xs)
  have HD1 := hide (@dread_one xs)
  have HD2 : Hid (∀ hn u : Nat, dnum xs = (hn, u, 0) → _) := fun hn u h => dread_rest (xs := xs) (hn := hn) (u := u) h
  obtain ⟨⟨a, cap, rfl, hn, hc⟩, hmax, hb⟩ := hsl
  have hcap := hn.1
  clear hn hc hb
  go_enter Tryd.func82, Tryd.ntmps82
  go_wp2_with fail
  refine (refNumber_any _ _ xs HSL.out).mono ?_
  rintro e w1 ⟨rfl, hk1⟩
  have HS1 := hide (HSL.out.move (fun p u h => hk1.cell h (fun h => h)))
  have HB1 : Hid (Below w.heap.size w w1) := hk1.below (Nat.le_refl _) (fun _ h => h.elim)
  clear hk1
  by_cases hr : (dnum xs).2.2 = 0
  · have hrb := HRB.out hr
    obtain ⟨hn, u, re, hR⟩ : ∃ hn u re, dnum xs = (hn, u, re) := ⟨_, _, _, rfl⟩
    rw [hR] at hr hrb
    simp only at hr hrb
    subst hr
    obtain ⟨hhn, hu, hu9⟩ := hrb
    have HH := hide (HD2.out hn u hR)
    clear HD1 HD2 HRX HRB
    obtain ⟨⟨a', cap', hv, hn1, hc⟩, hmax1, hb1⟩ := HS1.out
    injection hv with hv1 hv2 hv3
    subst hv1
    subst hv3
    rcases hc with hc | ⟨b, off, rfl, hc⟩
    · subst hc
      rw [dnum_nil] at hR
      injection hR with _ hR
      injection hR with _ hR
      cases hR
    clear hn1 hc hb1 hv2
    simp only [dnumR]
    by_cases hcu : cap = u
    · have hxu : xs.drop u = [] := List.drop_of_length_le (by omega)
      have HE : Hid (dread xs = (0, [], 0, 32)) := by
        have h := HH.out.1
        rw [hxu, dnum_nil] at h
        exact h (by simp)
      have HSD : Hid (BSl w1 (.slice (some ⟨b, off, none⟩) 0 0) []) := ⟨⟨_, 0, rfl, ⟨by simp, fun h => by cases h⟩, .inl rfl⟩, by simp, fun z hz => by cases hz⟩
      have hul : xs.length = u := by omega
      rw [hul] at HS1
      clear hxu HH hhn
      subst hcu
      go_wp2_with fail
      refine (refNumber_any _ _ [] HSD.out).mono ?_
      rintro e w2 ⟨rfl, hk2⟩
      have HB2 : Hid (Below w.heap.size w w2) := HB1.out.trans (hk2.below HB1.out.size (fun _ h => h.elim))
      clear hk2 HSD HS1 HB1 HSL
      rw [dnum_nil]
      simp only [dnumR]
      go_wp2
      refine bodyPost_ret (results_four rfl _ _ _) rfl ⟨_, by rw [HE.out]; rfl, by rw [HE.out]; exact World.ownsRow_nil _ _ _ _, HB2.out⟩
    · have hcu' : ¬ u = cap := fun e => hcu e.symm
      have huc : (u : Int) ≤ (xs.length : Int) := by omega
      have HSD := hide (HS1.out.drop u hu)
      go_wp2_with fail
      refine (refNumber_any _ _ (xs.drop u) HSD.out).mono ?_
      rintro e w2 ⟨rfl, hk2⟩
      have HS2 := hide (HS1.out.move (fun p u h => hk2.cell h (fun h => h)))
      have HB2 : Hid (Below w.heap.size w w2) := HB1.out.trans (hk2.below HB1.out.size (fun _ h => h.elim))
      clear hk2 HSD HS1 HB1 HSL
      have HQB := hide (dnum_bound (xs.drop u))
      have HQX := hide (dnum_bad (xs.drop u))
      obtain ⟨n, m, qe, hQ⟩ : ∃ n m qe, dnum (xs.drop u) = (n, m, qe) := ⟨_, _, _, rfl⟩
      rw [hQ] at HQB HQX HH ⊢
      simp only [dnumR] at HQB HQX HH ⊢
      by_cases hq : qe = 0
      · subst hq
        have hqb := HQB.out rfl
        rw [List.length_drop] at hqb
        obtain ⟨hqn, hqm, hqm9⟩ := hqb
        have HK := hide (HH.out.2 n m rfl)
        clear HQB HQX HH hQ hR
        by_cases h18 : hn = 18
        · subst h18
          have HK2 := hide (HK.out.2 (by omega))
          by_cases hn32 : n = 32
          · subst hn32
            have HK3 := hide (HK2.out.2 (by omega))
            clear HK HK2
            by_cases hs : xs.length - (u + m) < 32
            · have HE : Hid (dread xs = (0, [], 0, 32)) := HK3.out.1 hs
              have hs' : (xs.length : Int) - ((u : Int) + (m : Int)) < (32 : Int) := by omega
              go_wp2
              refine bodyPost_ret (results_four rfl _ _ _) rfl ⟨_, by rw [HE.out]; rfl, by rw [HE.out]; exact World.ownsRow_nil _ _ _ _, HB2.out⟩
            · have HE : Hid (dread xs = (18, (xs.drop (u + m)).take 32, u + m + 32, 0)) := HK3.out.2 hs
              have hs' : ¬ (xs.length : Int) - ((u : Int) + (m : Int)) < (32 : Int) := by omega
              have hum : u + m ≤ xs.length := by omega
              have hca : ¬ u + m = cap := by omega
              have hum' : (u : Int) + (m : Int) + (32 : Int) ≤ (cap : Int) := by omega
              have HSX : Hid (BSl w2 (.slice (some ⟨b, off + (u + m), none⟩) 32 (cap - (u + m))) ((xs.drop (u + m)).take 32)) := (HS2.out.drop (u + m) hum).take 32 (by rw [List.length_drop]; omega)
              have HDL : Hid (((xs.drop (u + m)).take 32).length = 32) := by show _ = _; rw [List.length_take, List.length_drop]; omega
              generalize (xs.drop (u + m)).take 32 = D at *
              go_wp2_with (at_builtin; refine append_bsl rfl _ _ rfl w.heap.size _ 0 [] rfl (World.ownsRow_nil _ _ _ _) _ D rfl ?hs ?b1 ?b2 ?_)
              case hs => exact HSX.out
              case b1 => rw [HDL.out]; omega
              case b2 => exact HB2.out.size
              intro v3 w3 ho3 hg3
              have HB3 : Hid (Below w.heap.size w w3) := HB2.out.grown hg3 HB2.out.size (fun q hq => by cases hq)
              have HO3 := hide ho3
              clear ho3 hg3
              go_wp2
              refine bodyPost_ret (results_four rfl _ _ _) rfl ⟨v3, ?_, ?_, HB3.out⟩
              · rw [HE.out]
                have e1 : ((u + m + 32 : Nat) : Int) = (u : Int) + (m : Int) + 32 := by omega
                simp only [e1]
                rfl
              · rw [HE.out]
                have h := HO3.out
                simpa using h
          · have g32 : ((n : Int) != 32) = true := bne_iff_ne.2 (by omega)
            have HE : Hid (dread xs = (0, [], 0, 31)) := HK2.out.1 (by omega)
            go_wp2
            refine bodyPost_ret (results_four rfl _ _ _) rfl ⟨_, by rw [HE.out]; rfl, by rw [HE.out]; exact World.ownsRow_nil _ _ _ _, HB2.out⟩
        · have g18 : ((hn : Int) != 18) = true := bne_iff_ne.2 (by omega)
          have g18' : ((hn : Int) == 18) = false := beq_eq_false_iff_ne.2 (by omega)
          by_cases h0 : hn = 0
          · subst h0
            have HK2 := hide (HK.out.2 (by omega))
            by_cases hn64 : 64 < n
            · have g64 : (64 : Int) < (n : Int) := by omega
              have HE : Hid (dread xs = (0, [], 0, 31)) := HK2.out.1 (by omega)
              go_wp2
              refine bodyPost_ret (results_four rfl _ _ _) rfl ⟨_, by rw [HE.out]; rfl, by rw [HE.out]; exact World.ownsRow_nil _ _ _ _, HB2.out⟩
            · have g64 : ¬ (64 : Int) < (n : Int) := by omega
              have HK3 := hide (HK2.out.2 (by omega))
              clear HK HK2
              by_cases hs : xs.length - (u + m) < n
              · have HE : Hid (dread xs = (0, [], 0, 32)) := HK3.out.1 hs
                have hs' : (xs.length : Int) - ((u : Int) + (m : Int)) < (n : Int) := by omega
                go_wp2
                refine bodyPost_ret (results_four rfl _ _ _) rfl ⟨_, by rw [HE.out]; rfl, by rw [HE.out]; exact World.ownsRow_nil _ _ _ _, HB2.out⟩
              · have HE : Hid (dread xs = (0, (xs.drop (u + m)).take n, u + m + n, 0)) := HK3.out.2 hs
                have hs' : ¬ (xs.length : Int) - ((u : Int) + (m : Int)) < (n : Int) := by omega
                have hum : u + m ≤ xs.length := by omega
                have hum' : (u : Int) + (m : Int) + (n : Int) ≤ (cap : Int) := by omega
                have hn65 : n ≤ 64 := by omega
                have e65 : IntKind.i64.wrap (n : Int) = (n : Int) := by rw [IntKind.wrap_i64]; omega
                have hu9' : (u : Int) ≤ 9 := by omega
                have hm9' : (m : Int) ≤ 9 := by omega
                have HDL : Hid (((xs.drop (u + m)).take n).length = n) := by show _ = _; rw [List.length_take, List.length_drop]; omega
                by_cases hca : u + m = cap
                · obtain rfl : n = 0 := by omega
                  rw [List.take_zero] at HE
                  have HSX : Hid (BSl w2 (.slice (some ⟨b, off, none⟩) 0 0) []) := ⟨⟨_, 0, rfl, ⟨by simp, fun h => by cases h⟩, .inl rfl⟩, by simp, fun z hz => by cases hz⟩
                  subst hca
                  go_wp2_with (at_builtin; refine append_bsl rfl _ _ rfl w.heap.size _ 0 [] rfl (World.ownsRow_nil _ _ _ _) _ [] rfl ?hs ?b1 ?b2 ?_)
                  case hs => exact HSX.out
                  case b2 => exact HB2.out.size
                  intro v3 w3 ho3 hg3
                  have HB3 : Hid (Below w.heap.size w w3) := HB2.out.grown hg3 HB2.out.size (fun q hq => by cases hq)
                  have HO3 := hide ho3
                  clear ho3 hg3
                  go_wp2
                  refine bodyPost_ret (results_four rfl _ _ _) rfl ⟨v3, ?_, ?_, HB3.out⟩
                  · rw [HE.out]
                    have e1 : ((u + m + 0 : Nat) : Int) = (u : Int) + (m : Int) := by omega
                    simp only [e1]
                    rfl
                  · rw [HE.out]
                    have h := HO3.out
                    simpa using h
                · have HSX : Hid (BSl w2 (.slice (some ⟨b, off + (u + m), none⟩) n (cap - (u + m))) ((xs.drop (u + m)).take n)) := (HS2.out.drop (u + m) hum).take n (by rw [List.length_drop]; omega)
                  generalize (xs.drop (u + m)).take n = D at *
                  go_wp2_with (at_builtin; refine append_bsl rfl _ _ rfl w.heap.size _ 0 [] rfl (World.ownsRow_nil _ _ _ _) _ D rfl ?hs (by rw [HDL.out]; omega) HB2.out.size ?_)
                  case hs => exact HSX.out
                  intro v3 w3 ho3 hg3
                  have HB3 : Hid (Below w.heap.size w w3) := HB2.out.grown hg3 HB2.out.size (fun q hq => by cases hq)
                  have HO3 := hide ho3
                  clear ho3 hg3
                  go_wp2
                  refine bodyPost_ret (results_four rfl _ _ _) rfl ⟨v3, ?_, ?_, HB3.out⟩
                  · rw [HE.out]
                    have e1 : ((u + m + n : Nat) : Int) = (u : Int) + (m : Int) + (n : Int) := by omega
                    simp only [e1]
                    rfl
                  · rw [HE.out]
                    have h := HO3.out
                    simpa using h
          · have g0 : ((hn : Int) != 0) = true := bne_iff_ne.2 (by omega)
            have HE : Hid (dread xs = (0, [], 0, 30)) := HK.out.1 ⟨h18, h0⟩
            go_wp2
            refine bodyPost_ret (results_four rfl _ _ _) rfl ⟨_, by rw [HE.out]; rfl, by rw [HE.out]; exact World.ownsRow_nil _ _ _ _, HB2.out⟩
      · have HE : Hid (dread xs = (0, [], 0, qe)) := HH.out.1 hq
        have g1 : ((qe : Int) != 0) = true := bne_iff_ne.2 (by omega)
        clear HQB HQX HH hQ hR
        go_wp2
        refine bodyPost_ret (results_four rfl _ _ _) rfl ⟨_, by rw [HE.out]; rfl, by rw [HE.out]; exact World.ownsRow_nil _ _ _ _, HB2.out⟩
  · have HE := hide (HD1.out hr)
    have hbad := HRX.out hr
    clear HD1 HD2 HRX HRB
    generalize dnum xs = R at *
    obtain ⟨rn, ru, re⟩ := R
    simp only [dnumR]
    have hr2 : ((re : Int) != 0) = true := bne_iff_ne.2 (by simp only at hr; omega)
    clear hr hbad
    go_wp2
    refine bodyPost_ret (results_four rfl _ _ _) rfl ⟨_, by rw [HE.out]; rfl, by rw [HE.out]; exact World.ownsRow_nil _ _ _ _, HB1.out⟩
end
section
open Go.RowKit
theorem wrd_cut (l : List Nat) (p : Nat) : wrd ((l.drop p).take 4) 0 = wrd l p := by
  unfold wrd
  have h : ∀ j, j < 4 → ((l.drop p).take 4).getD j 0 = l.getD (p + j) 0 := by
    intro j hj
    simp [List.getD, hj]
  rw [h 0 (by omega), h (0 + 1) (by omega), h (0 + 2) (by omega), h (0 + 3) (by omega)]
  simp
theorem info64w (l : List Nat) (h : l.length = 64) : (Tryd.prog.info? 121).map (·.size) = some (wv l).toArray.size := by
  have h2 := info64
  simp only [List.size_toArray, wv_len] at h2 ⊢
  rw [h2, h]
  rfl
theorem info8w (l : List Nat) (h : l.length = 8) : (Tryd.prog.info? 105).map (·.size) = some (wv l).toArray.size := by
  have h2 := info8
  simp only [List.size_toArray, wv_len] at h2 ⊢
  rw [h2, h]
  rfl
theorem one_w (l : List Nat) : (wv l).toArray.all (·.oneCell') = true := by
  rw [Array.all_eq_true_iff_forall_mem]
  intro u hu
  exact wv_one _ u (by simpa using hu)
/-- The two blocks of a call of words. -/
structure WBk (wx : World) (B : Nat) (ws : List Nat) : Prop where
  r : wx.heap[B]? = some (.cells (wv (List.replicate 64 0)).toArray 121 (0, 0))
  w : wx.heap[B + 1]? = some (.cells (wv ws).toArray 121 (0, 0))
theorem WBk.below {w w' : World} {B : Nat} {ws : List Nat} (h : WBk w B ws) (hb : Below w.heap.size w w') : WBk w' B ws :=
  ⟨(hb.block B (blk_lt h.r)).trans h.r, (hb.block _ (blk_lt h.w)).trans h.w⟩
theorem WBk.set {w : World} {B : Nat} {ws : List Nat} (h : WBk w B ws) (j x : Nat) : WBk (w.setCell ⟨B + 1, j, none⟩ (.int .u32 ((x : Nat) : Int))) B (ws.set j x) :=
  ⟨blk_other j _ h.r (by omega), by rw [← wvt_set]; exact blk_set j _ h.w⟩
theorem WBk.drew {w : World} {B : Nat} {ws : List Nat} (h : WBk w B ws) : WBk w.drew B ws := ⟨h.r, h.w⟩

set_option maxRecDepth 1000000 in
set_option maxHeartbeats 4000000 in
theorem words_any (w : World) (v : Value) (l : List Nat) (hsl : BSl w v l) (hp : l.length = 64) :
    Calls Tryd.prog 93 #[v] w fun e w' => e = .returned (.agg (wv (wl l 0 64)).toArray) ∧ Below w.heap.size w w' := by
  have HSL := hide hsl
  obtain ⟨⟨a, cap, rfl, hn, hc⟩, hmax, hb⟩ := hsl
  rcases hc with hc | ⟨b, off, rfl, hc⟩
  · subst hc; simp at hp
  have hcp : (64 : Int) ≤ (cap : Int) := by have := hn.1; omega
  have HLB := hide hb
  rw [hp] at HSL ⊢
  have HP := hide hp
  clear hn hc hb hp hmax
  go_enter Tryd.func93, Tryd.ntmps93
  go_wp2_with fail
  rw [← zero64]
  have HB0 : Hid (WBk ((w.alloc (.cells (wv (List.replicate 64 0)).toArray 121)).alloc (.cells (wv (List.replicate 64 0)).toArray 121)) w.heap.size (List.replicate 64 0)) := by
    refine ⟨blk_alloc _ (heap_alloc_new w _), ?_⟩
    have h := heap_alloc_new (w.alloc (.cells (wv (List.replicate 64 0)).toArray 121)) (.cells (wv (List.replicate 64 0)).toArray 121)
    have e : (w.alloc (.cells (wv (List.replicate 64 0)).toArray 121)).heap.size = w.heap.size + 1 := by simp
    rw [e] at h
    exact h
  have HL0 : Hid (Below w.heap.size w ((w.alloc (.cells (wv (List.replicate 64 0)).toArray 121)).alloc (.cells (wv (List.replicate 64 0)).toArray 121))) := ((Below.refl _ _).alloc (Nat.le_refl _) _).alloc (by simp) _
  generalize (w.alloc (.cells (wv (List.replicate 64 0)).toArray 121)).alloc (.cells (wv (List.replicate 64 0)).toArray 121) = w1 at *
  generalize hB : w.heap.size = B at *
  have HBB := hide hB
  clear hB
  go_loopw [6] (fun ii wx => ∃ i : Nat, i ≤ 16 ∧ ii = .int .i64 (i : Nat) ∧ Hid (WBk wx B (wl l 0 i ++ List.replicate (64 - i) 0)) ∧ Hid (Below B w wx)) (fun ii _ => 16 - (intOf ii).toNat)
  case atStart => exact ⟨0, by omega, rfl, HB0, HL0⟩
  case round =>
    obtain ⟨i, hi, rfl, HR1, HL1⟩ := hrel
    clear HB0 HL0
    by_cases hlt : i < 16
    · have hlt' : (i : Int) < 16 := by omega
      have HV : Hid (BSl wr (.slice (some ⟨b, off, none⟩) 64 cap) l) := HSL.out.move (keep_below (by rw [HBB.out]; exact HL1.out))
      have HST := hide (wl_set l 0 i (by omega))
      rw [if_pos hlt] at HST
      have HLN := hide (wl_wlen l 0 i (by omega))
      go_wp2_with fail
      refine (word_any _ _ ((l.drop (4 * i)).take 4) ((HV.out.drop (4 * i) (by rw [HP.out]; omega)).take3 4 (by rw [List.length_drop, HP.out]; omega)) (by rw [List.length_take, List.length_drop, HP.out]; omega)).mono ?_
      rintro e w5 ⟨rfl, hb5⟩
      rw [wrd_cut]
      have HR2 := hide (HR1.out.below hb5)
      have HL2 : Hid (Below B w w5) := HL1.out.trans (hb5.mono (by have := HL1.out.size; have := HBB.out; omega))
      clear HR1 HL1 hb5
      have f0 := blk_frozen i HR2.out.w
      have c0 : w5.cell? ⟨B + 1, i, none⟩ = some (.int .u32 (((wl l 0 i ++ List.replicate (64 - i) 0).getD i 0 : Nat) : Int)) := blk_cell HR2.out.w (wvt_get (by rw [HLN.out]; omega))
      generalize (wl l 0 i ++ List.replicate (64 - i) 0).getD i 0 = o at *
      go_wp2_with fail
      go_roundw
      case rel => exact ⟨i + 1, by omega, by go_num, by rw [← HST.out, Nat.zero_add]; exact HR2.out.set i _, below_set3 HL2.out _ _ (by omega) _⟩
      case measure => simp [intOf]; omega
    · have hi16 : i = 16 := by omega
      have HI := hide hi16
      have hi6 : ¬ (i : Int) < 16 := by omega
      clear hi16 hlt hi
      go_wp2_with fail
      rename World => wq
      go_loopw [5] (fun ii wx => ∃ i : Nat, i ≤ 64 ∧ 16 ≤ i ∧ ii = .int .i64 (i : Nat) ∧ Hid (WBk wx B (wl l 0 i ++ List.replicate (64 - i) 0)) ∧ Hid (Below B w wx)) (fun ii _ => 64 - (intOf ii).toNat)
      case atStart => exact ⟨16, by omega, by omega, rfl, by rw [← HI.out]; exact HR1, HL1⟩
      case round =>
        rename World => wz
        obtain ⟨k, hk, hk16, rfl, HR2, HL2⟩ := hrel
        clear HR1 HL1
        by_cases hlt : k < 64
        · have hlt' : (k : Int) < 64 := by omega
          have HST := hide (wl_set l 0 k hlt)
          rw [if_neg (by omega)] at HST
          have HLN := hide (wl_wlen l 0 k (by omega))
          have HG : Hid (∀ j, j < k → wz.cell? ⟨B + 1, j, none⟩ = some (.int .u32 (((wl l 0 k).getD j 0 : Nat) : Int))) := fun j hj => blk_cell HR2.out.w (by rw [wvt_get (by rw [HLN.out]; omega), wl_at l 0 k j hj])
          have f0 := blk_frozen k HR2.out.w
          have c15 := HG.out (k - 15) (by omega)
          have c2 := HG.out (k - 2) (by omega)
          have c7 := HG.out (k - 7) (by omega)
          have c16 := HG.out (k - 16) (by omega)
          have c0 : wz.cell? ⟨B + 1, k, none⟩ = some (.int .u32 (((wl l 0 k ++ List.replicate (64 - k) 0).getD k 0 : Nat) : Int)) := blk_cell HR2.out.w (wvt_get (by rw [HLN.out]; exact hlt))
          have hx := getD_w (wl_lt l 0 HLB.out k) (k - 15)
          have hy := getD_w (wl_lt l 0 HLB.out k) (k - 2)
          have h7 := getD_w (wl_lt l 0 HLB.out k) (k - 7)
          have h6 := getD_w (wl_lt l 0 HLB.out k) (k - 16)
          have HNX : Hid (nextW (wl l 0 k) k = (ls1 ((wl l 0 k).getD (k - 2) 0) + (wl l 0 k).getD (k - 7) 0 + ls0 ((wl l 0 k).getD (k - 15) 0) + (wl l 0 k).getD (k - 16) 0) % 4294967296) := rfl
          generalize (wl l 0 k ++ List.replicate (64 - k) 0).getD k 0 = o at *
          generalize (wl l 0 k).getD (k - 15) 0 = x at *
          generalize (wl l 0 k).getD (k - 2) 0 = y at *
          generalize (wl l 0 k).getD (k - 7) 0 = x7 at *
          generalize (wl l 0 k).getD (k - 16) 0 = x6 at *
          have hA := ls1_lt hy
          have hC := ls0_lt hx
          have HXX := hide hx
          have HYY := hide hy
          go_wp2_with fail
          have n7 : (7 : Int) ≤ (k : Int) := by omega
          have m7 : (k : Int) - 7 < 64 := by omega
          have t7 : ((k : Int) - 7).toNat = k - 7 := by omega
          have n6 : (16 : Int) ≤ (k : Int) := by omega
          have m6 : (k : Int) - 16 < 64 := by omega
          have t6 : ((k : Int) - 16).toNat = k - 16 := by omega
          have n2 : (2 : Int) ≤ (k : Int) := by omega
          have m2 : (k : Int) - 2 < 64 := by omega
          have t2 : ((k : Int) - 2).toNat = k - 2 := by omega
          have n5 : (15 : Int) ≤ (k : Int) := by omega
          have m5 : (k : Int) - 15 < 64 := by omega
          have t5 : ((k : Int) - 15).toNat = k - 15 := by omega
          have y7 : IntKind.i64.wrap ((k : Int) - 7) = (k : Int) - 7 := by rw [IntKind.wrap_i64]; omega
          have y6 : IntKind.i64.wrap ((k : Int) - 16) = (k : Int) - 16 := by rw [IntKind.wrap_i64]; omega
          have y2 : IntKind.i64.wrap ((k : Int) - 2) = (k : Int) - 2 := by rw [IntKind.wrap_i64]; omega
          have y5 : IntKind.i64.wrap ((k : Int) - 15) = (k : Int) - 15 := by rw [IntKind.wrap_i64]; omega
          refine wp_region_still_tail 22 (by kernel_rfl) (by kernel_rfl) ?_
          simp only [List.take_succ_cons, List.take_zero, List.drop_succ_cons, List.drop_zero]
          repeat (
            refine wpStill_step (fun K hK => ?_)
            go_simp
            first
              | (refine hK _ ?_; clear hK K)
              | (refine ⟨_, smallS0_any _ _ (by assumption), hK _ ?_⟩; clear hK K)
              | (refine ⟨_, smallS1_any _ _ (by assumption), hK _ ?_⟩; clear hK K))
          refine wpStill_nil ?_
          go_wp2_with fail
          go_roundw
          case rel =>
            have ev : (((ls1 y : Nat) : Int) + (x7 : Int) + ((ls0 x : Nat) : Int) + (x6 : Int)) % 4294967296 = ((nextW (wl l 0 k) k : Nat) : Int) := by rw [HNX.out]; omega
            rw [ev]
            exact ⟨k + 1, by omega, by omega, by go_num, by rw [← HST.out]; exact (HR2.out.set k _).drew, Below.drew (below_set3 HL2.out _ _ (by omega) _)⟩
          case measure => simp [intOf]; omega
        · have hk64 : k = 64 := by omega
          have HK := hide hk64
          have hk6 : ¬ (k : Int) < 64 := by omega
          clear hk64 hlt hk hk16
          have HW : Hid (wz.heap[B + 1]? = some (.cells (wv (wl l 0 64)).toArray 121 (0, 0))) := by
            have h := HR2.out.w
            rw [HK.out] at h
            show _ = _
            simpa using h
          have HI64 := hide (info64w (wl l 0 64) (wl_len l 0 64))
          have HSZ : Hid ((wv (List.replicate 64 0)).toArray.size = (wv (wl l 0 64)).toArray.size) := by show _ = _; simp [wv_len, wl_len]
          have HON := hide (one_w (wl l 0 64))
          have HR := hide HR2.out.r
          have hne : ¬ B = B + 1 := by omega
          clear HR2
          generalize hD : wl l 0 64 = D at *
          have HD := hide hD
          clear hD
          go_wp2_with (first
            | (refine wpList_loadRow rfl rfl (B + 1) 64 (wv D).toArray 121 rfl HW.out Tryd.underlying121 HI64.out ?_)
            | (refine wpList_storeRow rfl rfl B _ (wv D).toArray 121 rfl rfl HR.out HI64.out HSZ.out HON.out ?_))
          refine bodyPost_ret (v := .agg (wv D).toArray) ((results_one (p := 2) (ty := 121) rfl _ _ _).trans (run_loadVar_row (P := Tryd.prog) _ B 121 121 (wv D).toArray (0, 0) _ (row_same HR.out) Tryd.underlying121 rfl HI64.out)) rfl ⟨by rw [HD.out], ?_⟩
          rw [HBB.out]
          exact HL2.out.trans ((row_kp wz B _).below (by have := HL2.out.size; have := HBB.out; omega) (fun q e => by omega))
end
section
open Go.RowKit
/-- The table at package level holds the document's words. -/
structure Cb (w : World) : Prop where
  c : ∀ i, i < 64 → w.cell? ⟨1, i, none⟩ = some (.int .u32 ((kk.getD i 0 : Nat) : Int))
theorem Cb.move {w w' : World} (h : Cb w) (hm : ∀ a u, w.cell? a = some u → w'.cell? a = some u) : Cb w' := ⟨fun i hi => hm _ _ (h.c i hi)⟩
theorem Cb.below {w w' : World} (h : Cb w) (hb : Below w.heap.size w w') : Cb w' := h.move (keep_below hb)
theorem Cb.kp {S : Nat → Prop} {w w' : World} (h : Cb w) (hk : Kp S w w') (hs : ¬ S 1) : Cb w' := ⟨fun i hi => hk.cell (h.c i hi) hs⟩
theorem Cb.pos {w : World} (h : Cb w) : 1 < w.heap.size := by
  have h0 := h.c 0 (by decide)
  by_cases hz : w.heap.size ≤ 1
  · exfalso
    have e : w.heap[1]? = none := Array.getElem?_eq_none (by omega)
    simp [World.cell?, e] at h0
  · omega

/-- The blocks of a call of changed. -/
structure FB (wx : World) (B N : Nat) (s ws : List Nat) : Prop where
  s : wx.heap[B]? = some (.cells (wv s).toArray 105 (0, 0))
  r : wx.heap[B + 1]? = some (.cells (wv (List.replicate 8 0)).toArray 105 (0, 0))
  w : wx.heap[N]? = some (.cells (wv ws).toArray 121 (0, 0))
  c : Cb wx
theorem FB.drewN {wx : World} {B N : Nat} {s ws : List Nat} (h : FB wx B N s ws) (n : Nat) : FB (wx.drewN n) B N s ws := ⟨h.s, h.r, h.w, ⟨h.c.c⟩⟩

set_option maxRecDepth 1000000 in
set_option maxHeartbeats 1000000 in
theorem changed_any (w : World) (v : Value) (l s : List Nat) (hcb : Cb w) (hsl : BSl w v l) (hp : l.length = 64) (hs : s.length = 8) (hw : ∀ x ∈ s, x < 4294967296) :
    Calls Tryd.prog 85 #[.agg (wv s).toArray, v] w fun e w' => e = .returned (.agg (wv (cmp l 0 s)).toArray) ∧ Below w.heap.size w w' := by
  have HSL := hide hsl
  have HW := hide hw
  have HCB := hide hcb
  have HP := hide hp
  clear hsl hw hcb hp
  have HS : Hid (s.length = 8) := hs
  match s, hs with
  | [s0, s1, s2, s3, s4, s5, s6, s7], _ =>
  have hlit : (wv [s0, s1, s2, s3, s4, s5, s6, s7]).toArray = #[.int .u32 (s0 : Nat), .int .u32 (s1 : Nat), .int .u32 (s2 : Nat), .int .u32 (s3 : Nat), .int .u32 (s4 : Nat), .int .u32 (s5 : Nat), .int .u32 (s6 : Nat), .int .u32 (s7 : Nat)] := rfl
  have hzer : (wv (List.replicate 8 0)).toArray = #[.int .u32 0, .int .u32 0, .int .u32 0, .int .u32 0, .int .u32 0, .int .u32 0, .int .u32 0, .int .u32 0] := rfl
  rw [hlit]
  go_enter Tryd.func85, Tryd.ntmps85
  go_wp2_with fail
  rw [← hlit, ← hzer]
  have HS1 : Hid (((w.alloc (.cells (wv [s0, s1, s2, s3, s4, s5, s6, s7]).toArray 105)).alloc (.cells (wv (List.replicate 8 0)).toArray 105)).heap[w.heap.size]? = some (.cells (wv [s0, s1, s2, s3, s4, s5, s6, s7]).toArray 105 (0, 0))) := blk_alloc _ (heap_alloc_new w _)
  have HR1 : Hid (((w.alloc (.cells (wv [s0, s1, s2, s3, s4, s5, s6, s7]).toArray 105)).alloc (.cells (wv (List.replicate 8 0)).toArray 105)).heap[w.heap.size + 1]? = some (.cells (wv (List.replicate 8 0)).toArray 105 (0, 0))) := by
    have h := heap_alloc_new (w.alloc (.cells (wv [s0, s1, s2, s3, s4, s5, s6, s7]).toArray 105)) (.cells (wv (List.replicate 8 0)).toArray 105)
    have e : (w.alloc (.cells (wv [s0, s1, s2, s3, s4, s5, s6, s7]).toArray 105)).heap.size = w.heap.size + 1 := by simp
    rw [e] at h
    exact h
  have HL1 : Hid (Below w.heap.size w ((w.alloc (.cells (wv [s0, s1, s2, s3, s4, s5, s6, s7]).toArray 105)).alloc (.cells (wv (List.replicate 8 0)).toArray 105))) := ((Below.refl _ _).alloc (Nat.le_refl _) _).alloc (by simp) _
  clear hlit hzer
  generalize (w.alloc (.cells (wv [s0, s1, s2, s3, s4, s5, s6, s7]).toArray 105)).alloc (.cells (wv (List.replicate 8 0)).toArray 105) = w1 at *
  generalize hB : w.heap.size = B at *
  have HBB := hide hB
  clear hB
  refine (words_any w1 v l (HSL.out.move (keep_below (by rw [HBB.out]; exact HL1.out))) HP.out).mono ?_
  rintro e w2 ⟨rfl, hb2⟩
  have HS2 := hide ((hb2.block B (blk_lt HS1.out)).trans HS1.out)
  have HR2 := hide ((hb2.block (B + 1) (blk_lt HR1.out)).trans HR1.out)
  have HL2 : Hid (Below B w w2) := HL1.out.trans (hb2.mono (by have := HL1.out.size; have := HBB.out; omega))
  clear hb2 HS1 HR1 HL1
  have HI64 := hide (info64w (wl l 0 64) (wl_len l 0 64))
  have HON := hide (one_w (wl l 0 64))
  have HWL := hide (wl_len l 0 64)
  have HWB := hide (wl_lt l 0 HSL.out.byte 64)
  have HSZ : Hid ((wv (List.replicate 64 0)).toArray.size = (wv (wl l 0 64)).toArray.size) := by show _ = _; simp [wv_len, wl_len]
  have HFB : Hid (FB ((w2.alloc (.cells (wv (List.replicate 64 0)).toArray 121)).setRow w2.heap.size (wv (wl l 0 64)).toArray) B w2.heap.size [s0, s1, s2, s3, s4, s5, s6, s7] (wl l 0 64)) := by
    have k0 := blk_lt HS2.out
    have k1 := blk_lt HR2.out
    have hlt := HCB.out.pos
    have hb : Below w2.heap.size w2 ((w2.alloc (.cells (wv (List.replicate 64 0)).toArray 121)).setRow w2.heap.size (wv (wl l 0 64)).toArray) := ((Below.refl _ _).alloc (Nat.le_refl _) _).trans ((row_kp _ _ _).below (by simp) (fun q e => by omega))
    exact ⟨by rw [row_other (by omega)]; exact blk_alloc _ HS2.out, by rw [row_other (by omega)]; exact blk_alloc _ HR2.out, row_same (heap_alloc_new w2 _), (HCB.out.below (by rw [HBB.out]; exact HL2.out)).below hb⟩
  have HL3 : Hid (Below B w ((w2.alloc (.cells (wv (List.replicate 64 0)).toArray 121)).setRow w2.heap.size (wv (wl l 0 64)).toArray)) := by
    have h2 := HL2.out.size
    have hB := HBB.out
    exact (HL2.out.alloc (by omega) _).trans ((row_kp _ _ _).below (by simp; omega) (fun q e => by omega))
  have HNB : Hid (B + 1 < w2.heap.size) := blk_lt HR2.out
  have HCM : Hid (cmp l 0 [s0, s1, s2, s3, s4, s5, s6, s7] = List.zipWith (fun x y => (x + y) % 4294967296) [s0, s1, s2, s3, s4, s5, s6, s7] (rl l 0 [s0, s1, s2, s3, s4, s5, s6, s7] 64)) := rfl
  have HWE : Hid (∀ i, i < 64 → (wl l 0 (i + 1)).getD i 0 = (wl l 0 64).getD i 0) := fun i hi => (wl_get l 0 (i + 1) 64 i (by omega) (by omega)).symm
  generalize wl l 0 64 = W at *
  go_wp2_with (refine wpList_storeRow rfl rfl w2.heap.size _ (wv W).toArray 121 rfl rfl (heap_alloc_new w2 _) HI64.out (by rw [← HSZ.out, zero64]) HON.out ?_; rw [← zero64]; generalize (w2.alloc (.cells (wv (List.replicate 64 0)).toArray 121)).setRow w2.heap.size (wv W).toArray = w3 at *; generalize w2.heap.size = N at *; have q0 : w3.cell? ⟨B, 0, none⟩ = some (.int .u32 (s0 : Nat)) := blk_cell HFB.out.s rfl; have q1 : w3.cell? ⟨B, 1, none⟩ = some (.int .u32 (s1 : Nat)) := blk_cell HFB.out.s rfl; have q2 : w3.cell? ⟨B, 2, none⟩ = some (.int .u32 (s2 : Nat)) := blk_cell HFB.out.s rfl; have q3 : w3.cell? ⟨B, 3, none⟩ = some (.int .u32 (s3 : Nat)) := blk_cell HFB.out.s rfl; have q4 : w3.cell? ⟨B, 4, none⟩ = some (.int .u32 (s4 : Nat)) := blk_cell HFB.out.s rfl; have q5 : w3.cell? ⟨B, 5, none⟩ = some (.int .u32 (s5 : Nat)) := blk_cell HFB.out.s rfl; have q6 : w3.cell? ⟨B, 6, none⟩ = some (.int .u32 (s6 : Nat)) := blk_cell HFB.out.s rfl; have q7 : w3.cell? ⟨B, 7, none⟩ = some (.int .u32 (s7 : Nat)) := blk_cell HFB.out.s rfl)
  go_simp
  go_quiet (fail)
  have HF4 := hide (HFB.out.drewN nq)
  have HL4 : Hid (Below B w (w3.drewN nq)) := below_drewN HL3.out _
  clear q0 q1 q2 q3 q4 q5 q6 q7 HFB HL3 HS2 HR2 HL2 HI64 HON HSZ
  generalize w3.drewN nq = w4 at *
  have q4 : w4.cell? ⟨B, 4, none⟩ = some (.int .u32 (s4 : Nat)) := blk_cell HF4.out.s rfl
  have q5 : w4.cell? ⟨B, 5, none⟩ = some (.int .u32 (s5 : Nat)) := blk_cell HF4.out.s rfl
  have q6 : w4.cell? ⟨B, 6, none⟩ = some (.int .u32 (s6 : Nat)) := blk_cell HF4.out.s rfl
  have q7 : w4.cell? ⟨B, 7, none⟩ = some (.int .u32 (s7 : Nat)) := blk_cell HF4.out.s rfl
  go_wp2_with fail
  go_quiet (fail)
  have HF5 := hide (HF4.out.drewN nq)
  have HL5 : Hid (Below B w (w4.drewN nq)) := below_drewN HL4.out _
  clear q4 q5 q6 q7 HF4 HL4
  generalize w4.drewN nq = w5 at *
  go_wp2_with fail
  have HRL0 : Hid (rl l 0 [s0, s1, s2, s3, s4, s5, s6, s7] 0 = [s0, s1, s2, s3, s4, s5, s6, s7]) := rfl
  have HRS : Hid (∀ n, rl l 0 [s0, s1, s2, s3, s4, s5, s6, s7] (n + 1) = rnd (rl l 0 [s0, s1, s2, s3, s4, s5, s6, s7] n) (kk.getD n 0) ((wl l 0 (n + 1)).getD n 0)) := fun _ => rfl
  have HRB : Hid (∀ n, ∀ x ∈ rl l 0 [s0, s1, s2, s3, s4, s5, s6, s7] n, x < 4294967296) := rl_lt l 0 _ HW.out
  have HRN : Hid (∀ n, (rl l 0 [s0, s1, s2, s3, s4, s5, s6, s7] n).length = 8) := rl_len l 0 _ rfl
  generalize hR : rl l 0 [s0, s1, s2, s3, s4, s5, s6, s7] = R at *
  clear hR
  go_loopw [6, 7, 8, 9, 10, 11, 12, 13, 35] (fun xa xb xc xd xe xf xg xh ii wx => ∃ i : Nat, i ≤ 64 ∧ ii = .int .i64 (i : Nat) ∧ xa = .int .u32 (((R i).getD 0 0 : Nat) : Int) ∧ xb = .int .u32 (((R i).getD 1 0 : Nat) : Int) ∧ xc = .int .u32 (((R i).getD 2 0 : Nat) : Int) ∧ xd = .int .u32 (((R i).getD 3 0 : Nat) : Int) ∧ xe = .int .u32 (((R i).getD 4 0 : Nat) : Int) ∧ xf = .int .u32 (((R i).getD 5 0 : Nat) : Int) ∧ xg = .int .u32 (((R i).getD 6 0 : Nat) : Int) ∧ xh = .int .u32 (((R i).getD 7 0 : Nat) : Int) ∧ Hid (FB wx B N [s0, s1, s2, s3, s4, s5, s6, s7] W) ∧ Hid (Below B w wx)) (fun _ _ _ _ _ _ _ _ ii _ => 64 - (intOf ii).toNat)
  case atStart => exact ⟨0, by omega, rfl, by rw [HRL0.out]; rfl, by rw [HRL0.out]; rfl, by rw [HRL0.out]; rfl, by rw [HRL0.out]; rfl, by rw [HRL0.out]; rfl, by rw [HRL0.out]; rfl, by rw [HRL0.out]; rfl, by rw [HRL0.out]; rfl, HF5, HL5⟩
  case round =>
    obtain ⟨i, hi, rfl, rfl, rfl, rfl, rfl, rfl, rfl, rfl, rfl, HF6, HL6⟩ := hrel
    clear HF5 HL5
    by_cases hlt : i < 64
    · have hlt' : (i : Int) < 64 := by omega
      have hkc := HF6.out.c.c i hlt
      have hwc : wr.cell? ⟨N, i, none⟩ = some (.int .u32 ((W.getD i 0 : Nat) : Int)) := blk_cell HF6.out.w (wvt_get (by rw [HWL.out]; exact hlt))
      have hwb := getD_w HWB.out i
      have hkb : kk.getD i 0 < 4294967296 := getD_w kk_lt i
      have HRX : Hid (R (i + 1) = rnd (R i) (kk.getD i 0) (W.getD i 0)) := by rw [← HWE.out i hlt]; exact HRS.out i
      generalize W.getD i 0 = wi at *
      generalize kk.getD i 0 = ki at *
      have hb0 := getD_w (HRB.out i) 0
      have hb1 := getD_w (HRB.out i) 1
      have hb2 := getD_w (HRB.out i) 2
      have hb3 := getD_w (HRB.out i) 3
      have hb4 := getD_w (HRB.out i) 4
      have hb5 := getD_w (HRB.out i) 5
      have hb6 := getD_w (HRB.out i) 6
      have hb7 := getD_w (HRB.out i) 7
      have HRT : Hid (rT (R i) ki wi = ((R i).getD 7 0 + us1 ((R i).getD 4 0) + cho ((R i).getD 4 0) ((R i).getD 5 0) ((R i).getD 6 0) + ki + wi) % 4294967296) := rfl
      have HRU : Hid (rU (R i) = (us0 ((R i).getD 0 0) + maj ((R i).getD 0 0) ((R i).getD 1 0) ((R i).getD 2 0)) % 4294967296) := rfl
      have HTL : Hid (rT (R i) ki wi < 4294967296) := Nat.mod_lt _ (by decide)
      have HUL : Hid (rU (R i) < 4294967296) := Nat.mod_lt _ (by decide)
      have HRN : Hid (R (i + 1) = [(rT (R i) ki wi + rU (R i)) % 4294967296, (R i).getD 0 0, (R i).getD 1 0, (R i).getD 2 0, ((R i).getD 3 0 + rT (R i) ki wi) % 4294967296, (R i).getD 4 0, (R i).getD 5 0, (R i).getD 6 0]) := HRX.out
      clear HRX
      generalize rT (R i) ki wi = T at *
      generalize rU (R i) = U at *
      generalize (R i).getD 0 0 = va at *
      generalize (R i).getD 1 0 = vb at *
      generalize (R i).getD 2 0 = vc at *
      generalize (R i).getD 3 0 = vd at *
      generalize (R i).getD 4 0 = ve at *
      generalize (R i).getD 5 0 = vf at *
      generalize (R i).getD 6 0 = vg at *
      generalize (R i).getD 7 0 = vh at *
      have hA4 := us1_lt hb4
      have hC4 := us0_lt hb0
      obtain ⟨M1, M2, M3, M4, M5, k1, k2, k3, k4, k5, hM5, k6⟩ := maj_bits va vb vc hb0 hb1 hb2
      obtain ⟨H0, H1, H2, H3, l0, l1, l2, l3, hH3, l4⟩ := cho_bits ve vf vg hb4 hb5 hb6
      rw [l4] at HRT
      rw [k6] at HRU
      clear k6 l4
      go_wp2_with fail
      go_quiet ((go_at_call 94; exact Calls.quiet_of_same (bigS1_any _ _ (by assumption))))
      have eT : (((vh : Int) + ((us1 ve : Nat) : Int) + (H3 : Int) + (ki : Int)) % 4294967296 + (wi : Int)) % 4294967296 = (T : Int) := by rw [HRT.out]; omega
      have HF7 := hide (HF6.out.drewN nq)
      have HL7 : Hid (Below B w (wr.drewN nq)) := below_drewN HL6.out _
      clear hkc hwc HF6 HL6
      generalize wr.drewN nq = w7 at *
      rw [eT]
      clear eT
      have hTL := HTL.out
      go_wp2_with fail
      refine (bigS0_any va w7 hb0).mono ?_
      rintro e w8 ⟨rfl, rfl⟩
      have eU : (((us0 va : Nat) : Int) + (M5 : Int)) % 4294967296 = (U : Int) := by rw [HRU.out]; omega
      have hUL := HUL.out
      go_wp2_with fail
      go_roundw
      case rel =>
        refine ⟨i + 1, by omega, by go_num, ?_, ?_, ?_, ?_, ?_, ?_, ?_, ?_, HF7, HL7⟩ <;> rw [HRN.out] <;> simp only [List.getD_cons_zero, List.getD_cons_succ]
        · exact congrArg (Value.int .u32) (by omega)
        · exact congrArg (Value.int .u32) (by omega)
      case measure => simp [intOf]; omega
    · have hi64 : i = 64 := by omega
      have hi6 : ¬ (i : Int) < 64 := by omega
      rw [← hi64] at HCM
      obtain ⟨r0, r1, r2, r3, r4, r5, r6, r7, hr⟩ := eight (R i) (HRN.out i)
      have HRR := hide hr
      rw [hr] at HCM ⊢
      clear hi64 hlt hi hr
      have HC2 : Hid (cmp l 0 [s0, s1, s2, s3, s4, s5, s6, s7] = [(s0 + r0) % 4294967296, (s1 + r1) % 4294967296, (s2 + r2) % 4294967296, (s3 + r3) % 4294967296, (s4 + r4) % 4294967296, (s5 + r5) % 4294967296, (s6 + r6) % 4294967296, (s7 + r7) % 4294967296]) := HCM.out
      clear HCM
      have e0 : ((s0 : Int) + (r0 : Int)) % 4294967296 = (((s0 + r0) % 4294967296 : Nat) : Int) := by omega
      have q0 : wr.cell? ⟨B, 0, none⟩ = some (.int .u32 (s0 : Nat)) := blk_cell HF6.out.s rfl
      generalize (s0 + r0) % 4294967296 = c0 at *
      have e1 : ((s1 : Int) + (r1 : Int)) % 4294967296 = (((s1 + r1) % 4294967296 : Nat) : Int) := by omega
      have q1 : wr.cell? ⟨B, 1, none⟩ = some (.int .u32 (s1 : Nat)) := blk_cell HF6.out.s rfl
      generalize (s1 + r1) % 4294967296 = c1 at *
      have e2 : ((s2 : Int) + (r2 : Int)) % 4294967296 = (((s2 + r2) % 4294967296 : Nat) : Int) := by omega
      have q2 : wr.cell? ⟨B, 2, none⟩ = some (.int .u32 (s2 : Nat)) := blk_cell HF6.out.s rfl
      generalize (s2 + r2) % 4294967296 = c2 at *
      have e3 : ((s3 : Int) + (r3 : Int)) % 4294967296 = (((s3 + r3) % 4294967296 : Nat) : Int) := by omega
      have q3 : wr.cell? ⟨B, 3, none⟩ = some (.int .u32 (s3 : Nat)) := blk_cell HF6.out.s rfl
      generalize (s3 + r3) % 4294967296 = c3 at *
      have e4 : ((s4 : Int) + (r4 : Int)) % 4294967296 = (((s4 + r4) % 4294967296 : Nat) : Int) := by omega
      have q4 : wr.cell? ⟨B, 4, none⟩ = some (.int .u32 (s4 : Nat)) := blk_cell HF6.out.s rfl
      generalize (s4 + r4) % 4294967296 = c4 at *
      have e5 : ((s5 : Int) + (r5 : Int)) % 4294967296 = (((s5 + r5) % 4294967296 : Nat) : Int) := by omega
      have q5 : wr.cell? ⟨B, 5, none⟩ = some (.int .u32 (s5 : Nat)) := blk_cell HF6.out.s rfl
      generalize (s5 + r5) % 4294967296 = c5 at *
      have e6 : ((s6 : Int) + (r6 : Int)) % 4294967296 = (((s6 + r6) % 4294967296 : Nat) : Int) := by omega
      have q6 : wr.cell? ⟨B, 6, none⟩ = some (.int .u32 (s6 : Nat)) := blk_cell HF6.out.s rfl
      generalize (s6 + r6) % 4294967296 = c6 at *
      have e7 : ((s7 : Int) + (r7 : Int)) % 4294967296 = (((s7 + r7) % 4294967296 : Nat) : Int) := by omega
      have q7 : wr.cell? ⟨B, 7, none⟩ = some (.int .u32 (s7 : Nat)) := blk_cell HF6.out.s rfl
      generalize (s7 + r7) % 4294967296 = c7 at *
      have HR := hide HF6.out.r
      simp only [List.getD_cons_zero, List.getD_cons_succ]
      go_wp2_with (refine wpList_storeRow rfl rfl (B + 1) _ (wv [c0, c1, c2, c3, c4, c5, c6, c7]).toArray 105 rfl rfl HR.out (info8w _ rfl) rfl (one_w _) ?_)
      refine bodyPost_ret (v := .agg (wv [c0, c1, c2, c3, c4, c5, c6, c7]).toArray) ((results_one (p := 4) (ty := 105) rfl _ _ _).trans (run_loadVar_row (P := Tryd.prog) _ (B + 1) 105 105 (wv [c0, c1, c2, c3, c4, c5, c6, c7]).toArray (0, 0) _ (row_same HR.out) Tryd.underlying105 rfl (info8w _ rfl))) rfl ⟨by rw [HC2.out], ?_⟩
      rw [HBB.out]
      exact HL6.out.trans ((row_kp wr (B + 1) _).below (by have := HL6.out.size; have := HBB.out; omega) (fun q e => by omega))
end
section
open Go.RowKit
set_option maxRecDepth 1000000 in
theorem first_any (w : World) : Calls Tryd.prog 84 #[] w fun e w' => e = .returned (.agg (wv hh).toArray) ∧ Below w.heap.size w w' := by
  go_enter Tryd.func84, Tryd.ntmps84
  go_wp2
  refine bodyPost_ret (v := .agg #[.int .u32 1779033703, .int .u32 3144134277, .int .u32 1013904242, .int .u32 2773480762, .int .u32 1359893119, .int .u32 2600822924, .int .u32 528734635, .int .u32 1541459225]) ((results_one (p := 0) (ty := 105) rfl _ _ _).trans (by go_simp; first | done | rfl)) rfl ⟨by kernel_rfl, ?_⟩
  exact (Below.refl _ _).alloc (Nat.le_refl _) _

/-! ### A hash under way -/
/-- The cells of a hash. -/
def hc (s r : List Nat) (c : Nat) : List Value := wv s ++ (bv r ++ [.int .u64 ((c : Nat) : Int)])
theorem hc_len {s r : List Nat} {c : Nat} (hs : s.length = 8) (hr : r.length = 64) : (hc s r c).length = 73 := by simp [hc, wv, bv, hs, hr]
/-- What has not gone into the state. -/
def tl (xs : List Nat) : List Nat := xs.drop (64 * (xs.length / 64))
theorem tl_len (xs : List Nat) : (tl xs).length = xs.length % 64 := by simp [tl]; omega
def fillz (l : List Nat) : List Nat := l ++ List.replicate (64 - l.length) 0
theorem fillz_len {l : List Nat} (h : l.length ≤ 64) : (fillz l).length = 64 := by simp [fillz]; omega
/-- A block that holds a hash to which these bytes were written. -/
structure HS (w : World) (g : Nat) (xs : List Nat) : Prop where
  b : w.heap[g]? = some (.cells (hc (abs xs hh (xs.length / 64)) (fillz (tl xs)) xs.length).toArray 118 (0, 0))
theorem HS.kp {S : Nat → Prop} {w w' : World} {g : Nat} {xs : List Nat} (h : HS w g xs) (hk : Kp S w w') (hs : ¬ S g) : HS w' g xs := ⟨(hk.block g (blk_lt h.b) hs).trans h.b⟩
theorem HS.below {w w' : World} {g : Nat} {xs : List Nat} (h : HS w g xs) (hb : Below w.heap.size w w') : HS w' g xs := ⟨(hb.block g (blk_lt h.b)).trans h.b⟩
theorem newCells : List.foldl (fun cs x => cs.setIfInBounds x.snd x.fst) Tryd.zeroCells118 (wv hh).zipIdx = (hc hh (List.replicate 64 0) 0).toArray := by kernel_rfl

set_option maxRecDepth 1000000 in
theorem new_any (w : World) : Calls Tryd.prog 67 #[] w fun e w' => ∃ g, e = .returned (.pointer (some ⟨g, 0, none⟩)) ∧ w.heap.size ≤ g ∧ HS w' g [] ∧ Below w.heap.size w w' := by
  go_enter Tryd.func67, Tryd.ntmps67
  go_wp2_with fail
  refine (first_any _).mono ?_
  rintro e w1 ⟨rfl, hb1⟩
  go_wp2_with fail
  rw [newCells]
  go_ret
  exact ⟨w1.heap.size, rfl, hb1.size, ⟨heap_alloc_new w1 _⟩, hb1.alloc hb1.size _⟩
end
section
open Go.RowKit
/-- What is written behind all bytes. -/
def endg (n : Nat) : List Nat := [128] ++ List.replicate (zer n) 0 ++ beb 8 (8 * n)
theorem pad_endg (xs : List Nat) : pad xs = xs ++ endg xs.length := by simp [pad, endg]
theorem make128 (w : World) : (Instr.makeSlice 47 (.int .i64 0) (.int .i64 128)).run Tryd.prog w = .ok (.slice (some ⟨w.heap.size, 0, none⟩) 0 128) (w.alloc (.cells (bv (List.replicate 128 0)).toArray 5)) := by kernel_rfl
theorem own_make {w : World} {c : Nat} {cs : List Value} (hl : cs.length = c) (hc : c ≤ maxLen) : (w.alloc (.cells cs.toArray 5)).ownsRow w.heap.size 5 1 (.slice (some ⟨w.heap.size, 0, none⟩) 0 c) 0 (bv []) :=
  ⟨rfl, .inr ⟨w.heap.size, c, _, rfl, Nat.le_refl _, heap_alloc_new w _, Nat.zero_le _, hc, by simpa using hl, by simp [bv]⟩⟩

set_option maxRecDepth 1000000 in
set_option maxHeartbeats 1000000 in
theorem ending_any (w : World) (n : Nat) (hlen : n ≤ 140737488355328) :
    Calls Tryd.prog 86 #[.int .u64 (n : Nat)] w fun e w' => ∃ v', e = .returned v' ∧ w'.ownsRow w.heap.size 5 1 v' (endg n).length (bv (endg n)) ∧ Below w.heap.size w w' := by
  generalize hB : w.heap.size = B at *
  have HB := hide hB
  clear hB
  have HL := hide hlen
  clear hlen
  have hmk := make128 w
  have HO0 : Hid ((w.alloc (.cells (bv (List.replicate 128 0)).toArray 5)).ownsRow w.heap.size 5 1 (.slice (some ⟨w.heap.size, 0, none⟩) 0 128) 0 (bv [])) := own_make (by simp [bv_len]) (by unfold maxLen; decide)
  have HB0 : Hid (Below B w (w.alloc (.cells (bv (List.replicate 128 0)).toArray 5))) := (Below.refl _ _).alloc (by have := HB.out; omega) _
  have hB0 : w.heap.size = B := HB.out
  rw [hB0] at hmk HO0
  clear hB0
  generalize w.alloc (.cells (bv (List.replicate 128 0)).toArray 5) = w0 at *
  have hs0 : B ≤ w0.heap.size := by have := HB0.out.size; have := HB.out; omega
  have HS1 := hide (one_bsl w0 128 (by decide))
  have HA1 := hide (HO0.out.alloc (.cells #[.int .u8 128] 5))
  go_enter Tryd.func86, Tryd.ntmps86
  go_wp2_with (at_builtin; refine append_bsl rfl _ _ rfl B _ 0 [] rfl HA1.out _ [128] rfl HS1.out ?b1 ?b2 ?_)
  case b1 => simp
  case b2 => simp; omega
  intro v2 w2 ho2 hg2
  have hlo := fun g (h : _ = some g) => (HA1.out.lt g h).1
  have HB2 : Hid (Below B w w2) := (HB0.out.alloc hs0 _).grown hg2 (by simp; omega) (fun g hg => hlo g hg)
  have HO2 := hide ho2
  clear ho2 hg2 hlo HA1 HS1 HO0 HB0 hs0 hmk
  go_wp2
  go_loopw [3] (fun u wx => ∃ z : Nat, z ≤ zer n ∧ lenOf u = 1 + z ∧ Hid (wx.ownsRow B 5 1 u (1 + z) (bv ([128] ++ List.replicate z 0))) ∧ Hid (Below B w wx)) (fun u _ => 1 + zer n - lenOf u)
  case atStart => exact ⟨0, Nat.zero_le _, own_lenOf HO2.out, by show World.ownsRow _ _ _ _ _ _ _; simpa using HO2.out, HB2⟩
  case round =>
    obtain ⟨z, hz, hlz, HO, HBL⟩ := hrel
    clear HO2 HB2
    obtain ⟨au, cu, hv, hv1, hv2, hv3⟩ := own_form HO.out
    subst hv
    clear hv1 hv2 hv3
    have hzl := zer_lt n
    have hzm := zer_mod n
    have hs3 : B ≤ wr.heap.size := by have := HBL.out.size; have := HB.out; omega
    have hl8 : n ≤ 140737488355328 := HL.out
    by_cases hlt : z < zer n
    · have hne : (((n : Int) + (1 + (z : Int)) + 8) % 64 != 0) = true := bne_iff_ne.2 (by omega)
      have HS1 := hide (one_bsl wr 0 (by decide))
      have HA1 := hide (HO.out.alloc (.cells #[.int .u8 0] 5))
      go_wp2_with (at_builtin; refine append_bsl rfl _ _ rfl B _ (1 + z) _ rfl HA1.out _ [0] rfl HS1.out ?b1 ?b2 ?_)
      case b1 => simp; omega
      case b2 => simp; omega
      intro v3 w3 ho3 hg3
      have hlo := fun g (h : _ = some g) => (HA1.out.lt g h).1
      have HB3 : Hid (Below B w w3) := (HBL.out.alloc hs3 _).grown hg3 (by simp; omega) (fun g hg => hlo g hg)
      have HO3 : Hid (w3.ownsRow B 5 1 v3 (1 + (z + 1)) (bv ([128] ++ List.replicate (z + 1) 0))) := by
        show World.ownsRow _ _ _ _ _ _ _
        have h := ho3
        rw [List.replicate_succ']
        simpa [Nat.add_assoc] using h
      clear ho3 hg3 hlo HA1 HS1
      obtain ⟨a3, c3, hv3, hv1, hv2, hv4⟩ := own_form HO3.out
      subst hv3
      clear hv1 hv2 hv4
      go_wp2
      go_roundw
      case rel => exact ⟨z + 1, by omega, rfl, HO3, HB3⟩
      case measure => simp [lenOf]; omega
    · have hzz : z = zer n := by omega
      have hne : (((n : Int) + (1 + (z : Int)) + 8) % 64 != 0) = false := bne_eq_false_iff_eq.2 (by omega)
      have HPD : Hid (endg n = [128] ++ List.replicate z 0 ++ beb 8 (8 * n)) := by show _ = _; rw [hzz]; rfl
      have HPL : Hid (([128] ++ List.replicate z 0).length = 1 + z) := by show _ = _; simp; omega
      generalize [128] ++ List.replicate z 0 = D at *
      have hL9 : 1 + z ≤ 100 := by omega
      have HL9 := hide hL9
      clear hzm hzl hlt hz hzz hlz
      go_wp2
      clear hne
      have hNN : 8 * (n : Int) = ((8 * n : Nat) : Int) := by omega
      go_loopw [3, 4] (fun u q wx => ∃ j : Nat, j ≤ 8 ∧ q = .int .i64 (7 - (j : Int)) ∧ Hid (wx.ownsRow B 5 1 u (1 + z + j) (bv (D ++ (beb 8 (8 * n)).take j))) ∧ Hid (Below B w wx)) (fun _ q _ => (intOf q + 1).toNat)
      case atStart => exact ⟨0, by omega, by simp, by show World.ownsRow _ _ _ _ _ _ _; simpa using HO.out, HBL⟩
      case round =>
        obtain ⟨j, hj, rfl, HO4, HBL4⟩ := hrel
        clear HO HBL
        rename World => wz
        have hs4 : B ≤ wz.heap.size := by have := HBL4.out.size; have := HB.out; omega
        by_cases hlt2 : j < 8
        · have hlt2' : (0 : Int) ≤ 7 - (j : Int) := by omega
          have hidx : (7 - (j : Int)) = ((7 - j : Nat) : Int) := by omega
          rw [hidx]
          have hq8 : 7 - j < 8 := by omega
          have HTK : Hid ((beb 8 (8 * n)).take (j + 1) = (beb 8 (8 * n)).take j ++ [8 * n / 256 ^ (7 - j) % 256]) := by
            show _ = _
            rw [← beb_get 8 (8 * n) j hlt2]
            exact take_snoc3 _ _ (by rw [beb_len]; exact hlt2)
          have HID : Hid (((7 - j : Nat) : Int) - 1 = 7 - ((j + 1 : Nat) : Int)) := by show _ = _; omega
          generalize 7 - j = q at *
          clear hidx hlt2'
          have hc : ((8 * n / 256 ^ q % 256 : Nat) : Int) = 8 * (n : Int) / 2 ^ (8 * q) % 256 := by rw [pow_int8]; rw [Int.natCast_emod, Int.natCast_ediv, Int.natCast_mul]; rfl
          have HS1 := hide (one_bsl wz (8 * n / 256 ^ q % 256) (Nat.mod_lt _ (by decide)))
          rw [hc] at HS1
          have HA1 := hide (HO4.out.alloc (.cells #[.int .u8 (8 * (n : Int) / 2 ^ (8 * q) % 256)] 5))
          clear hc HO4 hNN
          go_wp2_with (at_builtin; refine append_bsl rfl _ _ rfl B _ (1 + z + j) _ rfl HA1.out _ [8 * n / 256 ^ q % 256] rfl HS1.out ?b1 ?b2 ?_)
          case b1 => have := HL9.out; simp; omega
          case b2 => simp; omega
          intro v5 w5 ho5 hg5
          have hlo := fun g (h : _ = some g) => (HA1.out.lt g h).1
          have HB5 : Hid (Below B w w5) := (HBL4.out.alloc hs4 _).grown hg5 (by simp; omega) (fun g hg => hlo g hg)
          have HO5 : Hid (w5.ownsRow B 5 1 v5 (1 + z + (j + 1)) (bv (D ++ (beb 8 (8 * n)).take (j + 1)))) := by
            show World.ownsRow _ _ _ _ _ _ _
            rw [HTK.out]
            have h := ho5
            simpa [Nat.add_assoc] using h
          clear ho5 hg5 hlo HA1 HS1 HTK
          go_wp2
          go_roundw
          case rel => exact ⟨j + 1, by omega, by rw [← HID.out], HO5, HB5⟩
          case measure => simp [intOf]
        · have hj8 : j = 8 := by omega
          subst hj8
          have ho := HO4.out
          rw [List.take_of_length_le (by rw [beb_len]; exact Nat.le_refl _), ← HPD.out] at ho
          have HO6 := hide ho
          clear ho HO4
          go_wp2
          go_ret
          have e : (endg n).length = 1 + z + 8 := by rw [HPD.out, List.length_append, beb_len, HPL.out]
          rw [e]
          exact ⟨_, rfl, HO6.out, HBL4.out⟩
end
section
open Go.RowKit
theorem sha_len (xs : List Nat) : (sha xs).length = 32 := outb_len _ (abs_len _ hh rfl _)
theorem sha_byte (xs : List Nat) : ∀ x ∈ sha xs, x < 256 := outb_byte _
/-- A block of bytes, as a slice of all of it. -/
theorem bsl_block {w : World} {g : Nat} {xs : List Nat} {t : TypeId} (h : w.heap[g]? = some (.cells (bv xs).toArray t (0, 0))) (hb : ∀ x ∈ xs, x < 256) (hl : xs.length ≤ 9223372036854775807) : BSl w (.slice (some ⟨g, 0, none⟩) xs.length xs.length) xs := by
  refine ⟨⟨_, xs.length, rfl, ⟨Nat.le_refl _, fun h => by cases h⟩, .inr ⟨g, 0, rfl, fun j hj => ?_⟩⟩, hl, hb⟩
  rw [Nat.zero_add]
  exact blk_cell h (by rw [List.getElem?_toArray]; exact bv_get hj)
/-- What Holds of the document tells. -/
def dholds (h : Nat) (d xs : List Nat) : Bool := if h = 18 then decide (d = sha xs) else decide (h = 0) && (decide (d.length ≤ 64) && decide (d = xs))

theorem info32d (xs : List Nat) : (Tryd.prog.info? 76).map (·.size) = some (bv (sha xs)).toArray.size := by
  have h := info32
  simpa [bv_len, sha_len] using h
theorem one32 (xs : List Nat) : (bv (sha xs)).toArray.all (·.oneCell') = true := by
  rw [Array.all_eq_true_iff_forall_mem]
  intro u hu
  exact bv_one _ u (by simpa using hu)

set_option maxRecDepth 1000000 in
set_option maxHeartbeats 400000 in
theorem refHolds_any (w : World) (h : Nat) (v u : Value) (d xs : List Nat) (hh : h < 18446744073709551616) (h1 : BSl w v d) (h2 : BSl w u xs) (hlen : xs.length ≤ 140737488351232) :
    Calls Tryd.prog 48 #[.int .u64 (h : Nat), v, u] w fun e w' => e = .returned (.bool (dholds h d xs)) ∧ Below w.heap.size w w' := by
  have H1 := hide h1
  have H2 := hide h2
  have HL := hide hlen
  clear h1 h2 hlen
  by_cases h18 : h = 18
  · subst h18
    have HE : Hid (dholds 18 d xs = decide (d = sha xs)) := by show _ = _; simp [dholds]
    go_enter Tryd.func48, Tryd.ntmps48
    go_wp2_with fail
    refine (refSum_any _ _ xs H2.out HL.out).mono ?_
    rintro e w1 ⟨rfl, hb1⟩
    have HB1 := hide hb1
    have H11 := hide (H1.out.move (keep_below hb1))
    clear hb1
    have HI := hide (info32d xs)
    have HO := hide (one32 xs)
    have HSL := hide (sha_len xs)
    have HSB := hide (sha_byte xs)
    generalize sha xs = D at *
    go_wp2_with (refine wpList_storeRow rfl rfl w1.heap.size _ (bv D).toArray 76 rfl rfl (heap_alloc_new w1 _) HI.out (by simp [bv_len, HSL.out]) HO.out ?_)
    rw [World.setRow_alloc_new]
    have HBB := hide (bsl_block (heap_alloc_new w1 (.cells (bv D).toArray 76)) HSB.out (by rw [HSL.out]; decide))
    rw [HSL.out] at HBB
    refine (same3_any _ _ _ d D (H11.out.move (keep_alloc w1 _)) HBB.out).mono ?_
    rintro e w2 ⟨rfl, hk2⟩
    have HB2 : Hid (Below w.heap.size w w2) := (HB1.out.alloc HB1.out.size _).trans (hk2.below (by have := HB1.out.size; simp; omega) (fun _ h => h.elim))
    clear hk2
    rw [← HE.out]
    go_wp2
    go_ret
    exact ⟨rfl, HB2.out⟩
  · have g18 : ((h : Int) == 18) = false := beq_eq_false_iff_ne.2 (by omega)
    obtain ⟨⟨a1, cap1, rfl, hn1, hc1⟩, hm1, hby1⟩ := H1.out
    clear hn1 hc1 hby1
    by_cases h0 : h = 0
    · subst h0
      by_cases hd : d.length ≤ 64
      · have hd' : (d.length : Int) ≤ 64 := by omega
        have HE : Hid (dholds 0 d xs = decide (d = xs)) := by show _ = _; simp [dholds, hd]
        go_enter Tryd.func48, Tryd.ntmps48
        go_wp2_with fail
        refine (same3_any _ _ _ d xs H1.out H2.out).mono ?_
        rintro e w2 ⟨rfl, hk2⟩
        have HB2 : Hid (Below w.heap.size w w2) := hk2.below (Nat.le_refl _) (fun _ h => h.elim)
        clear hk2
        rw [← HE.out]
        go_wp2
        go_ret
        exact ⟨rfl, HB2.out⟩
      · have hd' : ¬ (d.length : Int) ≤ 64 := by omega
        have e : dholds 0 d xs = false := by simp [dholds, hd]
        rw [e]
        go_enter Tryd.func48, Tryd.ntmps48
        go_wp2
        go_ret
        exact ⟨rfl, Below.refl _ _⟩
    · have e : dholds h d xs = false := by simp [dholds, h18, h0]
      rw [e]
      have g0 : ((h : Int) == 0) = false := beq_eq_false_iff_ne.2 (by omega)
      go_enter Tryd.func48, Tryd.ntmps48
      go_wp2
      go_ret
      exact ⟨rfl, Below.refl _ _⟩
end
end Go.Proofs.YtidglddjinfncaaDoor
