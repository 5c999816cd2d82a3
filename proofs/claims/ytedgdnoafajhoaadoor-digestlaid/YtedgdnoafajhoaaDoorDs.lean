import Derived.Test.YtedgdnoafajhoaaDoorDwr
namespace Go.Proofs.YtedgdnoafajhoaaDoor
open Go.RowKit Go

theorem wpList_loadAll {ops : Array Oper} {rest : List Oper} {o : Oper} {a : Act} {Q : Exit → Act → World → Prop} {w : World} {T : TypeId} {p : Operand} (hgd : o.guard = none) (ho : o.op = .load T p) (g : Nat) (cs : Array Value) (t : TypeId) {fs : Array Field}
    (hp : a.eval p = .pointer (some ⟨g, 0, none⟩)) (hg : w.heap[g]? = some (.cells cs t (0, 0))) (hu : Tryd.prog.underlying T = some (.struct fs)) (hi : (Tryd.prog.info? T).map (·.size) = some cs.size)
    (h : wpList Tryd.prog ops Q rest (a.put o.dst (.agg cs)) w) : wpList Tryd.prog ops Q (o :: rest) a w := by
  refine wpList_plain hgd fun K hK => ?_
  unfold Oper.wp execOp
  have hr : (Instr.loadAt T (.pointer (some ⟨g, 0, none⟩))).run Tryd.prog w = .ok (.agg cs) w := by
    simp only [Instr.loadAt, Instr.sureAddr, Sem.run_bind, Sem.run_pure, Result.andThen]
    exact run_loadVar_row (P := Tryd.prog) w g t T cs (0, 0) _ hg hu rfl hi
  simp only [ho, Sem.run_bind, hp, hr, Result.andThen_ok]
  exact hK _ _ h
theorem wpList_loadPart {ops : Array Oper} {rest : List Oper} {o : Oper} {a : Act} {Q : Exit → Act → World → Prop} {w : World} {T e : TypeId} {n : Nat} {p : Operand} (hgd : o.guard = none) (ho : o.op = .load T p) (g off : Nat) (cs : List Value)
    (hp : a.eval p = .pointer (some ⟨g, off, none⟩)) (hu : Tryd.prog.underlying T = some (.array n e)) (hi : (Tryd.prog.info? T).map (·.size) = some cs.length) (hc : ∀ j v, cs[j]? = some v → w.cell? ⟨g, off + j, none⟩ = some v)
    (h : wpList Tryd.prog ops Q rest (a.put o.dst (.agg cs.toArray)) w) : wpList Tryd.prog ops Q (o :: rest) a w := by
  refine wpList_plain hgd fun K hK => ?_
  unfold Oper.wp execOp
  simp only [ho, Sem.run_bind, hp, part_load g off cs hu hi hc, Result.andThen_ok]
  exact hK _ _ h
theorem alloc2_new (w : World) (o1 o2 : Obj) : ((w.alloc o1).alloc o2).heap[w.heap.size + 1]? = some o2 := by
  have h := heap_alloc_new (w.alloc o1) o2
  have e : (w.alloc o1).heap.size = w.heap.size + 1 := by simp
  rwa [e] at h
theorem endg_byte (n : Nat) : ∀ x ∈ endg n, x < 256 := by
  intro x hx
  unfold endg at hx
  rcases List.mem_append.1 hx with hx | hx
  · rcases List.mem_append.1 hx with hx | hx
    · simp at hx; omega
    · rw [List.eq_of_mem_replicate hx]; decide
  · exact beb_byte _ _ _ hx
theorem endg_len (n : Nat) : (endg n).length ≤ 73 := by
  unfold endg
  have := zer_lt n
  simp [beb_len]
  omega
theorem info73 : (Tryd.prog.info? 99).map (·.size) = some 73 := by kernel_rfl
theorem hc_one (s r : List Nat) (c : Nat) : (hc s r c).toArray.all (·.oneCell') = true := by
  rw [Array.all_eq_true_iff_forall_mem]
  intro u hu
  have hu' : u ∈ hc s r c := by simpa using hu
  unfold hc at hu'
  rcases List.mem_append.1 hu' with h | h
  · exact wv_one _ u h
  · rcases List.mem_append.1 h with h | h
    · exact bv_one _ u h
    · simp at h; subst h; rfl
theorem zero73 : Tryd.zeroCells99.size = 73 := by kernel_rfl

set_option maxRecDepth 1000000 in
set_option maxHeartbeats 1000000 in
theorem hsum_any (w : World) (g : Nat) (xs : List Nat) (hcb : Cb w) (hh0 : HS w g xs) (hx : ∀ x ∈ xs, x < 256) (hlen : xs.length ≤ 140737488351232) :
    Calls Tryd.prog 22 #[.pointer (some ⟨g, 0, none⟩)] w fun e w' => e = .returned (.agg (bv (sha xs)).toArray) ∧ Below w.heap.size w w' := by
  have HCB := hide hcb
  have HH := hide hh0
  have HB0 := hide (hh0.hb hx)
  have HXB := hide hx
  have HLE := hide hlen
  clear hcb hh0 hx hlen
  have HP8 := hide HB0.out.s8
  have HP6 := hide HB0.out.r64
  have HB1 : Hid ((w.alloc (.cells (bv (List.replicate 32 0)).toArray 28)).heap[g]? = some (.cells (hc (abs xs hh (xs.length / 64)) (fillz (tl xs)) xs.length).toArray 99 (0, 0))) := blk_alloc _ HB0.out.b
  have HI7 : Hid ((Tryd.prog.info? 99).map (·.size) = some (hc (abs xs hh (xs.length / 64)) (fillz (tl xs)) xs.length).toArray.size) := by
    show _ = _
    rw [List.size_toArray, hc_len HB0.out.s8 HB0.out.r64]
    exact info73
  have HSZ : Hid (Tryd.zeroCells99.size = (hc (abs xs hh (xs.length / 64)) (fillz (tl xs)) xs.length).toArray.size) := by
    have e : (hc (abs xs hh (xs.length / 64)) (fillz (tl xs)) xs.length).toArray.size = 73 := by rw [List.size_toArray, hc_len HB0.out.s8 HB0.out.r64]
    show _ = _
    rw [e]
    exact zero73
  have HON := hide (hc_one (abs xs hh (xs.length / 64)) (fillz (tl xs)) xs.length)
  have HGC : Hid ((hc (abs xs hh (xs.length / 64)) (fillz (tl xs)) xs.length).toArray[72]? = some (.int .u64 (xs.length : Nat))) := hc_getc HB0.out.s8 HB0.out.r64
  have HSX : Hid (∀ wx k, wx.heap[k]? = some (.cells (hc (abs xs hh (xs.length / 64)) (fillz (tl xs)) xs.length).toArray 99 (0, 0)) → HS wx k xs) := fun wx k h => ⟨h⟩
  have HHB := hide HB0.out.b
  clear HB0
  have HGL := hide (blk_lt HH.out.b)
  generalize hc (abs xs hh (xs.length / 64)) (fillz (tl xs)) xs.length = HC at *
  have HR2 : Hid ((((w.alloc (.cells (bv (List.replicate 32 0)).toArray 28)).alloc (.cells Tryd.zeroCells99 99)).setRow (w.heap.size + 1) HC.toArray).heap[w.heap.size]? = some (.cells (bv (List.replicate 32 0)).toArray 28 (0, 0))) := by
    show _ = _
    rw [row_other (by omega)]
    exact blk_alloc _ (heap_alloc_new w _)
  have HE2 : Hid ((((w.alloc (.cells (bv (List.replicate 32 0)).toArray 28)).alloc (.cells Tryd.zeroCells99 99)).setRow (w.heap.size + 1) HC.toArray).heap[w.heap.size + 1]? = some (.cells HC.toArray 99 (0, 0))) := row_same (alloc2_new _ _ _)
  have HL2 : Hid (Below w.heap.size w (((w.alloc (.cells (bv (List.replicate 32 0)).toArray 28)).alloc (.cells Tryd.zeroCells99 99)).setRow (w.heap.size + 1) HC.toArray)) := (((Below.refl _ _).alloc (Nat.le_refl _) _).alloc (by simp) _).trans ((row_kp _ _ _).below (by simp; omega) (fun q e => by omega))
  rw [z32_lit] at HB1
  go_enter Tryd.func22, Tryd.ntmps22
  go_wp2_with (first
    | (refine wpList_loadAll rfl rfl g HC.toArray 99 rfl HB1.out Tryd.underlying99 HI7.out ?_)
    | (refine wpList_storeRow rfl rfl (w.heap.size + 1) _ HC.toArray 99 rfl rfl (alloc2_new _ _ _) HI7.out HSZ.out HON.out ?_; rw [← z32_lit]; generalize ((w.alloc (.cells (bv (List.replicate 32 0)).toArray 28)).alloc (.cells Tryd.zeroCells99 99)).setRow (w.heap.size + 1) HC.toArray = w2 at *; have c7 : w2.cell? ⟨g, 72, none⟩ = some (.int .u64 (xs.length : Nat)) := blk_cell ((HL2.out.block g HGL.out).trans HHB.out) HGC.out))
  generalize hB : w.heap.size = B at *
  have HBB := hide hB
  clear hB c7
  have hlb : xs.length ≤ 140737488355328 := by have := HLE.out; omega
  refine (ending_any w2 xs.length hlb).mono ?_
  rintro e w3 ⟨v3, rfl, ho3, hb3⟩
  have HS2 := hide (HSX.out w2 (B + 1) HE2.out)
  have HS3 := hide (HS2.out.below hb3)
  have HL3 : Hid (Below B w w3) := HL2.out.trans (hb3.mono (by have := HL2.out.size; have := HBB.out; omega))
  have HEL := hide (blk_lt HE2.out)
  have HV3 : Hid (BSl w3 v3 (endg xs.length)) := BSl.own ho3 (endg_byte _)
  have HN3 : Hid (v3.ownBlock ≠ some (B + 1)) := fun h => by
    have := (ho3.lt (B + 1) h).1
    have := HEL.out
    omega
  have HR3 := hide ((hb3.block B (blk_lt HR2.out)).trans HR2.out)
  have HC3 := hide (HCB.out.below (by rw [HBB.out]; exact HL3.out))
  obtain ⟨a3, c3, hv3, hv1, hv2, hv4⟩ := own_form ho3
  subst hv3
  clear hv1 hv2 hv4 ho3 hb3 HE2 HR2 HL2 HS2 hlb
  go_wp2_with fail
  refine (write_any w3 (B + 1) _ xs (endg xs.length) HC3.out (by omega) HS3.out HXB.out HV3.out (fun _ => HN3.out) (by have := HLE.out; have := endg_len xs.length; omega)).mono ?_
  rintro e w4 ⟨rfl, hs4, hk4⟩
  rw [← pad_endg] at hs4
  have HB4 := hide (hs4.hb (pad_byte xs HXB.out))
  have HR4 := hide ((hk4.block B (blk_lt HR3.out) (by omega)).trans HR3.out)
  have HL4 : Hid (Below B w w4) := by
    have h3 := HL3.out.size
    have hb := HBB.out
    exact HL3.out.trans (hk4.below (by omega) (fun q e => by omega))
  clear hs4 hk4 HS3 HV3 HN3 HR3 HL3 HC3
  have HSH : Hid (sha xs = outb (abs (pad xs) hh ((pad xs).length / 64))) := rfl
  have HI8 : Hid ((Tryd.prog.info? 92).map (·.size) = some (wv (abs (pad xs) hh ((pad xs).length / 64))).length) := by
    have h := info8w _ HB4.out.s8
    show _ = _
    simpa using h
  have HLD : Hid (∀ j v, (wv (abs (pad xs) hh ((pad xs).length / 64)))[j]? = some v → w4.cell? ⟨B + 1, 0 + j, none⟩ = some v) := by
    intro j v hv
    rw [Nat.zero_add]
    exact blk_cell HB4.out.b (hc_gets hv)
  have H8 := hide HB4.out.s8
  have HSW := hide HB4.out.sw
  clear HB4
  generalize abs (pad xs) hh ((pad xs).length / 64) = S at *
  go_wp2_with (refine wpList_loadPart rfl rfl (B + 1) 0 (wv S) rfl Tryd.underlying92 HI8.out HLD.out ?_)
  refine (laid_any w4 S H8.out HSW.out).mono ?_
  rintro e w5 ⟨rfl, hb5⟩
  have HR5 := hide ((hb5.block B (blk_lt HR4.out)).trans HR4.out)
  have HL5 : Hid (Below B w w5) := HL4.out.trans (hb5.mono (by have := HL4.out.size; have := HBB.out; omega))
  have HOL := hide (outb_len S H8.out)
  have HI32 : Hid ((Tryd.prog.info? 28).map (·.size) = some (bv (outb S)).toArray.size) := by
    have h := info32
    show _ = _
    simpa [bv_len, HOL.out] using h
  have HSZ2 : Hid ((bv (List.replicate 32 0)).toArray.size = (bv (outb S)).toArray.size) := by show _ = _; simp [bv_len, HOL.out]
  have HON2 : Hid ((bv (outb S)).toArray.all (·.oneCell') = true) := by
    show _ = _
    rw [Array.all_eq_true_iff_forall_mem]
    intro u hu
    exact bv_one _ u (by simpa using hu)
  generalize outb S = D at *
  go_wp2_with (refine wpList_storeRow rfl rfl B _ (bv D).toArray 28 rfl rfl HR5.out HI32.out HSZ2.out HON2.out ?_)
  refine bodyPost_ret (v := .agg (bv D).toArray) ((results_one (p := 2) (ty := 28) rfl _ _ _).trans (run_loadVar_row (P := Tryd.prog) _ B 28 28 (bv D).toArray (0, 0) _ (row_same HR5.out) Tryd.underlying28 rfl HI32.out)) rfl ⟨by rw [HSH.out], ?_⟩
  rw [HBB.out]
  exact HL5.out.trans ((row_kp w5 B _).below (by have := HL5.out.size; have := HBB.out; omega) (fun q e => by omega))
end Go.Proofs.YtedgdnoafajhoaaDoor
