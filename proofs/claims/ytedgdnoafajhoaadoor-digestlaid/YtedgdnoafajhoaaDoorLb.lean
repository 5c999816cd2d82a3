import Derived.Test.YtedgdnoafajhoaaDoorLa
import Derived.Lib.SlBytesConst
import Derived.Test.YtedgdnoafajhoaaDoorQh
namespace Go.Proofs.YtedgdnoafajhoaaDoor
open Go.RowKit Go

/-- A text that is written out, as bytes. -/
theorem lit_conv (w : World) (A : Array Value) (n : Nat) (hn : A.size = n) : Sem.run Tryd.prog (convert 27 27 (.slice (some ⟨w.heap.size, 0, none⟩) n n)) (w.alloc (.cells A 5)) = .ok (.slice (some ⟨w.heap.size, 0, none⟩) n n) (w.alloc (.cells A 5 (n, n + 1))) := by
  subst hn
  exact Lib.run_convert_bytes_const (P := Tryd.prog) w 27 5 A A.size A.size Tryd.underlying27 Tryd.underlying5
theorem lit_bsl (w : World) (A : Array Value) (fr : Nat × Nat) (n : Nat) (xs : List Nat) (hA : A = (bv xs).toArray) (hn : xs.length = n) (hb : ∀ x ∈ xs, x < 256) (hl : n ≤ 1000) : BSl (w.alloc (.cells A 5 fr)) (.slice (some ⟨w.heap.size, 0, none⟩) n n) xs := by
  subst hA
  subst hn
  refine ⟨⟨_, xs.length, rfl, ⟨Nat.le_refl _, fun h => by cases h⟩, .inr ⟨w.heap.size, 0, rfl, fun j hj => ?_⟩⟩, by omega, hb⟩
  rw [Nat.zero_add]
  have h : (w.alloc (.cells (bv xs).toArray 5 fr)).heap[w.heap.size]? = some (.cells (bv xs).toArray 5 fr) := heap_alloc_new w _
  simp only [World.cell?, h, List.getElem?_toArray]
  exact bv_get hj
theorem below_alloc (w : World) (o : Obj) : Below w.heap.size w (w.alloc o) := (Below.refl _ _).alloc (Nat.le_refl _) _
theorem not_slice_own (g n c : Nat) (h : g ≠ n) : (Value.slice (some ⟨n, 0, none⟩) c c).ownBlock ≠ some g := fun e => h (by simp [Value.ownBlock] at e; exact e.symm)

/-- What begun has in hand. -/
structure Bgn (w wx : World) (D g : Nat) (vb : Value) (xs : List Nat) : Prop where
  d : wx.heap[D]? = some (.cells (bv abcd).toArray 28 (0, 0))
  b : BSl wx vb [0, 2, 97, 98]
  h : HS wx g xs
  c : Cb wx
  l : Below w.heap.size w wx
  dg : D ≠ g
  g0 : w.heap.size ≤ g
  p0 : 0 < w.heap.size
  bg : ∀ k, vb.ownBlock = some k → ¬ k = g
theorem Bgn.below {w wx wy : World} {D g : Nat} {vb : Value} {xs : List Nat} (h : Bgn w wx D g vb xs) (hb : Below wx.heap.size wx wy) : Bgn w wy D g vb xs :=
  ⟨(hb.block D (blk_lt h.d)).trans h.d, h.b.move (keep_below hb), h.h.below hb, h.c.below hb, h.l.trans (hb.mono h.l.size), h.dg, h.g0, h.p0, h.bg⟩
theorem Bgn.write {w wx wy : World} {D g : Nat} {vb : Value} {xs ys : List Nat} (h : Bgn w wx D g vb xs) (hk : Kp (fun q => q = g) wx wy) (hs : HS wy g ys) : Bgn w wy D g vb ys :=
  ⟨(hk.block D (blk_lt h.d) h.dg).trans h.d, hk.bsl h.b h.bg, hs, h.c.kp hk (fun e => by have := h.g0; have := h.p0; omega), h.l.trans (hk.below h.l.size (fun q e => by have := h.g0; omega)), h.dg, h.g0, h.p0, h.bg⟩

theorem cell_mark (w : World) (A : Array Value) (t : TypeId) (fr : Nat × Nat) (p : Addr) : (w.alloc (.cells A t fr)).cell? p = (w.alloc (.cells A t)).cell? p := by
  simp only [World.cell?, World.alloc, Array.getElem?_push]
  by_cases h : p.block = w.heap.size
  · simp [h]
  · simp [h]
theorem heap_mark (w : World) (o o' : Obj) {k : Nat} (h : k ≠ w.heap.size) : (w.alloc o').heap[k]? = (w.alloc o).heap[k]? := by
  show (w.heap.push o')[k]? = (w.heap.push o)[k]?
  rw [Array.getElem?_push, Array.getElem?_push, if_neg h, if_neg h]
theorem heap_new_ne {w : World} {A B : Array Value} {t t' : TypeId} {k : Nat} (ht : t ≠ t') (h : (w.alloc (.cells A t)).heap[k]? = some (.cells B t' (0, 0))) : k ≠ w.heap.size := by
  intro e
  subst e
  rw [heap_alloc_new] at h
  injection h with h
  injection h with _ h _
  exact ht h
theorem Bgn.mark {w wx : World} {D g : Nat} {vb : Value} {xs : List Nat} {A : Array Value} {fr : Nat × Nat} (h : Bgn w (wx.alloc (.cells A 5)) D g vb xs) : Bgn w (wx.alloc (.cells A 5 fr)) D g vb xs := by
  have hm : ∀ a u, (wx.alloc (.cells A 5)).cell? a = some u → (wx.alloc (.cells A 5 fr)).cell? a = some u := fun a u hu => by rw [cell_mark]; exact hu
  have hD := heap_new_ne (by decide) h.d
  have hg := heap_new_ne (by decide) h.h.b
  have hgl := blk_lt h.h.b
  have hsz : (wx.alloc (.cells A 5)).heap.size = wx.heap.size + 1 := by simp
  have g0 := h.g0
  refine ⟨(heap_mark wx _ _ hD).trans h.d, h.b.move hm, ⟨(heap_mark wx _ _ hg).trans h.h.b⟩, h.c.move hm, ?_, h.dg, h.g0, h.p0, h.bg⟩
  exact ⟨h.l.os, h.l.tape, h.l.output, by have := h.l.size; simp at this ⊢; omega, fun k hk => (heap_mark wx _ _ (by omega)).trans (h.l.block k hk)⟩
theorem Bgn.drew {w wx : World} {D g : Nat} {vb : Value} {xs : List Nat} (h : Bgn w wx D g vb xs) : Bgn w wx.drew D g vb xs := h.below ((Below.refl _ _).drew)
theorem Bgn.range {w wx : World} {D g : Nat} {vb : Value} {xs : List Nat} (h : Bgn w wx D g vb xs) : wx.rangeAt D 0 (bv abcd) := fun j v hv => by
  rw [Nat.zero_add]
  exact blk_cell h.d (by rw [List.getElem?_toArray]; exact hv)
theorem Bgn.keep {w wx : World} {D g : Nat} {vb : Value} {xs : List Nat} (h : Bgn w wx D g vb xs) : wx.rangeAt D 0 (bv abcd) ∧ Bgn w wx D g vb xs := ⟨h.range, h⟩
theorem Bgn.markD {w wx : World} {D g : Nat} {vb : Value} {xs : List Nat} {A : Array Value} {fr : Nat × Nat} (h : Bgn w (wx.alloc (.cells A 5)).drew D g vb xs) : Bgn w (wx.alloc (.cells A 5 fr)).drew D g vb xs := Bgn.mark (wx := wx.drew) h
theorem below_allocD (w : World) (o : Obj) : Below w.drew.heap.size w.drew (w.alloc o).drew := below_alloc w.drew o
theorem lit_bslD (w : World) (A : Array Value) (fr : Nat × Nat) (n : Nat) (xs : List Nat) (hA : A = (bv xs).toArray) (hn : xs.length = n) (hb : ∀ x ∈ xs, x < 256) (hl : n ≤ 1000) : BSl (w.alloc (.cells A 5 fr)).drew (.slice (some ⟨w.heap.size, 0, none⟩) n n) xs := lit_bsl w.drew A fr n xs hA hn hb hl
theorem loadD_run (wy : World) {D : Nat} (h : wy.rangeAt D 0 (bv abcd)) {o : Oper} {a : Act} {p : Operand} (ho : o.op = .load 28 p) (hp : a.eval p = .pointer (some ⟨D, 0, none⟩)) : (execOp a.eval o).run Tryd.prog wy = .ok (.value (.agg (bv abcd).toArray)) wy := by
  have hr := part_load (w := wy) D 0 (bv abcd) Tryd.underlying28 info32 h
  unfold execOp
  simp only [ho, Sem.run_bind, hp, hr, Result.andThen_ok]
  rfl
theorem num3b (w : World) : Calls Tryd.prog 26 #[.int .i64 0] w fun e w' => e = .returned (.int .i64 0) ∧ Below w.heap.size w w' := (num3_any w 0).mono fun e w' ⟨h1, h2⟩ => ⟨h1, by rw [h2]; exact Below.refl _ _⟩
theorem sum_abc (w : World) (v : Value) (hcb : Cb w) (hsl : BSl w v [97, 98, 99]) : Calls Tryd.prog 13 #[v] w fun e w' => e = .returned (.agg (bv abcd).toArray) ∧ Below w.heap.size w w' := by
  have h := sum_any w v [97, 98, 99] hcb hsl (by simp)
  rw [sha_abc] at h
  exact h
theorem hsum_abc {w wx : World} {D g : Nat} {vb : Value} (h : Bgn w wx D g vb [97, 98, 99]) : Calls Tryd.prog 22 #[.pointer (some ⟨g, 0, none⟩)] wx fun e w' => e = .returned (.agg (bv abcd).toArray) ∧ Below wx.heap.size wx w' := by
  have h := hsum_any wx g [97, 98, 99] h.c h.h (by simp) (by simp)
  rw [sha_abc] at h
  exact h
theorem same_abc (w : World) : Calls Tryd.prog 12 #[.agg (bv abcd).toArray, .agg (bv abcd).toArray] w fun e w' => e = .returned (.bool true) ∧ Below w.heap.size w w' := by
  have h := same3l_any w abcd abcd rfl rfl
  simpa using h
theorem eq_same (w : World) (v u : Value) (xs : List Nat) (h1 : BSl w v xs) (h2 : BSl w u xs) : Calls Tryd.prog 17 #[v, u] w fun e w' => e = .returned (.bool true) ∧ Below w.heap.size w w' :=
  (eq_any w v u xs xs h1 h2).mono fun e w' ⟨he, hk⟩ => ⟨by rw [he]; simp, hk.below (Nat.le_refl _) (fun _ h => h.elim)⟩
theorem holds_abc {w wx : World} {D g : Nat} {vb u : Value} (h : Bgn w wx D g vb [97, 98, 99]) (hu : BSl wx u [97, 98, 99]) : Calls Tryd.prog 33 #[.int .u64 18, .slice (some ⟨D, 0, none⟩) 32 32, u] wx fun e w' => e = .returned (.bool true) ∧ Below wx.heap.size wx w' := by
  have hd : BSl wx (.slice (some ⟨D, 0, none⟩) 32 32) abcd := bsl_block h.d (by decide) (by decide)
  have e : dholds 18 abcd [97, 98, 99] = true := by
    unfold dholds
    rw [if_pos rfl, sha_abc]
    decide
  have h := holds3_any wx 18 _ u abcd [97, 98, 99] h.c (by omega) hd hu (by simp)
  rw [e] at h
  exact h

set_option maxRecDepth 1000000 in
set_option maxHeartbeats 2000000 in
theorem begun_any (w : World) (hcb : Cb w) : Calls Tryd.prog 9 #[] w fun e w' => e = .returned (.bool true) ∧ Below w.heap.size w w' := by
  have HCB := hide hcb
  clear hcb
  go_enter Tryd.func9, Tryd.ntmps9
  go_wp2_with fail
  refine (abc_any _).mono ?_
  rintro e w1 ⟨rfl, hb1⟩
  have HA : Hid ((Tryd.prog.info? 28).map (·.size) = some (bv abcd).toArray.size) := info32
  have HD1 : Hid ((w1.alloc (.cells (bv abcd).toArray 28)).heap[w1.heap.size]? = some (.cells (bv abcd).toArray 28 (0, 0))) := heap_alloc_new w1 _
  have HB1 : Hid (Below w.heap.size w (w1.alloc (.cells (bv abcd).toArray 28))) := hb1.alloc hb1.size _
  have HDG : Hid (w.heap.size ≤ w1.heap.size) := hb1.size
  clear hb1
  go_wp2_with (refine wpList_storeRow rfl rfl w1.heap.size _ (bv abcd).toArray 28 rfl rfl (heap_alloc_new w1 _) HA.out (by rfl) (by kernel_rfl) ?_; rw [World.setRow_alloc_new]; generalize w1.alloc (.cells (bv abcd).toArray 28) = w2 at *; generalize w1.heap.size = D at *; have cv := lit_conv w2 #[.int .u8 97, .int .u8 98] 2 rfl)
  clear cv
  have HL2 := hide (lit_bsl w2 #[.int .u8 97, .int .u8 98] (2, 3) 2 [97, 98] rfl rfl (by simp) (by omega))
  have HX2 := hide (below_alloc w2 (.cells #[.int .u8 97, .int .u8 98] 5 (2, 3)))
  generalize w2.alloc (.cells #[.int .u8 97, .int .u8 98] 5 (2, 3)) = w3 at *
  refine (dlay_any w3 0 _ [97, 98] (by omega) HL2.out).mono ?_
  rintro e w4 ⟨vb, rfl, ho4, hb4⟩
  have ed : dlay 0 [97, 98] = ([0, 2, 97, 98], 0) := by decide
  rw [ed] at ho4
  have HV4 : Hid (BSl w4 vb [0, 2, 97, 98]) := BSl.own ho4 (by simp)
  have HO4 := hide ho4
  have HB4 : Hid (Below w2.heap.size w2 w4) := HX2.out.trans (hb4.mono HX2.out.size)
  have HK4 : Hid (∀ k, vb.ownBlock = some k → k < w4.heap.size) := fun k hk => (ho4.lt k hk).2
  obtain ⟨ab, cb, hv4, _, _, _⟩ := own_form ho4
  subst hv4
  rw [ed]
  clear ho4 hb4 ed HL2 HX2 HO4
  go_wp2_with fail
  refine (new_any w4).mono ?_
  rintro e w5 ⟨g, rfl, hg5, hs5, hb5⟩
  have HG : Hid (Bgn w w5 D g (.slice ab [0, 2, 97, 98].length cb) []) := by
    have h45 : Below w2.heap.size w2 w5 := HB4.out.trans (hb5.mono HB4.out.size)
    have hw5 : Below w.heap.size w w5 := HB1.out.trans (h45.mono HB1.out.size)
    have hd := blk_lt HD1.out
    have h4 := HB4.out.size
    exact ⟨(h45.block D hd).trans HD1.out, HV4.out.move (keep_below hb5), hs5, HCB.out.below hw5, hw5, by omega, by have := HB1.out.size; omega, HCB.out.pos, fun k hk e => by have := HK4.out k hk; omega⟩
  clear hg5 hs5 hb5 HB4 HV4 HK4 HB1 HD1 HDG
  have cv := lit_conv w5 #[.int .u8 97] 1 rfl
  go_wp2_with fail
  clear cv
  have HL5 := hide (lit_bsl w5 #[.int .u8 97] (1, 2) 1 [97] rfl rfl (by simp) (by omega))
  have HX5 := hide (below_alloc w5 (.cells #[.int .u8 97] 5 (1, 2)))
  have HN5 : Hid (g ≠ w5.heap.size) := by have := blk_lt HG.out.h.b; show _ ≠ _; omega
  generalize w5.alloc (.cells #[.int .u8 97] 5 (1, 2)) = w6 at *
  have HG6 := hide (HG.out.below HX5.out)
  refine (write_any w6 g _ [] [97] HG6.out.c (by have := HG6.out.g0; have := HG6.out.p0; omega) HG6.out.h (by simp) HL5.out (fun _ => not_slice_own _ _ _ HN5.out) (by simp)).mono ?_
  rintro e w7 ⟨rfl, hs7, hk7⟩
  have HG7 := hide (HG6.out.write hk7 hs7)
  rw [List.nil_append] at HG7
  clear HG HG6 hs7 hk7 HL5 HX5 HN5
  have cv := lit_conv w7 #[.int .u8 98, .int .u8 99] 2 rfl
  go_wp2_with fail
  clear cv
  have HL5 := hide (lit_bsl w7 #[.int .u8 98, .int .u8 99] (2, 3) 2 [98, 99] rfl rfl (by simp) (by omega))
  have HX5 := hide (below_alloc w7 (.cells #[.int .u8 98, .int .u8 99] 5 (2, 3)))
  have HN5 : Hid (g ≠ w7.heap.size) := by have := blk_lt HG7.out.h.b; show _ ≠ _; omega
  generalize w7.alloc (.cells #[.int .u8 98, .int .u8 99] 5 (2, 3)) = w8 at *
  have HG8 := hide (HG7.out.below HX5.out)
  refine (write_any w8 g _ [97] [98, 99] HG8.out.c (by have := HG8.out.g0; have := HG8.out.p0; omega) HG8.out.h (by simp) HL5.out (fun _ => not_slice_own _ _ _ HN5.out) (by simp)).mono ?_
  rintro e w9 ⟨rfl, hs9, hk9⟩
  have HG9 : Hid (Bgn w w9 D g (.slice ab [0, 2, 97, 98].length cb) [97, 98, 99]) := HG8.out.write hk9 hs9
  clear HG7 HG8 hs9 hk9 HL5 HX5 HN5
  have HG : Hid (Bgn w w9 D g (.slice ab 4 cb) [97, 98, 99]) := HG9
  clear HG9
  have cv := fun w => lit_conv w #[.int .u8 97, .int .u8 98, .int .u8 99] 3 rfl
  have cv2 : ∀ w : World, Sem.run Tryd.prog (convert 27 27 (.slice (some ⟨w.heap.size, 0, none⟩) 3 3)) (w.alloc (.cells #[.int .u8 97, .int .u8 98, .int .u8 99] 5)).drew = .ok (.slice (some ⟨w.heap.size, 0, none⟩) 3 3) (w.alloc (.cells #[.int .u8 97, .int .u8 98, .int .u8 99] 5 (3, 4))).drew := fun w => lit_conv w.drew #[.int .u8 97, .int .u8 98, .int .u8 99] 3 rfl
  have hu := Tryd.underlying28
  have hi : (Tryd.prog.info? 28).map (·.size) = some (bv abcd).length := info32
  go_wp2_with fail
  refine heldStart (S := fun w' => Bgn w w' D g (.slice ab 4 cb) [97, 98, 99]) (by kernel_rfl) ?_
  have hS := HG.out.drew
  clear HG
  refine heldTake 3 _ rfl (by kernel_rfl) (by kernel_rfl) (by kernel_rfl) (fun _ _ _ h => h) rfl hS (fun wy hy => loadD_run wy hy.range rfl rfl) ?_
  try simp only [Act.put, List.setIfInBounds_toArray, List.set_cons_zero, List.set_cons_succ]
  refine heldStep 0 rfl (by kernel_rfl) (fun K hK => ?_)
  go_simp
  refine hK.out _ _ (hS.below (below_allocD _ _)) (fun hS2 => ?_)
  clear hK K hS
  have hS := hS2
  clear hS2
  try simp only [Act.put, List.setIfInBounds_toArray, List.set_cons_zero, List.set_cons_succ]
  refine heldStep 1 rfl (by kernel_rfl) (fun K hK => ?_)
  go_simp
  refine hK.out _ _ (hS.markD) (fun hS2 => ?_)
  clear hK K hS
  have hS := hS2
  clear hS2
  try simp only [Act.put, List.setIfInBounds_toArray, List.set_cons_zero, List.set_cons_succ]
  refine heldStep 2 rfl (by kernel_rfl) (fun K hK => ?_)
  go_simp
  refine (sum_abc _ _ hS.c (lit_bslD _ _ _ 3 _ rfl rfl (by simp) (by omega))).mono ?_
  rintro e wn ⟨rfl, hbn⟩
  refine hK.out _ _ (hS.below hbn) (fun hS2 => ?_)
  clear hK K hS
  have hS := hS2
  clear hS2
  clear hbn
  try simp only [Act.put, List.setIfInBounds_toArray, List.set_cons_zero, List.set_cons_succ]
  refine heldStep 4 rfl (by kernel_rfl) (fun K hK => ?_)
  go_simp
  refine (same_abc _).mono ?_
  rintro e wn ⟨rfl, hbn⟩
  refine hK.out _ _ (hS.below hbn) (fun hS2 => ?_)
  clear hK K hS
  have hS := hS2
  clear hS2
  clear hbn
  try simp only [Act.put, List.setIfInBounds_toArray, List.set_cons_zero, List.set_cons_succ]
  refine heldTake 5 _ rfl (by kernel_rfl) (by kernel_rfl) (by kernel_rfl) (fun _ _ _ h => h) rfl hS (fun wy hy => by first | rfl | (go_simp)) ?_
  try simp only [Act.put, List.setIfInBounds_toArray, List.set_cons_zero, List.set_cons_succ]
  refine heldTake 6 _ rfl (by kernel_rfl) (by kernel_rfl) (by kernel_rfl) (fun _ _ _ h => h) rfl hS (fun wy hy => by first | rfl | (go_simp)) ?_
  try simp only [Act.put, List.setIfInBounds_toArray, List.set_cons_zero, List.set_cons_succ]
  refine heldTake 8 _ rfl (by kernel_rfl) (by kernel_rfl) (by kernel_rfl) (fun _ _ _ h => h) rfl hS (fun wy hy => loadD_run wy hy.range rfl rfl) ?_
  try simp only [Act.put, List.setIfInBounds_toArray, List.set_cons_zero, List.set_cons_succ]
  refine heldStep 7 rfl (by kernel_rfl) (fun K hK => ?_)
  go_simp
  refine (hsum_abc hS).mono ?_
  rintro e wn ⟨rfl, hbn⟩
  refine hK.out _ _ (hS.below hbn) (fun hS2 => ?_)
  clear hK K hS
  have hS := hS2
  clear hS2
  clear hbn
  try simp only [Act.put, List.setIfInBounds_toArray, List.set_cons_zero, List.set_cons_succ]
  refine heldStep 9 rfl (by kernel_rfl) (fun K hK => ?_)
  go_simp
  refine (same_abc _).mono ?_
  rintro e wn ⟨rfl, hbn⟩
  refine hK.out _ _ (hS.below hbn) (fun hS2 => ?_)
  clear hK K hS
  have hS := hS2
  clear hS2
  clear hbn
  try simp only [Act.put, List.setIfInBounds_toArray, List.set_cons_zero, List.set_cons_succ]
  refine heldTake 10 _ rfl (by kernel_rfl) (by kernel_rfl) (by kernel_rfl) (fun _ _ _ h => h) rfl hS (fun wy hy => by first | rfl | (go_simp)) ?_
  try simp only [Act.put, List.setIfInBounds_toArray, List.set_cons_zero, List.set_cons_succ]
  refine heldTake 11 _ rfl (by kernel_rfl) (by kernel_rfl) (by kernel_rfl) (fun _ _ _ h => h) rfl hS (fun wy hy => by first | rfl | (go_simp)) ?_
  try simp only [Act.put, List.setIfInBounds_toArray, List.set_cons_zero, List.set_cons_succ]
  refine heldTake 12 _ rfl (by kernel_rfl) (by kernel_rfl) (by kernel_rfl) (fun _ _ _ h => h) rfl hS (fun wy hy => by first | rfl | (go_simp)) ?_
  try simp only [Act.put, List.setIfInBounds_toArray, List.set_cons_zero, List.set_cons_succ]
  refine heldStep 13 rfl (by kernel_rfl) (fun K hK => ?_)
  go_simp
  refine (num3b _).mono ?_
  rintro e wn ⟨rfl, hbn⟩
  refine hK.out _ _ (hS.below hbn) (fun hS2 => ?_)
  clear hK K hS
  have hS := hS2
  clear hS2
  clear hbn
  try simp only [Act.put, List.setIfInBounds_toArray, List.set_cons_zero, List.set_cons_succ]
  refine heldTake 14 _ rfl (by kernel_rfl) (by kernel_rfl) (by kernel_rfl) (fun _ _ _ h => h) rfl hS (fun wy hy => by first | rfl | (go_simp)) ?_
  try simp only [Act.put, List.setIfInBounds_toArray, List.set_cons_zero, List.set_cons_succ]
  refine heldTake 15 _ rfl (by kernel_rfl) (by kernel_rfl) (by kernel_rfl) (fun _ _ _ h => h) rfl hS (fun wy hy => by first | rfl | (go_simp)) ?_
  try simp only [Act.put, List.setIfInBounds_toArray, List.set_cons_zero, List.set_cons_succ]
  refine heldTake 16 _ rfl (by kernel_rfl) (by kernel_rfl) (by kernel_rfl) (fun _ _ _ h => h) rfl hS (fun wy hy => by first | rfl | (go_simp)) ?_
  try simp only [Act.put, List.setIfInBounds_toArray, List.set_cons_zero, List.set_cons_succ]
  refine heldTake 17 _ rfl (by kernel_rfl) (by kernel_rfl) (by kernel_rfl) (fun _ _ _ h => h) rfl hS (fun wy hy => by first | rfl | (go_simp)) ?_
  try simp only [Act.put, List.setIfInBounds_toArray, List.set_cons_zero, List.set_cons_succ]
  refine heldStep 18 rfl (by kernel_rfl) (fun K hK => ?_)
  go_simp
  refine hK.out _ _ (hS.below (below_alloc _ _)) (fun hS2 => ?_)
  clear hK K hS
  have hS := hS2
  clear hS2
  try simp only [Act.put, List.setIfInBounds_toArray, List.set_cons_zero, List.set_cons_succ]
  refine heldStep 19 rfl (by kernel_rfl) (fun K hK => ?_)
  go_simp
  refine (eq_same _ _ _ [0, 2, 97, 98] hS.b (lit_bsl _ _ _ 4 _ rfl rfl (by simp) (by omega))).mono ?_
  rintro e wn ⟨rfl, hbn⟩
  refine hK.out _ _ (hS.below hbn) (fun hS2 => ?_)
  clear hK K hS
  have hS := hS2
  clear hS2
  clear hbn
  try simp only [Act.put, List.setIfInBounds_toArray, List.set_cons_zero, List.set_cons_succ]
  refine heldTake 20 _ rfl (by kernel_rfl) (by kernel_rfl) (by kernel_rfl) (fun _ _ _ h => h) rfl hS (fun wy hy => by first | rfl | (go_simp)) ?_
  try simp only [Act.put, List.setIfInBounds_toArray, List.set_cons_zero, List.set_cons_succ]
  refine heldTake 21 _ rfl (by kernel_rfl) (by kernel_rfl) (by kernel_rfl) (fun _ _ _ h => h) rfl hS (fun wy hy => by first | rfl | (go_simp)) ?_
  try simp only [Act.put, List.setIfInBounds_toArray, List.set_cons_zero, List.set_cons_succ]
  refine heldTake 22 _ rfl (by kernel_rfl) (by kernel_rfl) (by kernel_rfl) (fun _ _ _ h => h) rfl hS (fun wy hy => by first | rfl | (go_simp)) ?_
  try simp only [Act.put, List.setIfInBounds_toArray, List.set_cons_zero, List.set_cons_succ]
  refine heldStep 23 rfl (by kernel_rfl) (fun K hK => ?_)
  go_simp
  refine hK.out _ _ (hS.below (below_alloc _ _)) (fun hS2 => ?_)
  clear hK K hS
  have hS := hS2
  clear hS2
  try simp only [Act.put, List.setIfInBounds_toArray, List.set_cons_zero, List.set_cons_succ]
  refine heldStep 24 rfl (by kernel_rfl) (fun K hK => ?_)
  go_simp
  refine hK.out _ _ (hS.mark) (fun hS2 => ?_)
  clear hK K hS
  have hS := hS2
  clear hS2
  try simp only [Act.put, List.setIfInBounds_toArray, List.set_cons_zero, List.set_cons_succ]
  refine heldStep 25 rfl (by kernel_rfl) (fun K hK => ?_)
  go_simp
  refine (holds_abc hS (lit_bsl _ _ _ 3 _ rfl rfl (by simp) (by omega))).mono ?_
  rintro e wn ⟨rfl, hbn⟩
  refine hK.out _ _ (hS.below hbn) (fun hS2 => ?_)
  clear hK K hS
  have hS := hS2
  clear hS2
  clear hbn
  try simp only [Act.put, List.setIfInBounds_toArray, List.set_cons_zero, List.set_cons_succ]
  refine heldTake 26 _ rfl (by kernel_rfl) (by kernel_rfl) (by kernel_rfl) (fun _ _ _ h => h) rfl hS (fun wy hy => by first | rfl | (go_simp)) ?_
  try simp only [Act.put, List.setIfInBounds_toArray, List.set_cons_zero, List.set_cons_succ]
  refine heldTake 27 _ rfl (by kernel_rfl) (by kernel_rfl) (by kernel_rfl) (fun _ _ _ h => h) rfl hS (fun wy hy => by first | rfl | (go_simp)) ?_
  simp only [Act.put, List.setIfInBounds_toArray, List.set_cons_zero]
  refine heldDone (by kernel_rfl) ?_
  go_wp2_with fail
  go_ret
  exact ⟨rfl, hS.l⟩
end Go.Proofs.YtedgdnoafajhoaaDoor
