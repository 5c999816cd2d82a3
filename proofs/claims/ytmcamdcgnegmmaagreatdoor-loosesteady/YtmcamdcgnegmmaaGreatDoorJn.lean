import Derived.Test.YtmcamdcgnegmmaaGreatDoorJm
import Derived.Test.YtmcamdcgnegmmaaGreatDoorJk
import Derived.Test.YtmcamdcgnegmmaaGreatDoorJb
import Derived.BigRegion
import Derived.Test.YtmcamdcgnegmmaaGreatDoorJd
set_option maxRecDepth 1000000
set_option maxHeartbeats 16000000
namespace Go.Proofs.YtmcamdcgnegmmaaGreatDoor
section
open Go.RowKit Go
def vz9 : Array Value := #[.int .i64 0, .bool false, .bool false, .int .u64 0, .int .u64 0, .string ⟨#[]⟩, .slice none 0 0, .int .i64 0, .int .u64 0, .int .u64 0, .string ⟨#[]⟩, .slice none 0 0, .slice none 0 0]
theorem infoV13 : (Tryz.prog.info? 41).map (·.size) = some 13 := by kernel_rfl
theorem aggV9 (w : World) : (isAgg 41).run Tryz.prog w = .ok true w := by kernel_rfl
structure Vrb (w wx : World) (N0 g : Nat) (v : Value) (b : List Nat) (dp p op : Nat) (vn vx : Value) (ns : List (Nat × Nat)) (R V : Nat) (c : Array Value) : Prop where
  i : Itg w wx N0 g v b dp p op vn vx ns
  r : wx.heap[R]? = some (.cells vz9 41 (0, 0))
  a : wx.heap[V]? = some (.cells c 41 (0, 0))
  lr : w.heap.size ≤ R
  la : w.heap.size ≤ V
  ne : R ≠ V
  N : N0 ≤ w.heap.size
  G : g < w.heap.size
section
variable {w wx wy : World} {N0 g : Nat} {v : Value} {b : List Nat} {dp p op p' op' : Nat} {vn vx vx' : Value} {ns ns' : List (Nat × Nat)} {R V : Nat} {c c' : Array Value}
theorem Vrb.set (h : Vrb w wx N0 g v b dp p op vn vx ns R V c) (j : Nat) (x : Value) (hc : c.setIfInBounds j x = c') : Vrb w (wx.setCell ⟨V, j, none⟩ x) N0 g v b dp p op vn vx ns R V c' := by
  have hk : Kp (fun q => q = V) wx (wx.setCell ⟨V, j, none⟩ x) := (Kp.refl (fun q => q = V) wx).setCell ⟨V, j, none⟩ x (fun _ => rfl)
  refine ⟨h.i.kpS hk (fun q e => ⟨e ▸ h.la, fun e2 => own_not h.i.i.o h.a (by decide) (e ▸ e2)⟩) h.G h.N, blk_other j x h.r h.ne, ?_, h.lr, h.la, h.ne, h.N, h.G⟩
  have h1 := blk_set j x h.a
  rw [hc] at h1
  exact h1
theorem Vrb.on (h : Vrb w wx N0 g v b dp p op vn vx ns R V c) (h2 : Itg wx wy N0 g v b dp p' op' vx vx' ns') : Vrb w wy N0 g v b dp p' op' vn vx' ns' R V c :=
  ⟨h.i.trans h2, h.i.i.keptB h.r (by decide) h2.k, h.i.i.keptB h.a (by decide) h2.k, h.lr, h.la, h.ne, h.N, h.G⟩
theorem Vrb.next (h : Vrb w wx N0 g v b dp p op vn vx ns R V c) (hb : Below wx.heap.size wx wy) : Vrb w wy N0 g v b dp p op vn vx ns R V c := h.on (h.i.i.next hb)
theorem Vrb.fin (h : Vrb w wx N0 g v b dp p op vn vx ns R V c) (c' : Array Value) : Itg w (wx.setRow R c') N0 g v b dp p op vn vx ns := h.i.setB h.r (by decide) h.lr h.N
theorem Vrb.cell (h : Vrb w wx N0 g v b dp p op vn vx ns R V c) : ∀ j u, c[j]? = some u → wx.cell? ⟨V, 0 + j, none⟩ = some u := fun j u hu => by rw [Nat.zero_add]; exact blk_cell h.a hu
end
theorem end_v9 {wx : World} {R : Nat} {c : Array Value} {fn : Func} {p : Tmp} {tmps : Array Value} (hf : fn.results = #[.cell p 41]) (hr : wx.heap[R]? = some (.cells c 41 (0, 0))) (hp : tmps.getD p undef = .pointer (some ⟨R, 0, none⟩)) (hn : c.size = 13) : (results fn tmps).run Tryz.prog wx = .ok (.agg c) wx :=
  results_cell_row hf tmps wx R 41 c (0, 0) _ hp hr Tryz.underlying41 rfl (by rw [hn]; exact infoV13)

theorem wpList_conv9 {ops : Array Oper} {rest : List Oper} {o : Oper} {a : Act} {Q : Exit → Act → World → Prop} {w w' : World} {r u : Value} {s d : TypeId} {x : Operand} (hgd : o.guard = none) (ho : o.op = .convert s d x) (hx : a.eval x = u) (hr : (convert s d u).run Tryz.prog w = .ok r w') (h : wpList Tryz.prog ops Q rest (a.put o.dst r) w') : wpList Tryz.prog ops Q (o :: rest) a w := by
  refine wpList_plain hgd fun K hK => ?_
  unfold Oper.wp execOp
  simp only [ho, hx, Sem.run_bind, Sem.run_pure, hr, Result.andThen_ok]
  exact hK _ _ h
theorem tobits32_any (r : Nat) (w : World) : (callFunc 48 #[.float .f32 r]).run Tryz.prog w = .ok (.value (.int .u32 (r : Nat))) w := by
  rw [run_callFunc_extern Tryz.func48 (by kernel_rfl) (by kernel_rfl) (by kernel_rfl) (e := Extern.MathFloatBits.float32bits) (by kernel_rfl)]
  rfl
theorem frombits32_any (r : Nat) (w : World) : (callFunc 52 #[.int .u32 (r : Nat)]).run Tryz.prog w = .ok (.value (.float .f32 r)) w := by
  rw [run_callFunc_extern Tryz.func52 (by kernel_rfl) (by kernel_rfl) (by kernel_rfl) (e := Extern.MathFloatBits.float32frombits) (by kernel_rfl)]
  rfl
theorem single9_any (w w' : World) (B r : Nat) (hr : (convert 101 99 (.float .f64 B)).run Tryz.prog w = .ok (.float .f32 r) w') : Calls Tryz.prog 49 #[.float .f64 B] w fun e w2 => e = .returned (.float .f32 r) ∧ w2 = w' := by
  go_enter Tryz.func49, Tryz.ntmps49
  go_wp2_with (refine wpList_conv9 rfl rfl rfl hr ?_)
  first
    | exact bodyPost_ret (results_tmp (t := 2) rfl _ _ _) rfl ⟨rfl, rfl⟩
    | (go_ret; exact ⟨rfl, rfl⟩)
theorem halfS9 (w : World) (n : Nat) : ∃ r w', (convert 101 99 (.float .f64 (hlf n))).run Tryz.prog w = .ok (.float .f32 r) w' ∧ Below w.heap.size w w' ∧ r < 4294967296 ∧ ((n % 32768 < 31744 ∧ r = nrw (hlf n) ∧ r % 2147483648 < 2139095040) ∨ (31744 ≤ n % 32768 ∧ 2139095040 ≤ r % 2147483648)) := by
  have hs : (Tryz.prog.underlying 101).isSome = true := by rw [Tryz.underlying101]; rfl
  have hd : Tryz.prog.underlying 99 = some (.float .f32) := Tryz.underlying99
  by_cases h1 : n % 32768 < 31744
  · obtain ⟨h2, h3⟩ := f64_f32 (hlf_fin h1)
    exact ⟨_, w, run_convert_float_float _ _ _ .f64 .f32 _ _ hs hd h2, Below.refl _ _, nrw_lt _, .inl ⟨h1, rfl, h3⟩⟩
  · by_cases h4 : n % 32768 = 31744
    · obtain ⟨h2, h3⟩ := f64_f32_inf (hlf_inf h4)
      exact ⟨_, w, run_convert_float_float _ _ _ .f64 .f32 _ _ hs hd h2, Below.refl _ _, nrw_lt _, .inr ⟨by omega, by omega⟩⟩
    · obtain ⟨B, h2, h3, h5⟩ := f64_f32_nan (r := hlf n) (by rw [hlf_nan (by omega)]; decide) 101 99 hs hd w
      refine ⟨B, w.drew, h2, ?_, h5, .inr ⟨by omega, by omega⟩⟩
      refine Below.drew ?_
      exact Below.refl _ _
theorem wideS9 (w : World) (r : Nat) : ∃ B w', (convert 99 101 (.float .f32 r)).run Tryz.prog w = .ok (.float .f64 B) w' ∧ Below w.heap.size w w' ∧ B < 18446744073709551616 ∧ finb B = decide (r % 2147483648 < 2139095040) ∧ (r % 2147483648 < 2139095040 → B = sgl r) := by
  have hs : (Tryz.prog.underlying 99).isSome = true := by rw [Tryz.underlying99]; rfl
  have hd : Tryz.prog.underlying 101 = some (.float .f64) := Tryz.underlying101
  by_cases h1 : r % 2147483648 ≤ 2139095040
  · exact ⟨_, w, run_convert_float_float _ _ _ .f32 .f64 _ _ hs hd (f32_f64 h1), Below.refl _ _, sgl_lt _, sgl_finb h1, fun _ => rfl⟩
  · obtain ⟨B, h2, h3, h5⟩ := f32_f64_nan (r := r) (by omega) 99 101 hs hd w
    refine ⟨B, w.drew, h2, ?_, h5, by rw [h3, decide_eq_false (by omega)], fun h => by omega⟩
    refine Below.drew ?_
    exact Below.refl _ _

def OthP (w : World) (N0 g : Nat) (v : Value) (b : List Nat) (dp p op : Nat) (vn : Value) (r : Lx (Tv × List (Nat × Nat))) (e : Ending) (w' : World) : Prop := (∃ x vx, r = .ok x ∧ e = .returned (.agg (vcs x.1 (.slice none 0 0) (.slice none 0 0) (.slice none 0 0))) ∧ Itg w w' N0 g v b dp p op vn vx x.2) ∨ ∃ c q, r = .error (c, q) ∧ e = gup c q ∧ Kp (fun q => q = g ∨ vn.ownBlock = some q) w w'
theorem other9_any {w : World} {N0 g : Nat} {v : Value} {b : List Nat} {dp p op : Nat} {vn : Value} {ns : List (Nat × Nat)} (hI : Itp w N0 g v b dp p op vn ns) (at' : Nat) (h : HR) (hn : h.n < 18446744073709551616) (hns : ns.length ≤ 999990) : Calls Tryz.prog 32 #[.pointer (some ⟨g, 0, none⟩), .int .i64 (at' : Nat), h.val] w (OthP w N0 g v b dp p op vn (loth at' h.i h.n ns)) := by
  obtain ⟨LS, hLS⟩ : ∃ LS, LS = loth at' h.i h.n ns := ⟨_, rfl⟩
  rw [← hLS]
  obtain ⟨hm', hi, hn', hu', hs, he⟩ := h
  replace hLS : LS = loth at' hi hn' ns := hLS
  unfold loth at hLS
  have HLS := hide hLS
  obtain ⟨w1, hw1⟩ : ∃ w1, w1 = w.alloc (.cells #[.int .i64 (hm' : Nat), .int .i64 (hi : Nat), .int .u64 (hn' : Nat), .int .i64 (hu' : Nat), .bool hs] 66) := ⟨_, rfl⟩
  obtain ⟨w2, hw2⟩ : ∃ w2, w2 = w1.alloc (.cells #[.int .i64 0, .bool false, .bool false, .int .u64 0, .int .u64 0, .string ⟨#[]⟩, .slice none 0 0, .int .i64 0, .int .u64 0, .int .u64 0, .string ⟨#[]⟩, .slice none 0 0, .slice none 0 0] 41) := ⟨_, rfl⟩
  obtain ⟨w3, hw3⟩ : ∃ w3, w3 = w2.alloc (.cells #[.int .i64 0, .bool false, .bool false, .int .u64 0, .int .u64 0, .string ⟨#[]⟩, .slice none 0 0, .int .i64 0, .int .u64 0, .int .u64 0, .string ⟨#[]⟩, .slice none 0 0, .slice none 0 0] 41) := ⟨_, rfl⟩
  have hb1 : Below w.heap.size w w1 := hw1 ▸ below_alloc4 w _
  have hb2 : Below w1.heap.size w1 w2 := hw2 ▸ below_alloc4 w1 _
  have hb3 : Below w2.heap.size w2 w3 := hw3 ▸ below_alloc4 w2 _
  have hz1 : w1.heap.size = w.heap.size + 1 := by rw [hw1]; simp
  have hz2 : w2.heap.size = w.heap.size + 2 := by rw [hw2]; simp [hz1]
  have hg1 := heap_alloc_new w (.cells #[.int .i64 (hm' : Nat), .int .i64 (hi : Nat), .int .u64 (hn' : Nat), .int .i64 (hu' : Nat), .bool hs] 66)
  rw [← hw1] at hg1
  have hg2 := heap_alloc_new w1 (.cells #[.int .i64 0, .bool false, .bool false, .int .u64 0, .int .u64 0, .string ⟨#[]⟩, .slice none 0 0, .int .i64 0, .int .u64 0, .int .u64 0, .string ⟨#[]⟩, .slice none 0 0, .slice none 0 0] 41)
  rw [← hw2, hz1] at hg2
  have hg3 := heap_alloc_new w2 (.cells #[.int .i64 0, .bool false, .bool false, .int .u64 0, .int .u64 0, .string ⟨#[]⟩, .slice none 0 0, .int .i64 0, .int .u64 0, .int .u64 0, .string ⟨#[]⟩, .slice none 0 0, .slice none 0 0] 41)
  rw [← hw3, hz2] at hg3
  have hg13 := (hb3.block _ (by omega)).trans ((hb2.block _ (blk_lt hg1)).trans hg1)
  have d1 : w3.cell? ⟨w.heap.size, 1, none⟩ = some (.int .i64 (hi : Nat)) := blk_cell (j := 1) hg13 rfl
  have d2 : w3.cell? ⟨w.heap.size, 2, none⟩ = some (.int .u64 (hn' : Nat)) := blk_cell (j := 2) hg13 rfl
  have HN0 : Hid (N0 ≤ w.heap.size) := by have h1 := hI.g; have h2 := blk_lt hI.r.blk; show _ ≤ _; omega
  have hb23 := hb2.trans (hb3.mono hb2.size)
  have HV3 : Hid (Vrb w w3 N0 g v b dp p op vn vn ns (w.heap.size + 1) (w.heap.size + 2) #[.int .i64 0, .bool false, .bool false, .int .u64 0, .int .u64 0, .string ⟨#[]⟩, .slice none 0 0, .int .i64 0, .int .u64 0, .int .u64 0, .string ⟨#[]⟩, .slice none 0 0, .slice none 0 0]) := ⟨hI.next (hb1.trans (hb23.mono hb1.size)), (hb3.block _ (blk_lt hg2)).trans hg2, hg3, by omega, by omega, by omega, HN0.out, blk_lt hI.r.blk⟩
  have HNS := hide hns
  have HNL := hide hn
  simp only [HR.val]
  clear hI hn hns hLS hb1 hb2 hb3 hb23 hz1 hz2 hg1 hg2 hg3 hg13
  go_enter Tryz.func32, Tryz.ntmps32
  go_upto_region 2 with fail
  rw [← hw1, ← hw2, ← hw3]
  clear hw1 hw2 hw3
  by_cases h21 : hi = 21
  · as_aux_lemma =>
    have g21 : ((hi : Int) == 21) = true := by rw [beq_iff_eq]; omega
    have HL : Hid (LS = .ok (.mk 2 true false 0 0 ⟨#[]⟩ [] ⟨0, 0, 0, []⟩ [] [], ns)) := HLS.out.trans (if_pos h21)
    clear h21 HLS
    have c1w : w3.cell? ⟨w.heap.size + 2, 1, none⟩ = some _ := blk_cell (j := 1) HV3.out.a rfl
    have f1w : w3.frozen? ⟨w.heap.size + 2, 1, none⟩ = false := blk_frozen 1 HV3.out.a
    have HV3s : Hid (Vrb w (w3.setCell ⟨w.heap.size + 2, 1, none⟩ (.bool true)) N0 g v b dp p op vn vn ns (w.heap.size + 1) (w.heap.size + 2) #[.int .i64 0, .bool true, .bool false, .int .u64 0, .int .u64 0, .string ⟨#[]⟩, .slice none 0 0, .int .i64 0, .int .u64 0, .int .u64 0, .string ⟨#[]⟩, .slice none 0 0, .slice none 0 0]) := HV3.out.set 1 (.bool true) rfl
    go_upto_region 11 with fail
    generalize w3.setCell ⟨w.heap.size + 2, 1, none⟩ (.bool true) = w4 at *
    clear c1w f1w
    have c0w : w4.cell? ⟨w.heap.size + 2, 0, none⟩ = some _ := blk_cell (j := 0) HV3s.out.a rfl
    have f0w : w4.frozen? ⟨w.heap.size + 2, 0, none⟩ = false := blk_frozen 0 HV3s.out.a
    have HV3ss : Hid (Vrb w (w4.setCell ⟨w.heap.size + 2, 0, none⟩ (.int .i64 2)) N0 g v b dp p op vn vn ns (w.heap.size + 1) (w.heap.size + 2) #[.int .i64 2, .bool true, .bool false, .int .u64 0, .int .u64 0, .string ⟨#[]⟩, .slice none 0 0, .int .i64 0, .int .u64 0, .int .u64 0, .string ⟨#[]⟩, .slice none 0 0, .slice none 0 0]) := HV3s.out.set 0 (.int .i64 2) rfl
    go_upto_region 20 with fail
    generalize w4.setCell ⟨w.heap.size + 2, 0, none⟩ (.int .i64 2) = w5 at *
    have HVE := HV3ss
    have HFC : Hid (Itg w _ N0 g v b dp p op vn vn _) := HVE.out.fin (#[.int .i64 2, .bool true, .bool false, .int .u64 0, .int .u64 0, .string ⟨#[]⟩, .slice none 0 0, .int .i64 0, .int .u64 0, .int .u64 0, .string ⟨#[]⟩, .slice none 0 0, .slice none 0 0])
    have HRB := hide HVE.out.r
    have HVC := hide HVE.out.cell
    have HI := hide infoV13
    have HAG : Hid (∀ w, (isAgg 41).run Tryz.prog w = .ok true w) := aggV9
    have HAL : Hid ((#[.int .i64 2, .bool true, .bool false, .int .u64 0, .int .u64 0, .string ⟨#[]⟩, .slice none 0 0, .int .i64 0, .int .u64 0, .int .u64 0, .string ⟨#[]⟩, .slice none 0 0, .slice none 0 0] : Array Value).all (·.oneCell') = true) := by show _ = _; simp [Value.oneCell']
    clear HVE
    go_wp2_with (first
      | (refine wpList_aggAt rfl rfl HI.out HAG.out (w.heap.size + 2) 0 (#[.int .i64 2, .bool true, .bool false, .int .u64 0, .int .u64 0, .string ⟨#[]⟩, .slice none 0 0, .int .i64 0, .int .u64 0, .int .u64 0, .string ⟨#[]⟩, .slice none 0 0, .slice none 0 0]) rfl rfl HVC.out ?_)
      | (refine wpList_storeRow rfl rfl (w.heap.size + 1) vz9 (#[.int .i64 2, .bool true, .bool false, .int .u64 0, .int .u64 0, .string ⟨#[]⟩, .slice none 0 0, .int .i64 0, .int .u64 0, .int .u64 0, .string ⟨#[]⟩, .slice none 0 0, .slice none 0 0]) 41 rfl rfl HRB.out HI.out rfl HAL.out ?_))
    exact bodyPost_ret (end_v9 rfl (row_same HRB.out) rfl rfl) rfl (.inl ⟨_, _, HL.out, rfl, HFC.out⟩)
  by_cases h20 : hi = 20
  · as_aux_lemma =>
    have g21 : ((hi : Int) == 21) = false := by rw [beq_eq_false_iff_ne]; omega
    have g20 : ((hi : Int) == 20) = true := by rw [beq_iff_eq]; omega
    have HL : Hid (LS = .ok (tvk 2, ns)) := HLS.out.trans ((if_neg h21).trans (if_pos h20))
    clear h21 h20 HLS
    have c0w : w3.cell? ⟨w.heap.size + 2, 0, none⟩ = some _ := blk_cell (j := 0) HV3.out.a rfl
    have f0w : w3.frozen? ⟨w.heap.size + 2, 0, none⟩ = false := blk_frozen 0 HV3.out.a
    have HV3s : Hid (Vrb w (w3.setCell ⟨w.heap.size + 2, 0, none⟩ (.int .i64 2)) N0 g v b dp p op vn vn ns (w.heap.size + 1) (w.heap.size + 2) #[.int .i64 2, .bool false, .bool false, .int .u64 0, .int .u64 0, .string ⟨#[]⟩, .slice none 0 0, .int .i64 0, .int .u64 0, .int .u64 0, .string ⟨#[]⟩, .slice none 0 0, .slice none 0 0]) := HV3.out.set 0 (.int .i64 2) rfl
    go_upto_region 20 with fail
    generalize w3.setCell ⟨w.heap.size + 2, 0, none⟩ (.int .i64 2) = w5 at *
    have HVE := HV3s
    have HFC : Hid (Itg w _ N0 g v b dp p op vn vn _) := HVE.out.fin (#[.int .i64 2, .bool false, .bool false, .int .u64 0, .int .u64 0, .string ⟨#[]⟩, .slice none 0 0, .int .i64 0, .int .u64 0, .int .u64 0, .string ⟨#[]⟩, .slice none 0 0, .slice none 0 0])
    have HRB := hide HVE.out.r
    have HVC := hide HVE.out.cell
    have HI := hide infoV13
    have HAG : Hid (∀ w, (isAgg 41).run Tryz.prog w = .ok true w) := aggV9
    have HAL : Hid ((#[.int .i64 2, .bool false, .bool false, .int .u64 0, .int .u64 0, .string ⟨#[]⟩, .slice none 0 0, .int .i64 0, .int .u64 0, .int .u64 0, .string ⟨#[]⟩, .slice none 0 0, .slice none 0 0] : Array Value).all (·.oneCell') = true) := by show _ = _; simp [Value.oneCell']
    clear HVE
    go_wp2_with (first
      | (refine wpList_aggAt rfl rfl HI.out HAG.out (w.heap.size + 2) 0 (#[.int .i64 2, .bool false, .bool false, .int .u64 0, .int .u64 0, .string ⟨#[]⟩, .slice none 0 0, .int .i64 0, .int .u64 0, .int .u64 0, .string ⟨#[]⟩, .slice none 0 0, .slice none 0 0]) rfl rfl HVC.out ?_)
      | (refine wpList_storeRow rfl rfl (w.heap.size + 1) vz9 (#[.int .i64 2, .bool false, .bool false, .int .u64 0, .int .u64 0, .string ⟨#[]⟩, .slice none 0 0, .int .i64 0, .int .u64 0, .int .u64 0, .string ⟨#[]⟩, .slice none 0 0, .slice none 0 0]) 41 rfl rfl HRB.out HI.out rfl HAL.out ?_))
    exact bodyPost_ret (end_v9 rfl (row_same HRB.out) rfl rfl) rfl (.inl ⟨_, _, HL.out, rfl, HFC.out⟩)
  by_cases h22 : hi = 22
  · as_aux_lemma =>
    have g21 : ((hi : Int) == 21) = false := by rw [beq_eq_false_iff_ne]; omega
    have g20 : ((hi : Int) == 20) = false := by rw [beq_eq_false_iff_ne]; omega
    have g22 : ((hi : Int) == 22) = true := by rw [beq_iff_eq]; omega
    have HL : Hid (LS = .ok (tvk 1, ns)) := HLS.out.trans ((if_neg h21).trans ((if_neg h20).trans (if_pos h22)))
    clear h21 h20 h22 HLS
    have c0w : w3.cell? ⟨w.heap.size + 2, 0, none⟩ = some _ := blk_cell (j := 0) HV3.out.a rfl
    have f0w : w3.frozen? ⟨w.heap.size + 2, 0, none⟩ = false := blk_frozen 0 HV3.out.a
    have HV3s : Hid (Vrb w (w3.setCell ⟨w.heap.size + 2, 0, none⟩ (.int .i64 1)) N0 g v b dp p op vn vn ns (w.heap.size + 1) (w.heap.size + 2) #[.int .i64 1, .bool false, .bool false, .int .u64 0, .int .u64 0, .string ⟨#[]⟩, .slice none 0 0, .int .i64 0, .int .u64 0, .int .u64 0, .string ⟨#[]⟩, .slice none 0 0, .slice none 0 0]) := HV3.out.set 0 (.int .i64 1) rfl
    go_upto_region 20 with fail
    generalize w3.setCell ⟨w.heap.size + 2, 0, none⟩ (.int .i64 1) = w5 at *
    have HVE := HV3s
    have HFC : Hid (Itg w _ N0 g v b dp p op vn vn _) := HVE.out.fin (#[.int .i64 1, .bool false, .bool false, .int .u64 0, .int .u64 0, .string ⟨#[]⟩, .slice none 0 0, .int .i64 0, .int .u64 0, .int .u64 0, .string ⟨#[]⟩, .slice none 0 0, .slice none 0 0])
    have HRB := hide HVE.out.r
    have HVC := hide HVE.out.cell
    have HI := hide infoV13
    have HAG : Hid (∀ w, (isAgg 41).run Tryz.prog w = .ok true w) := aggV9
    have HAL : Hid ((#[.int .i64 1, .bool false, .bool false, .int .u64 0, .int .u64 0, .string ⟨#[]⟩, .slice none 0 0, .int .i64 0, .int .u64 0, .int .u64 0, .string ⟨#[]⟩, .slice none 0 0, .slice none 0 0] : Array Value).all (·.oneCell') = true) := by show _ = _; simp [Value.oneCell']
    clear HVE
    go_wp2_with (first
      | (refine wpList_aggAt rfl rfl HI.out HAG.out (w.heap.size + 2) 0 (#[.int .i64 1, .bool false, .bool false, .int .u64 0, .int .u64 0, .string ⟨#[]⟩, .slice none 0 0, .int .i64 0, .int .u64 0, .int .u64 0, .string ⟨#[]⟩, .slice none 0 0, .slice none 0 0]) rfl rfl HVC.out ?_)
      | (refine wpList_storeRow rfl rfl (w.heap.size + 1) vz9 (#[.int .i64 1, .bool false, .bool false, .int .u64 0, .int .u64 0, .string ⟨#[]⟩, .slice none 0 0, .int .i64 0, .int .u64 0, .int .u64 0, .string ⟨#[]⟩, .slice none 0 0, .slice none 0 0]) 41 rfl rfl HRB.out HI.out rfl HAL.out ?_))
    exact bodyPost_ret (end_v9 rfl (row_same HRB.out) rfl rfl) rfl (.inl ⟨_, _, HL.out, rfl, HFC.out⟩)
  by_cases h25 : hi = 25
  · as_aux_lemma =>
    have g21 : ((hi : Int) == 21) = false := by rw [beq_eq_false_iff_ne]; omega
    have g20 : ((hi : Int) == 20) = false := by rw [beq_eq_false_iff_ne]; omega
    have g22 : ((hi : Int) == 22) = false := by rw [beq_eq_false_iff_ne]; omega
    have g25 : ((hi : Int) == 25) = true := by rw [beq_iff_eq]; omega
    have HL1 := hide (HLS.out.trans ((if_neg h21).trans ((if_neg h20).trans ((if_neg h22).trans (if_pos h25)))))
    have k1 : IntKind.u16.wrap (hn' : Int) = ((hn' % 65536 : Nat) : Int) := by rw [IntKind.wrap_u16]; omega
    obtain ⟨m, hm⟩ : ∃ m, m = hn' % 65536 := ⟨_, rfl⟩
    have HM : Hid (m < 65536 ∧ m % 32768 = hn' % 32768) := ⟨by omega, by omega⟩
    rw [← hm] at k1 HL1
    have HFH := hide (fromHalf9_any w3 m HM.out.1)
    clear hm h21 h20 h22 h25 HLS
    go_wp2_with fail
    refine HFH.out.mono ?_
    rintro e w4 ⟨rfl, hb4⟩
    obtain ⟨r, w5, hcv, hb5, hrl, hr⟩ := halfS9 w4 m
    have HSI := hide (single9_any w4 w5 (hlf m) r hcv)
    have HV5 := hide ((HV3.out.next hb4).next hb5)
    have HL0 : Hid ((r % 2147483648 < 2139095040 → LS = .ok (.mk 4 false false 0 (sgl r) ⟨#[]⟩ [] ⟨0, 0, 0, []⟩ [] [], ns ++ [(at', 3)])) ∧ (¬ r % 2147483648 < 2139095040 → LS = .error (95, at'))) := by
      rcases hr with ⟨h1, h2, h3⟩ | ⟨h1, h2⟩
      · exact ⟨fun _ => by rw [HL1.out, if_pos (by rw [← HM.out.2]; exact h1), h2], fun h => absurd h3 h⟩
      · exact ⟨fun h => absurd h (by omega), fun _ => by rw [HL1.out, if_neg (by rw [← HM.out.2]; omega)]⟩
    have HK2 : Hid (IntKind.u32.wrap (r : Int) = (r : Int)) := by show _ = _; rw [IntKind.wrap_u32]; omega
    have k3 : IntKind.u64.wrap (r : Int) = (r : Int) := by rw [IntKind.wrap_u64]; omega
    have hft := tobits32_any r
    clear hcv hb4 hb5 hrl hr HL1 HM HFH HV3
    go_wp2_with fail
    refine HSI.out.mono ?_
    rintro e w5 ⟨rfl, rfl⟩
    go_upto_region 14 with fail
    clear HSI hft k3 k1
    have k2 : IntKind.u32.wrap (r : Int) = (r : Int) := HK2.out
    have hfb3 := frombits32_any r
    obtain ⟨B, wq, hcv, hbq, hBl, hBf, hBe⟩ := wideS9 w5 r
    have htb := tobits_any B
    have HCV := hide hcv
    have HBL := hide hBl
    have HVQ := hide (HV5.out.next hbq)
    have HNQ := hide (note9_itg HVQ.out.i.i (by have := HNS.out; omega) at' 3)
    have HLT : Hid (finb B = true → LS = .ok (.mk 4 false false 0 (B) ⟨#[]⟩ [] ⟨0, 0, 0, []⟩ [] [], ns ++ [(at', 3)])) := fun hf => by
      have h1 : r % 2147483648 < 2139095040 := by rw [hBf] at hf; exact of_decide_eq_true hf
      rw [hBe h1]
      exact HL0.out.1 h1
    have HLF : Hid (finb B = false → LS = .error (95, at')) := fun hf => by
      rw [hBf] at hf
      exact HL0.out.2 (of_decide_eq_false hf)
    clear hcv hbq hBl hBf hBe HL0 HK2
    go_upto_region 15 with (refine wpList_conv9 rfl rfl rfl HCV.out ?_)
    clear HCV hfb3 htb k2
    go_wp2_with fail
    refine HNQ.out.mono ?_
    rintro e wn ⟨rfl, hP⟩
    obtain ⟨vx, hgo⟩ := hP.out
    have HVN := hide (HVQ.out.on hgo)
    clear hP hgo HNQ HVQ
    have hfb := frombits_any B
    have HFN := hide (finite_any B HBL.out wn)
    by_cases hf : finb B = true
    · as_aux_lemma =>
      have HL := hide (HLT.out hf)
      rw [hf] at HFN
      clear hf HLF HLT
      go_wp2_with fail
      refine HFN.out.mono ?_
      rintro e wn ⟨rfl, rfl⟩
      go_upto_region 18 with fail
      clear HFN
      have c0w : wn.cell? ⟨w.heap.size + 2, 0, none⟩ = some _ := blk_cell (j := 0) HVN.out.a rfl
      have f0w : wn.frozen? ⟨w.heap.size + 2, 0, none⟩ = false := blk_frozen 0 HVN.out.a
      have HVNs : Hid (Vrb w (wn.setCell ⟨w.heap.size + 2, 0, none⟩ (.int .i64 4)) N0 g v b dp p op vn vx (ns ++ [(at', 3)]) (w.heap.size + 1) (w.heap.size + 2) #[.int .i64 4, .bool false, .bool false, .int .u64 0, .int .u64 0, .string ⟨#[]⟩, .slice none 0 0, .int .i64 0, .int .u64 0, .int .u64 0, .string ⟨#[]⟩, .slice none 0 0, .slice none 0 0]) := HVN.out.set 0 (.int .i64 4) rfl
      have c4w : (wn.setCell ⟨w.heap.size + 2, 0, none⟩ (.int .i64 4)).cell? ⟨w.heap.size + 2, 4, none⟩ = some (.int .u64 0) := blk_cell (j := 4) HVNs.out.a rfl
      have f4w : (wn.setCell ⟨w.heap.size + 2, 0, none⟩ (.int .i64 4)).frozen? ⟨w.heap.size + 2, 4, none⟩ = false := blk_frozen 4 HVNs.out.a
      have HVE : Hid (Vrb w ((wn.setCell ⟨w.heap.size + 2, 0, none⟩ (.int .i64 4)).setCell ⟨w.heap.size + 2, 4, none⟩ (.int .u64 (B : Nat))) N0 g v b dp p op vn vx (ns ++ [(at', 3)]) (w.heap.size + 1) (w.heap.size + 2) #[.int .i64 4, .bool false, .bool false, .int .u64 0, .int .u64 (B : Nat), .string ⟨#[]⟩, .slice none 0 0, .int .i64 0, .int .u64 0, .int .u64 0, .string ⟨#[]⟩, .slice none 0 0, .slice none 0 0]) := HVNs.out.set 4 (.int .u64 (B : Nat)) rfl
      go_upto_region 20 with fail
      generalize (wn.setCell ⟨w.heap.size + 2, 0, none⟩ (.int .i64 4)).setCell ⟨w.heap.size + 2, 4, none⟩ (.int .u64 (B : Nat)) = w9 at *
      have HFC : Hid (Itg w _ N0 g v b dp p op vn vx _) := HVE.out.fin (#[.int .i64 4, .bool false, .bool false, .int .u64 0, .int .u64 (B : Nat), .string ⟨#[]⟩, .slice none 0 0, .int .i64 0, .int .u64 0, .int .u64 0, .string ⟨#[]⟩, .slice none 0 0, .slice none 0 0])
      have HRB := hide HVE.out.r
      have HVC := hide HVE.out.cell
      have HI := hide infoV13
      have HAG : Hid (∀ w, (isAgg 41).run Tryz.prog w = .ok true w) := aggV9
      have HAL : Hid ((#[.int .i64 4, .bool false, .bool false, .int .u64 0, .int .u64 (B : Nat), .string ⟨#[]⟩, .slice none 0 0, .int .i64 0, .int .u64 0, .int .u64 0, .string ⟨#[]⟩, .slice none 0 0, .slice none 0 0] : Array Value).all (·.oneCell') = true) := by show _ = _; simp [Value.oneCell']
      clear HVE
      go_wp2_with (first
        | (refine wpList_aggAt rfl rfl HI.out HAG.out (w.heap.size + 2) 0 (#[.int .i64 4, .bool false, .bool false, .int .u64 0, .int .u64 (B : Nat), .string ⟨#[]⟩, .slice none 0 0, .int .i64 0, .int .u64 0, .int .u64 0, .string ⟨#[]⟩, .slice none 0 0, .slice none 0 0]) rfl rfl HVC.out ?_)
        | (refine wpList_storeRow rfl rfl (w.heap.size + 1) vz9 (#[.int .i64 4, .bool false, .bool false, .int .u64 0, .int .u64 (B : Nat), .string ⟨#[]⟩, .slice none 0 0, .int .i64 0, .int .u64 0, .int .u64 0, .string ⟨#[]⟩, .slice none 0 0, .slice none 0 0]) 41 rfl rfl HRB.out HI.out rfl HAL.out ?_))
      exact bodyPost_ret (end_v9 rfl (row_same HRB.out) rfl rfl) rfl (.inl ⟨_, _, HL.out, rfl, HFC.out⟩)
    · as_aux_lemma =>
      have hf2 : finb B = false := by simpa using hf
      have HL := hide (HLF.out hf2)
      rw [hf2] at HFN
      clear hf hf2 HLF HLT
      go_wp2_with fail
      refine HFN.out.mono ?_
      rintro e wn ⟨rfl, rfl⟩
      have HGU := hide (giveUp_any wn 95 at')
      have HKE := hide HVN.out.i.k
      go_wp2_with fail
      refine HGU.out.mono ?_
      rintro e wg ⟨rfl, rfl⟩
      go_wp2_with fail
      exact ⟨rfl, .inr ⟨95, at', HL.out, rfl, HKE.out⟩⟩

  by_cases h26 : hi = 26
  · as_aux_lemma =>
    have g21 : ((hi : Int) == 21) = false := by rw [beq_eq_false_iff_ne]; omega
    have g20 : ((hi : Int) == 20) = false := by rw [beq_eq_false_iff_ne]; omega
    have g22 : ((hi : Int) == 22) = false := by rw [beq_eq_false_iff_ne]; omega
    have g25 : ((hi : Int) == 25) = false := by rw [beq_eq_false_iff_ne]; omega
    have g26 : ((hi : Int) == 26) = true := by rw [beq_iff_eq]; omega
    have HL1 := hide (HLS.out.trans ((if_neg h21).trans ((if_neg h20).trans ((if_neg h22).trans ((if_neg h25).trans (if_pos h26))))))
    obtain ⟨r, hr⟩ : ∃ r, r = hn' % 4294967296 := ⟨_, rfl⟩
    have HK2 : Hid (IntKind.u32.wrap (hn' : Int) = (r : Int)) := by show _ = _; rw [IntKind.wrap_u32, hr]; omega
    have hr2 : r % 2147483648 = hn' % 2147483648 := by omega
    rw [← hr] at HL1
    have HL0 : Hid ((r % 2147483648 < 2139095040 → LS = .ok (.mk 4 false false 0 (sgl r) ⟨#[]⟩ [] ⟨0, 0, 0, []⟩ [] [], ns ++ [(at', 3)])) ∧ (¬ r % 2147483648 < 2139095040 → LS = .error (95, at'))) := ⟨fun h => by rw [HL1.out, if_pos (by rw [← hr2]; exact h)], fun h => by rw [HL1.out, if_neg (by rw [← hr2]; exact h)]⟩
    clear hr hr2 h21 h20 h22 h25 h26 HLS HL1
    go_upto_region 14 with fail
    have k2 : IntKind.u32.wrap (hn' : Int) = (r : Int) := HK2.out
    have hfb3 := frombits32_any r
    obtain ⟨B, wq, hcv, hbq, hBl, hBf, hBe⟩ := wideS9 w3 r
    have htb := tobits_any B
    have HCV := hide hcv
    have HBL := hide hBl
    have HVQ := hide (HV3.out.next hbq)
    have HNQ := hide (note9_itg HVQ.out.i.i (by have := HNS.out; omega) at' 3)
    have HLT : Hid (finb B = true → LS = .ok (.mk 4 false false 0 (B) ⟨#[]⟩ [] ⟨0, 0, 0, []⟩ [] [], ns ++ [(at', 3)])) := fun hf => by
      have h1 : r % 2147483648 < 2139095040 := by rw [hBf] at hf; exact of_decide_eq_true hf
      rw [hBe h1]
      exact HL0.out.1 h1
    have HLF : Hid (finb B = false → LS = .error (95, at')) := fun hf => by
      rw [hBf] at hf
      exact HL0.out.2 (of_decide_eq_false hf)
    clear hcv hbq hBl hBf hBe HL0 HK2
    go_upto_region 15 with (refine wpList_conv9 rfl rfl rfl HCV.out ?_)
    clear HCV hfb3 htb k2
    go_wp2_with fail
    refine HNQ.out.mono ?_
    rintro e wn ⟨rfl, hP⟩
    obtain ⟨vx, hgo⟩ := hP.out
    have HVN := hide (HVQ.out.on hgo)
    clear hP hgo HNQ HVQ
    have hfb := frombits_any B
    have HFN := hide (finite_any B HBL.out wn)
    by_cases hf : finb B = true
    · as_aux_lemma =>
      have HL := hide (HLT.out hf)
      rw [hf] at HFN
      clear hf HLF HLT
      go_wp2_with fail
      refine HFN.out.mono ?_
      rintro e wn ⟨rfl, rfl⟩
      go_upto_region 18 with fail
      clear HFN
      have c0w : wn.cell? ⟨w.heap.size + 2, 0, none⟩ = some _ := blk_cell (j := 0) HVN.out.a rfl
      have f0w : wn.frozen? ⟨w.heap.size + 2, 0, none⟩ = false := blk_frozen 0 HVN.out.a
      have HVNs : Hid (Vrb w (wn.setCell ⟨w.heap.size + 2, 0, none⟩ (.int .i64 4)) N0 g v b dp p op vn vx (ns ++ [(at', 3)]) (w.heap.size + 1) (w.heap.size + 2) #[.int .i64 4, .bool false, .bool false, .int .u64 0, .int .u64 0, .string ⟨#[]⟩, .slice none 0 0, .int .i64 0, .int .u64 0, .int .u64 0, .string ⟨#[]⟩, .slice none 0 0, .slice none 0 0]) := HVN.out.set 0 (.int .i64 4) rfl
      have c4w : (wn.setCell ⟨w.heap.size + 2, 0, none⟩ (.int .i64 4)).cell? ⟨w.heap.size + 2, 4, none⟩ = some (.int .u64 0) := blk_cell (j := 4) HVNs.out.a rfl
      have f4w : (wn.setCell ⟨w.heap.size + 2, 0, none⟩ (.int .i64 4)).frozen? ⟨w.heap.size + 2, 4, none⟩ = false := blk_frozen 4 HVNs.out.a
      have HVE : Hid (Vrb w ((wn.setCell ⟨w.heap.size + 2, 0, none⟩ (.int .i64 4)).setCell ⟨w.heap.size + 2, 4, none⟩ (.int .u64 (B : Nat))) N0 g v b dp p op vn vx (ns ++ [(at', 3)]) (w.heap.size + 1) (w.heap.size + 2) #[.int .i64 4, .bool false, .bool false, .int .u64 0, .int .u64 (B : Nat), .string ⟨#[]⟩, .slice none 0 0, .int .i64 0, .int .u64 0, .int .u64 0, .string ⟨#[]⟩, .slice none 0 0, .slice none 0 0]) := HVNs.out.set 4 (.int .u64 (B : Nat)) rfl
      go_upto_region 20 with fail
      generalize (wn.setCell ⟨w.heap.size + 2, 0, none⟩ (.int .i64 4)).setCell ⟨w.heap.size + 2, 4, none⟩ (.int .u64 (B : Nat)) = w9 at *
      have HFC : Hid (Itg w _ N0 g v b dp p op vn vx _) := HVE.out.fin (#[.int .i64 4, .bool false, .bool false, .int .u64 0, .int .u64 (B : Nat), .string ⟨#[]⟩, .slice none 0 0, .int .i64 0, .int .u64 0, .int .u64 0, .string ⟨#[]⟩, .slice none 0 0, .slice none 0 0])
      have HRB := hide HVE.out.r
      have HVC := hide HVE.out.cell
      have HI := hide infoV13
      have HAG : Hid (∀ w, (isAgg 41).run Tryz.prog w = .ok true w) := aggV9
      have HAL : Hid ((#[.int .i64 4, .bool false, .bool false, .int .u64 0, .int .u64 (B : Nat), .string ⟨#[]⟩, .slice none 0 0, .int .i64 0, .int .u64 0, .int .u64 0, .string ⟨#[]⟩, .slice none 0 0, .slice none 0 0] : Array Value).all (·.oneCell') = true) := by show _ = _; simp [Value.oneCell']
      clear HVE
      go_wp2_with (first
        | (refine wpList_aggAt rfl rfl HI.out HAG.out (w.heap.size + 2) 0 (#[.int .i64 4, .bool false, .bool false, .int .u64 0, .int .u64 (B : Nat), .string ⟨#[]⟩, .slice none 0 0, .int .i64 0, .int .u64 0, .int .u64 0, .string ⟨#[]⟩, .slice none 0 0, .slice none 0 0]) rfl rfl HVC.out ?_)
        | (refine wpList_storeRow rfl rfl (w.heap.size + 1) vz9 (#[.int .i64 4, .bool false, .bool false, .int .u64 0, .int .u64 (B : Nat), .string ⟨#[]⟩, .slice none 0 0, .int .i64 0, .int .u64 0, .int .u64 0, .string ⟨#[]⟩, .slice none 0 0, .slice none 0 0]) 41 rfl rfl HRB.out HI.out rfl HAL.out ?_))
      exact bodyPost_ret (end_v9 rfl (row_same HRB.out) rfl rfl) rfl (.inl ⟨_, _, HL.out, rfl, HFC.out⟩)
    · as_aux_lemma =>
      have hf2 : finb B = false := by simpa using hf
      have HL := hide (HLF.out hf2)
      rw [hf2] at HFN
      clear hf hf2 HLF HLT
      go_wp2_with fail
      refine HFN.out.mono ?_
      rintro e wn ⟨rfl, rfl⟩
      have HGU := hide (giveUp_any wn 95 at')
      have HKE := hide HVN.out.i.k
      go_wp2_with fail
      refine HGU.out.mono ?_
      rintro e wg ⟨rfl, rfl⟩
      go_wp2_with fail
      exact ⟨rfl, .inr ⟨95, at', HL.out, rfl, HKE.out⟩⟩

  by_cases h27 : hi = 27
  · as_aux_lemma =>
    have g21 : ((hi : Int) == 21) = false := by rw [beq_eq_false_iff_ne]; omega
    have g20 : ((hi : Int) == 20) = false := by rw [beq_eq_false_iff_ne]; omega
    have g22 : ((hi : Int) == 22) = false := by rw [beq_eq_false_iff_ne]; omega
    have g25 : ((hi : Int) == 25) = false := by rw [beq_eq_false_iff_ne]; omega
    have g26 : ((hi : Int) == 26) = false := by rw [beq_eq_false_iff_ne]; omega
    have g27 : ((hi : Int) == 27) = true := by rw [beq_iff_eq]; omega
    have HL1 := hide (HLS.out.trans ((if_neg h21).trans ((if_neg h20).trans ((if_neg h22).trans ((if_neg h25).trans ((if_neg h26).trans (if_pos h27)))))))
    have HLT : Hid (finb hn' = true → LS = .ok (.mk 4 false false 0 (hn') ⟨#[]⟩ [] ⟨0, 0, 0, []⟩ [] [], ns)) := fun hf => by rw [HL1.out, if_pos hf]
    have HLF : Hid (finb hn' = false → LS = .error (95, at')) := fun hf => by rw [HL1.out, if_neg (by rw [hf]; decide)]
    have HBL := HNL
    clear h21 h20 h22 h25 h26 h27 HLS HL1
    have hfb := frombits_any hn'
    have HFN := hide (finite_any hn' HBL.out w3)
    by_cases hf : finb hn' = true
    · as_aux_lemma =>
      have HL := hide (HLT.out hf)
      rw [hf] at HFN
      clear hf HLF HLT
      go_wp2_with fail
      refine HFN.out.mono ?_
      rintro e w3 ⟨rfl, rfl⟩
      go_upto_region 18 with fail
      clear HFN
      have c0w : w3.cell? ⟨w.heap.size + 2, 0, none⟩ = some _ := blk_cell (j := 0) HV3.out.a rfl
      have f0w : w3.frozen? ⟨w.heap.size + 2, 0, none⟩ = false := blk_frozen 0 HV3.out.a
      have HV3s : Hid (Vrb w (w3.setCell ⟨w.heap.size + 2, 0, none⟩ (.int .i64 4)) N0 g v b dp p op vn vn ns (w.heap.size + 1) (w.heap.size + 2) #[.int .i64 4, .bool false, .bool false, .int .u64 0, .int .u64 0, .string ⟨#[]⟩, .slice none 0 0, .int .i64 0, .int .u64 0, .int .u64 0, .string ⟨#[]⟩, .slice none 0 0, .slice none 0 0]) := HV3.out.set 0 (.int .i64 4) rfl
      have c4w : (w3.setCell ⟨w.heap.size + 2, 0, none⟩ (.int .i64 4)).cell? ⟨w.heap.size + 2, 4, none⟩ = some (.int .u64 0) := blk_cell (j := 4) HV3s.out.a rfl
      have f4w : (w3.setCell ⟨w.heap.size + 2, 0, none⟩ (.int .i64 4)).frozen? ⟨w.heap.size + 2, 4, none⟩ = false := blk_frozen 4 HV3s.out.a
      have HVE : Hid (Vrb w ((w3.setCell ⟨w.heap.size + 2, 0, none⟩ (.int .i64 4)).setCell ⟨w.heap.size + 2, 4, none⟩ (.int .u64 (hn' : Nat))) N0 g v b dp p op vn vn ns (w.heap.size + 1) (w.heap.size + 2) #[.int .i64 4, .bool false, .bool false, .int .u64 0, .int .u64 (hn' : Nat), .string ⟨#[]⟩, .slice none 0 0, .int .i64 0, .int .u64 0, .int .u64 0, .string ⟨#[]⟩, .slice none 0 0, .slice none 0 0]) := HV3s.out.set 4 (.int .u64 (hn' : Nat)) rfl
      go_upto_region 20 with fail
      generalize (w3.setCell ⟨w.heap.size + 2, 0, none⟩ (.int .i64 4)).setCell ⟨w.heap.size + 2, 4, none⟩ (.int .u64 (hn' : Nat)) = w9 at *
      have HFC : Hid (Itg w _ N0 g v b dp p op vn vn _) := HVE.out.fin (#[.int .i64 4, .bool false, .bool false, .int .u64 0, .int .u64 (hn' : Nat), .string ⟨#[]⟩, .slice none 0 0, .int .i64 0, .int .u64 0, .int .u64 0, .string ⟨#[]⟩, .slice none 0 0, .slice none 0 0])
      have HRB := hide HVE.out.r
      have HVC := hide HVE.out.cell
      have HI := hide infoV13
      have HAG : Hid (∀ w, (isAgg 41).run Tryz.prog w = .ok true w) := aggV9
      have HAL : Hid ((#[.int .i64 4, .bool false, .bool false, .int .u64 0, .int .u64 (hn' : Nat), .string ⟨#[]⟩, .slice none 0 0, .int .i64 0, .int .u64 0, .int .u64 0, .string ⟨#[]⟩, .slice none 0 0, .slice none 0 0] : Array Value).all (·.oneCell') = true) := by show _ = _; simp [Value.oneCell']
      clear HVE
      go_wp2_with (first
        | (refine wpList_aggAt rfl rfl HI.out HAG.out (w.heap.size + 2) 0 (#[.int .i64 4, .bool false, .bool false, .int .u64 0, .int .u64 (hn' : Nat), .string ⟨#[]⟩, .slice none 0 0, .int .i64 0, .int .u64 0, .int .u64 0, .string ⟨#[]⟩, .slice none 0 0, .slice none 0 0]) rfl rfl HVC.out ?_)
        | (refine wpList_storeRow rfl rfl (w.heap.size + 1) vz9 (#[.int .i64 4, .bool false, .bool false, .int .u64 0, .int .u64 (hn' : Nat), .string ⟨#[]⟩, .slice none 0 0, .int .i64 0, .int .u64 0, .int .u64 0, .string ⟨#[]⟩, .slice none 0 0, .slice none 0 0]) 41 rfl rfl HRB.out HI.out rfl HAL.out ?_))
      exact bodyPost_ret (end_v9 rfl (row_same HRB.out) rfl rfl) rfl (.inl ⟨_, _, HL.out, rfl, HFC.out⟩)
    · as_aux_lemma =>
      have hf2 : finb hn' = false := by simpa using hf
      have HL := hide (HLF.out hf2)
      rw [hf2] at HFN
      clear hf hf2 HLF HLT
      go_wp2_with fail
      refine HFN.out.mono ?_
      rintro e w3 ⟨rfl, rfl⟩
      have HGU := hide (giveUp_any w3 95 at')
      have HKE := hide HV3.out.i.k
      go_wp2_with fail
      refine HGU.out.mono ?_
      rintro e wg ⟨rfl, rfl⟩
      go_wp2_with fail
      exact ⟨rfl, .inr ⟨95, at', HL.out, rfl, HKE.out⟩⟩

  have g21 : ((hi : Int) == 21) = false := by rw [beq_eq_false_iff_ne]; omega
  have g20 : ((hi : Int) == 20) = false := by rw [beq_eq_false_iff_ne]; omega
  have g22 : ((hi : Int) == 22) = false := by rw [beq_eq_false_iff_ne]; omega
  have g25 : ((hi : Int) == 25) = false := by rw [beq_eq_false_iff_ne]; omega
  have g26 : ((hi : Int) == 26) = false := by rw [beq_eq_false_iff_ne]; omega
  have g27 : ((hi : Int) == 27) = false := by rw [beq_eq_false_iff_ne]; omega
  have HL : Hid (LS = .error (95, at')) := HLS.out.trans ((if_neg h21).trans ((if_neg h20).trans ((if_neg h22).trans ((if_neg h25).trans ((if_neg h26).trans (if_neg h27))))))
  clear h21 h20 h22 h25 h26 h27 HLS
  have HGU := hide (giveUp_any w3 95 at')
  have HKE := hide HV3.out.i.k
  go_wp2_with fail
  refine HGU.out.mono ?_
  rintro e wg ⟨rfl, rfl⟩
  go_wp2_with fail
  exact ⟨rfl, .inr ⟨95, at', HL.out, rfl, HKE.out⟩⟩
end
section
open Go.RowKit Go
theorem lbytesE_d {l : Lk} {b : List Nat} (hb : ∀ x ∈ b, x < 256) (e : lbytes l = b) : ∀ x ∈ l.d, x < 256 := fun x hx => hb x (by
  rw [← e]
  unfold lbytes
  split
  · simp [hx]
  · simp [hx])
theorem lokE_lkb {l : Lk} (h : lok l) (hd : ∀ x ∈ l.d, x < 256) : Lkb l ∧ l.d.length ≤ 140737488351232 := by
  have hk := lok_okd h
  unfold okd at hk
  refine ⟨⟨?_, by omega, hd, by omega⟩, by omega⟩
  rcases h with h | h
  · omega
  · omega
theorem lnk_lkb {b : List Nat} {dp J op at' p n : Nat} {ns : List (Nat × Nat)} {x : Lk × List (Nat × Nat) × Nat} (hq : ∀ x ∈ b, x < 256) (h : llnk b dp J op at' p n ns = .ok x) : Lkb x.1 ∧ x.1.d.length ≤ 140737488351232 := by
  unfold llnk at h
  split at h
  · cases h
  · cases h1 : litem b dp p op with
    | error e => rw [h1] at h; cases h
    | ok y =>
      rw [h1] at h
      change (if y.1.m ≠ 2 then _ else _) = _ at h
      split at h
      · cases h
      · cases h2 : lallg (fun xs _ ys => xs ++ ys) b dp J op y.2 y.1 [] (lnot y.2 y.1 ns) with
        | error e => rw [h2] at h; cases h
        | ok z =>
          have h4 := oct_256 hq h2
          rw [h2] at h
          change (if z.1.head? ≠ some 0 then _ else if (lparse (z.1.drop 1)).2 ≠ 0 then _ else _) = _ at h
          split at h
          · cases h
          · split at h
            · cases h
            · rename_i h5
              injection h with h
              subst h
              obtain ⟨h6, h7⟩ := lparse_back (b := z.1.drop 1) (l := (lparse (z.1.drop 1)).1) (fun x hx => h4 x (List.mem_of_mem_drop hx)) (by rw [← Decidable.not_not.1 h5])
              exact lokE_lkb h6 (lbytesE_d (fun x hx => h4 x (List.mem_of_mem_drop hx)) h7)
theorem prtgG_len {σ : Type} {st : σ → Nat → List Nat → σ} {sz : σ → Nat} (hst : ∀ s p ys, sz (st s p ys) ≤ sz s + ys.length) {b : List Nat} {dp mj op : Nat} (hm : mj = 2 ∨ mj = 3) : ∀ (j p : Nat) (s : σ) (ns : List (Nat × Nat)) (x : σ × List (Nat × Nat) × Nat), p ≤ b.length → lprtg st b dp mj op j p s ns = .ok x → sz x.1 ≤ sz s + (x.2.2 - p) ∧ p ≤ x.2.2 ∧ x.2.2 ≤ b.length
  | 0, _, _, _, _, _, h => by cases h
  | j + 1, p, s, ns, x, hp, h => by
    unfold lprtg at h
    by_cases h1 : b[p]? = some 255
    · rw [if_pos h1] at h
      injection h with h
      subst h
      have := (List.getElem?_eq_some_iff.1 h1).1
      exact ⟨by show sz s ≤ _; omega, by show p ≤ p + 1; omega, by show p + 1 ≤ _; omega⟩
    · rw [if_neg h1] at h
      cases hl : lpiec b dp mj p op with
      | error e => rw [hl] at h; cases h
      | ok y =>
        rw [hl] at h
        have h2 := (piec_hd hl).1
        have h3 : y.2 + y.1.n ≤ b.length := ((piec_ris b dp mj p op hm).ok y hl).2
        obtain ⟨h4, h5, h6⟩ := prtgG_len hst hm j (y.2 + y.1.n) _ _ x h3 h
        have h11 := hst s p ((b.drop y.2).take y.1.n)
        rw [List.length_take] at h11
        exact ⟨by omega, by omega, h6⟩
theorem allgG_len {σ : Type} {st : σ → Nat → List Nat → σ} {sz : σ → Nat} (hst : ∀ s p ys, sz (st s p ys) ≤ sz s + ys.length) {b : List Nat} {dp J op p : Nat} {h : HR} {s : σ} {ns : List (Nat × Nat)} {x : σ × List (Nat × Nat) × Nat} (hm : h.m = 2 ∨ h.m = 3) (hp : p ≤ b.length) (hx : lallg st b dp J op p h s ns = .ok x) : sz x.1 ≤ sz s + b.length := by
  unfold lallg at hx
  by_cases h1 : h.i = 31
  · rw [if_pos h1] at hx
    have := prtgG_len hst hm J p _ _ x hp hx
    omega
  · rw [if_neg h1] at hx
    injection hx with hx
    subst hx
    have h11 := hst s (p - h.u) ((b.drop p).take h.n)
    rw [List.length_take, List.length_drop] at h11
    show sz (st s (p - h.u) ((b.drop p).take h.n)) ≤ _
    omega
theorem oct_len {b : List Nat} {dp J op p : Nat} {h : HR} {ns : List (Nat × Nat)} {x : List Nat × List (Nat × Nat) × Nat} (hm : h.m = 2 ∨ h.m = 3) (hp : p ≤ b.length) (hx : lallg (fun xs _ ys => xs ++ ys) b dp J op p h [] ns = .ok x) : x.1.length ≤ b.length := by
  have h1 := allgG_len (sz := List.length) (fun s p ys => by rw [List.length_append]; omega) hm hp hx
  simpa using h1
theorem txt_len {b : List Nat} {dp J op p : Nat} {h : HR} {ns : List (Nat × Nat)} {x : List Nat × List (Nat × Nat) × Nat} (hm : h.m = 2 ∨ h.m = 3) (hp : p ≤ b.length) (hx : ltxt b dp J op p h ns = .ok x) : (nstr x.1).size ≤ b.length := by
  unfold ltxt at hx
  cases h2 : lallg stJ b dp J op p h ([], -1) ns with
  | error e => rw [h2] at hx; cases hx
  | ok z =>
    have h1 := allgG_len (st := stJ) (sz := fun s => s.1.length) (fun s p ys => by show (s.1 ++ ys).length ≤ _; rw [List.length_append]; omega) hm hp h2
    rw [h2] at hx
    change (if z.1.2 = -1 then _ else _) = _ at hx
    split at hx
    · injection hx with hx
      subst hx
      show (nstr z.1.1).size ≤ _
      rw [show (nstr z.1.1).size = z.1.1.length from by unfold nstr; rw [strOfNums_size]; simp]
      simpa using h1
    · cases hx
theorem hrd_31 (r : List Nat) (h : (hrd r).i = 31) : (hrd r).n = 0 := by
  cases r with
  | nil => rfl
  | cons x r =>
    rw [hrd_cons] at h ⊢
    unfold hrdc at h ⊢
    by_cases h1 : 27 < x % 32
    · rw [if_pos h1] at h ⊢
      split <;> rfl
    · rw [if_neg h1] at h ⊢
      by_cases h2 : x % 32 < 24
      · rw [if_pos h2] at h
        have : x % 32 = 31 := h
        omega
      · rw [if_neg h2] at h ⊢
        by_cases h3 : r.length < hwide (x % 32)
        · rw [if_pos h3]
          rfl
        · rw [if_neg h3] at h ⊢
          split at h
          · rename_i h4
            rw [if_pos h4]
            rfl
          · have : x % 32 = 31 := h
            omega
theorem item_bd {b : List Nat} {dp p op : Nat} {x : HR × Nat} (hq : ∀ x ∈ b, x < 256) (h : litem b dp p op = .ok x) : x.1.n < 18446744073709551616 ∧ x.1.m ≤ 7 ∧ (x.1.i = 31 → x.1.n = 0) := by
  have hL := look_lkd b dp p op
  unfold litem lbind at h
  split at h
  · cases h
  · rename_i hd hl
    have h1 := (hL.ok _ hl).2.1
    dsimp only at h
    split at h
    · cases h
    · injection h with h
      subst h
      have h2 := hrd_bd9 (b := b.drop p) (fun x hx => hq x (List.mem_of_mem_drop hx))
      show hd.n < _ ∧ hd.m ≤ 7 ∧ (hd.i = 31 → hd.n = 0)
      rw [h1]
      exact ⟨h2.1, h2.2.1, hrd_31 _⟩
theorem lkb_zero : Lkb ⟨0, 0, 0, []⟩ := ⟨by decide, by decide, by simp, by simp⟩
theorem nos_leaf {w : World} {lo : Nat} {D : Nat → Prop} {t : Tv} (ht : Tbd t) (hy : t.y = []) (hk : t.ks = []) (hi : t.is = []) : Nos w lo D t (vcs t (.slice none 0 0) (.slice none 0 0) (.slice none 0 0)) := by
  refine Nos.mk D t _ _ _ [] (fun _ _ => False) ht (by rw [hy]; simp) ?_ ?_ (by rw [hk]; simp) (by rw [hk]; simp) ?_ (by rw [hi]; simp) (by rw [hi]; rfl) (by simp) (fun q e => by cases e) (fun q e => by cases e) (fun q e => by cases e) (fun i _ q e => e.elim) (fun i j _ _ q e => e.elim) (fun i u c hu => by rw [hi] at hu; simp at hu)
  · rw [hy]
    exact World.ownsRow_nil _ _ _ _
  · rw [hk]
    exact World.ownsRow_nil _ _ _ _
  · rw [hi]
    exact World.ownsRow_nil _ _ _ _
theorem oth_tbd {at' i n : Nat} {ns : List (Nat × Nat)} {x : Tv × List (Nat × Nat)} (hn : n < 18446744073709551616) (h : loth at' i n ns = .ok x) : Tbd x.1 ∧ x.1.y = [] ∧ x.1.ks = [] ∧ x.1.is = [] := by
  have hb : ∀ (k : Int) (f : Bool) (B : Nat), B < 18446744073709551616 → Tbd (.mk k f false 0 B ⟨#[]⟩ [] ⟨0, 0, 0, []⟩ [] []) := fun k f B hB => ⟨by show 0 < _; decide, hB, by show 0 ≤ _; omega, by show 0 ≤ _; omega, lkb_zero, by show 0 ≤ _; omega⟩
  unfold loth at h
  repeat' split at h
  all_goals first
    | (cases h; done)
    | (injection h with h; subst h; exact ⟨hb _ _ _ (by first | decide | exact sgl_lt _ | exact hn), rfl, rfl, rfl⟩)
theorem Vrb.treP {w wx : World} {N0 g : Nat} {v : Value} {b : List Nat} {dp p op : Nat} {vn vx : Value} {ns : List (Nat × Nat)} {R V lo : Nat} {c : Array Value} {t : Tv} {D : Nat → Prop} (h : Vrb w wx N0 g v b dp p op vn vx ns R V c) (hN : Nos wx lo D t c) (hlo : w.heap.size ≤ lo) (hR : R < lo) (hD : ∀ q, D q → lo ≤ q ∧ q < wx.heap.size ∧ vx.ownBlock ≠ some q) {LS : Lx (Tv × List (Nat × Nat) × Nat)} (hLS : LS = .ok (t, ns, p)) : TreP w N0 g v b dp op vn LS (.returned (.agg c)) (wx.setRow R c) := by
  have hk := row_kp wx R c
  refine .inl ⟨_, vx, c, D, hLS, rfl, h.fin c, (hN.kp hk (fun q e e2 => by have := (hD q e).1; omega)).base hlo, fun q e => ?_⟩
  have h1 := hD q e
  exact ⟨by omega, by have := hk.size; omega, h1.2.2⟩
theorem Vrb.kpV {w wx wy : World} {N0 g : Nat} {v : Value} {b : List Nat} {dp p op : Nat} {vn vx : Value} {ns : List (Nat × Nat)} {R V : Nat} {c c' : Array Value} (h : Vrb w wx N0 g v b dp p op vn vx ns R V c) (hk : Kp (fun q => q = V) wx wy) (ha : wy.heap[V]? = some (.cells c' 41 (0, 0))) : Vrb w wy N0 g v b dp p op vn vx ns R V c' :=
  ⟨h.i.kpS hk (fun q e => ⟨e ▸ h.la, fun e2 => own_not h.i.i.o h.a (by decide) (e ▸ e2)⟩) h.G h.N, (hk.block _ (blk_lt h.r) h.ne).trans h.r, ha, h.lr, h.la, h.ne, h.N, h.G⟩
theorem setc_kp (w : World) (V j : Nat) (x : Value) : Kp (fun q => q = V) w (w.setCell ⟨V, j, none⟩ x) := (Kp.refl (fun q => q = V) w).setCell ⟨V, j, none⟩ x (fun _ => rfl)
theorem tbd_zero {k : Int} {s : ByteArray} {y : List Nat} {ks : List ByteArray} {is : List Tv} (hs : s.size ≤ 140737488351232) (hy : y.length ≤ 140737488351232) : Tbd (.mk k false false 0 0 s y ⟨0, 0, 0, []⟩ ks is) := ⟨by show 0 < _; decide, by show 0 < _; decide, hs, hy, lkb_zero, by show 0 ≤ _; omega⟩
theorem nos_bytes {w : World} {lo : Nat} {va : Value} {xs : List Nat} (h : w.ownsRow lo 5 1 va xs.length (bv xs)) (hb : ∀ y ∈ xs, y < 256) (hl : xs.length ≤ 140737488351232) : Nos w lo (fun q => va.ownBlock = some q) (.mk 6 false false 0 0 ⟨#[]⟩ xs ⟨0, 0, 0, []⟩ [] []) (vcs (.mk 6 false false 0 0 ⟨#[]⟩ xs ⟨0, 0, 0, []⟩ [] []) va (.slice none 0 0) (.slice none 0 0)) :=
  Nos.mk _ _ _ _ _ [] (fun _ _ => False) (tbd_zero (by show 0 ≤ _; omega) hl) hb h (World.ownsRow_nil _ _ _ _) (by show 0 ≤ _; omega) (fun s hs => by cases hs) (World.ownsRow_nil _ _ _ _) (by show 0 ≤ _; omega) rfl (by simp) (fun q e => e) (fun q e => by cases e) (fun q e => by cases e) (fun i _ q e => e.elim) (fun i j _ _ q e => e.elim) (fun i u c hu => by simp [Tv.is] at hu)
theorem nos_list {w : World} {lo : Nat} {vx vi : Value} {ts : List Tv} {L : List (Array Value)} {E : Nat → Nat → Prop} (h : Lit lo w vx vi ts L E) (hl : ts.length ≤ 140737488351232) : Nos w lo (fun q => vi.ownBlock = some q ∨ ∃ i, i < ts.length ∧ E i q) (.mk 8 false false 0 0 ⟨#[]⟩ [] ⟨0, 0, 0, []⟩ [] ts) (vcs (.mk 8 false false 0 0 ⟨#[]⟩ [] ⟨0, 0, 0, []⟩ [] ts) (.slice none 0 0) (.slice none 0 0) vi) :=
  Nos.mk _ _ _ _ _ L E (tbd_zero (by show 0 ≤ _; omega) (by show 0 ≤ _; omega)) (fun y hy => by cases hy) (World.ownsRow_nil _ _ _ _) (World.ownsRow_nil _ _ _ _) (by show 0 ≤ _; omega) (fun s hs => by cases hs) h.o hl h.l h.c (fun q e => by cases e) (fun q e => by cases e) (fun q e => .inl e) (fun i hi q e => ⟨.inr ⟨i, hi, e⟩, (fun e2 => by cases e2), (fun e2 => by cases e2), (h.d i hi q e).2.2.1⟩) h.j h.v
theorem nos_map {w : World} {lo : Nat} {vx vk vi : Value} {ks : List ByteArray} {ts : List Tv} {L : List (Array Value)} {E : Nat → Nat → Prop} (h : Lit lo w vx vi ts L E) (hk : w.ownsRow lo 9 1 vk ks.length (ks.map fun s => .string s)) (hd : ∀ i, i < ts.length → ∀ r, E i r → vk.ownBlock ≠ some r) (hs : ∀ s ∈ ks, s.size ≤ 1000000) (hl : ts.length ≤ 1000000) (hkl : ks.length ≤ 1000000) : Nos w lo (fun q => vk.ownBlock = some q ∨ vi.ownBlock = some q ∨ ∃ i, i < ts.length ∧ E i q) (.mk 9 false false 0 0 ⟨#[]⟩ [] ⟨0, 0, 0, []⟩ ks ts) (vcs (.mk 9 false false 0 0 ⟨#[]⟩ [] ⟨0, 0, 0, []⟩ ks ts) (.slice none 0 0) vk vi) :=
  Nos.mk _ _ _ _ _ L E (tbd_zero (by show 0 ≤ _; omega) (by show 0 ≤ _; omega)) (fun y hy => by cases hy) (World.ownsRow_nil _ _ _ _) hk (by show ks.length ≤ _; omega) (fun s h9 => by have := hs s h9; omega) h.o (by show ts.length ≤ _; omega) h.l h.c (fun q e => by cases e) (fun q e => .inl e) (fun q e => .inr (.inl e)) (fun i hi q e => ⟨.inr (.inr ⟨i, hi, e⟩), (fun e2 => by cases e2), hd i hi q e, (h.d i hi q e).2.2.1⟩) h.j h.v
theorem skip_in {b : List Nat} {dp J k q op q' : Nat} (hJ : b.length + 1 ≤ J) (ho : op ≤ dp) (hk : dp + 1 ≤ op + k) (h : lskip b dp J k q op = .ok q') : q ≤ b.length ∧ q < q' ∧ q' ≤ b.length := by
  cases k with
  | zero => cases h
  | succ k =>
    obtain ⟨x, y, h1, -, -⟩ := skip_parts h
    have h2 := (item_at h1).2.2.1
    have h3 := (skip_ris b dp J hJ (k + 1) q op ho hk (by omega)).ok q' h
    exact ⟨by omega, h3.1, h3.2⟩
theorem body_list {f : Nat → Lx Nat} {b : List Nat} {dp J op p q' t : Nat} {h : HR} {y : HR × Nat} (hm : h.m = 4 ∨ h.m = 5) (ht : h.m - 3 = t) (hty : ltags b dp op J h p = .ok y) (hby : lbody f b dp J op y = .ok q') : lins f b h t J 0 p = .ok q' := by
  have ey := tags_none (by omega) hty
  subst ey
  unfold lbody at hby
  rw [if_neg (by show ¬ (h.m = 2 ∨ h.m = 3); omega), if_pos (by show (h.m = 4 ∨ h.m = 5); exact hm)] at hby
  rw [← ht]
  exact hby
theorem list_n {b : List Nat} {dp J k op p q' t : Nat} {h : HR} (hJ : b.length + 1 ≤ J) (ho : op + 1 ≤ dp) (hk : dp + 1 ≤ op + 1 + k) (ht : 0 < t) (hp : p ≤ b.length) (h31 : h.i = 31 → h.n = 0) (hi : lins (fun q => lskip b dp J k q (op + 1)) b h t J 0 p = .ok q') : h.n ≤ b.length := by
  by_cases h1 : h.i = 31
  · rw [h31 h1]
    omega
  · exact ins_n ht (fun q hq => skip_ris b dp J hJ k q (op + 1) ho hk hq) h1 J 0 p q' hp (Nat.zero_le _) hi
theorem its_len {f : Nat → List (Nat × Nat) → Lx (Tv × List (Nat × Nat) × Nat)} {fs : Nat → Lx Nat} {b : List Nat} {h : HR} (hf : Folw b f fs) (hr : ∀ q q', q ≤ b.length → fs q = .ok q' → q < q' ∧ q' ≤ b.length) : ∀ (j p pe : Nat) (ts : List Tv) (ns : List (Nat × Nat)) (x : List Tv × List (Nat × Nat) × Nat), p ≤ b.length → ts.length ≤ p → lins fs b h 1 j ts.length p = .ok pe → lits f b h j p ts ns = .ok x → x.1.length ≤ b.length
  | 0, _, _, _, _, _, _, _, h1, _ => by cases h1
  | j + 1, p, pe, ts, ns, x, hp, ht, h1, hx => by
    cases hm : lmo b p h ts.length with
    | true =>
      obtain ⟨q1, h2, h3⟩ := lins_one hm h1
      have h4 := hr p q1 hp h2
      rw [lits_more hm] at hx
      cases h5 : f p ns with
      | error e => rw [h5] at hx; cases hx
      | ok y =>
        have h6 := ((hf p ns q1 h2).ok y h5).1
        rw [h5] at hx
        change lits f b h j y.2.2 (ts ++ [y.1]) y.2.1 = .ok x at hx
        rw [h6] at hx
        exact its_len hf hr j q1 pe (ts ++ [y.1]) y.2.1 x h4.2 (by rw [List.length_append, List.length_singleton]; omega) (by rw [List.length_append, List.length_singleton]; exact h3) hx
    | false =>
      rw [lits_end hm] at hx
      injection hx with hx
      subst hx
      show ts.length ≤ _
      omega
end
section
open Go.RowKit Go
theorem tree9_step {w : World} {N0 g : Nat} {v : Value} {b : List Nat} {dp p op k : Nat} {vn : Value} {ns : List (Nat × Nat)} (hI : Itp w N0 g v b dp p op vn ns) (hT : Vtb N0 w) (hop : op ≤ dp) (hk : dp + 1 ≤ op + (k + 1)) (hq : ∀ x ∈ b, x < 256) (hbl : b.length ≤ 1000000) (J : Nat) (hJ : b.length + 1 ≤ J) (hn : ns.length + 3 * (b.length - p) ≤ 999990) (hs : ∃ q', lskip b dp J (k + 1) p op = .ok q')
    (hF : op < dp → ∀ (wx : World) (q : Nat) (ms : List (Nat × Nat)) (vx : Value) (q' : Nat), Itp wx N0 g v b dp q (op + 1) vx ms → Vtb N0 wx → ms.length + 3 * (b.length - q) ≤ 999990 → lskip b dp J k q (op + 1) = .ok q' → Calls Tryz.prog 20 #[.pointer (some ⟨g, 0, none⟩)] wx (TreP wx N0 g v b dp (op + 1) vx (ltree b dp J k q (op + 1) ms))) : Calls Tryz.prog 20 #[.pointer (some ⟨g, 0, none⟩)] w (TreP w N0 g v b dp op vn (ltree b dp J (k + 1) p op ns)) := by
  obtain ⟨LS, hLS⟩ : ∃ LS, LS = ltree b dp J (k + 1) p op ns := ⟨_, rfl⟩
  rw [← hLS]
  obtain ⟨q', hsk⟩ := hs
  obtain ⟨x, y, hx, hty, hby⟩ := skip_parts hsk
  obtain ⟨⟨ym, yi, yn, yu, ys, ye⟩, yp⟩ := x
  have HLS : Hid (LS = lmean (fun q ms => ltree b dp J k q (op + 1) ms) b dp J op p (⟨ym, yi, yn, yu, ys, ye⟩, yp) (lnot yp ⟨ym, yi, yn, yu, ys, ye⟩ ns)) := by
    show _ = _
    have e : ltree b dp J (k + 1) p op ns = lbind (litem b dp p op) fun x => lmean (fun q ms => ltree b dp J k q (op + 1) ms) b dp J op p x (lnot x.2 x.1 ns) := rfl
    rw [hLS, e, hx]
    rfl
  have ha := item_at hx
  have hbd := item_bd hq hx
  have HHY : Hid (p < yp ∧ yp ≤ b.length ∧ p < b.length ∧ Hdo b dp op (⟨ym, yi, yn, yu, ys, ye⟩, yp) ∧ yu ≤ yp) := ⟨ha.1, ha.2.1, ha.2.2.1, ha.2.2.2.2, (item_ok hx).1⟩
  have HBD : Hid (yn < 18446744073709551616 ∧ ym ≤ 7 ∧ (yi = 31 → yn = 0)) := hbd
  have HX := hide hx
  have HTY : Hid (ltags b dp op J ⟨ym, yi, yn, yu, ys, ye⟩ yp = .ok y) := hty
  have HBY := hide hby
  obtain ⟨w1, hw1⟩ : ∃ w1, w1 = w.alloc (.cells #[.int .i64 0, .bool false, .bool false, .int .u64 0, .int .u64 0, .string ⟨#[]⟩, .slice none 0 0, .int .i64 0, .int .u64 0, .int .u64 0, .string ⟨#[]⟩, .slice none 0 0, .slice none 0 0] 41) := ⟨_, rfl⟩
  have hb1 : Below w.heap.size w w1 := hw1 ▸ below_alloc4 w _
  have hg1 := heap_alloc_new w (.cells #[.int .i64 0, .bool false, .bool false, .int .u64 0, .int .u64 0, .string ⟨#[]⟩, .slice none 0 0, .int .i64 0, .int .u64 0, .int .u64 0, .string ⟨#[]⟩, .slice none 0 0, .slice none 0 0] 41)
  rw [← hw1] at hg1
  have hI1 := hI.next hb1
  have c1 : w1.cell? ⟨g, 1, none⟩ = some (.int .i64 (p : Nat)) := blk_cell hI1.i.r.blk (rcl_1 hI1.i.r.z)
  have HI1 := hide hI1
  have HR1 := hide hg1
  have HT1 := hide (hT.itg hI hI1)
  have HN0 : Hid (N0 ≤ w.heap.size) := by have h1 := hI.g; have h2 := blk_lt hI.r.blk; show _ ≤ _; omega
  have HGL : Hid (g < w.heap.size) := blk_lt hI.r.blk
  have HNN := hide hn
  have HJJ := hide hJ
  have HQ := hide hq
  have HBL := hide hbl
  have HOK : Hid (op ≤ dp ∧ dp + 1 ≤ op + (k + 1) ∧ dp ≤ 1024) := ⟨hop, hk, hI.r.ho.2⟩
  have HFF := hide hF
  have HCI := hide (item9_ok hI1.i.r hx)
  clear hI hT hop hk hq hbl hJ hn hsk hF hLS hx hty hby ha hbd hb1 hg1 hI1
  go_enter Tryz.func20, Tryz.ntmps20
  go_upto_region 1 with fail
  rw [← hw1]
  clear hw1
  go_wp2_with fail
  refine HCI.out.mono ?_
  rintro e w3 ⟨rfl, hr3, hk3⟩
  have h33 := HI1.out.i.rdr hr3 hk3
  have HI3 := hide (HI1.out.trans h33)
  have HR3 := hide (HI1.out.i.keptB HR1.out (by decide) h33.k)
  have HT3 := hide (HT1.out.itg HI1.out.i h33)
  have HYV : Hid (HR.val ⟨ym, yi, yn, yu, ys, ye⟩ = .agg #[.int .i64 (ym : Nat), .int .i64 (yi : Nat), .int .u64 (yn : Nat), .int .i64 (yu : Nat), .bool ys]) := rfl
  have HNO := hide (noted9_any HI3.out.i (by have h1 := HNN.out; omega) ⟨ym, yi, yn, yu, ys, ye⟩ HHY.out.2.2.2.2)
  rw [HYV.out] at HNO
  clear hr3 hk3 h33 HCI c1 HI1 HR1 HT1
  simp only [HYV.out]
  go_wp2_with fail
  refine HNO.out.mono ?_
  rintro e w4 ⟨rfl, hP⟩
  obtain ⟨vx4, h44⟩ := hP.out
  have hI4 := HI3.out.trans h44
  have hR4 := HI3.out.i.keptB HR3.out (by decide) h44.k
  have hT4 := HT3.out.itg HI3.out.i h44
  have hba := below_alloc4 w4 (.cells #[.int .i64 0, .int .i64 0, .int .u64 0, .int .i64 0, .bool false] 66)
  have hIa := hI4.trans (hI4.i.next hba)
  have hRa := (hba.block _ (blk_lt hR4)).trans hR4
  have HAL := hide (heap_alloc_new w4 (.cells #[.int .i64 0, .int .i64 0, .int .u64 0, .int .i64 0, .bool false] 66))
  have HI5s : Hid ((Tryz.prog.info? 66).map (·.size) = some (#[.int .i64 (ym : Nat), .int .i64 (yi : Nat), .int .u64 (yn : Nat), .int .i64 (yu : Nat), .bool ys] : Array Value).size) := infoHd
  have HA5 : Hid ((#[.int .i64 (ym : Nat), .int .i64 (yi : Nat), .int .u64 (yn : Nat), .int .i64 (yu : Nat), .bool ys] : Array Value).all (·.oneCell') = true) := by show _ = _; simp [Value.oneCell']
  have hws : w.heap.size < w4.heap.size := blk_lt hR4
  have HI5 := hide (hIa.setB (c' := #[.int .i64 (ym : Nat), .int .i64 (yi : Nat), .int .u64 (yn : Nat), .int .i64 (yu : Nat), .bool ys]) HAL.out (by decide) (by omega) HN0.out)
  have HY5 := hide (row_same (cs := #[.int .i64 (ym : Nat), .int .i64 (yi : Nat), .int .u64 (yn : Nat), .int .i64 (yu : Nat), .bool ys]) HAL.out)
  have HR5 := hide (((row_kp (w4.alloc (.cells #[.int .i64 0, .int .i64 0, .int .u64 0, .int .i64 0, .bool false] 66)) w4.heap.size #[.int .i64 (ym : Nat), .int .i64 (yi : Nat), .int .u64 (yn : Nat), .int .i64 (yu : Nat), .bool ys]).block _ (blk_lt hRa) (by omega)).trans hRa)
  have hkp5 : Kp (fun q => q = w4.heap.size) w4 ((w4.alloc (.cells #[.int .i64 0, .int .i64 0, .int .u64 0, .int .i64 0, .bool false] 66)).setRow w4.heap.size #[.int .i64 (ym : Nat), .int .i64 (yi : Nat), .int .u64 (yn : Nat), .int .i64 (yu : Nat), .bool ys]) := ((Kp.of_below (S := fun _ => False) hba).mono (fun _ _ e => e.elim)).trans (row_kp _ _ _) (fun _ _ e => e)
  have HT5 := hide (hT4.kp hkp5 (fun q e => by have h1 := HN0.out; omega))
  have HWS : Hid (w.heap.size < w4.heap.size) := hws
  clear hP h44 hI4 hR4 hT4 hba hIa hRa hws hkp5 HI3 HR3 HT3 HNO
  go_upto_region 3 with (refine wpList_storeRow rfl rfl w4.heap.size #[.int .i64 0, .int .i64 0, .int .u64 0, .int .i64 0, .bool false] #[.int .i64 (ym : Nat), .int .i64 (yi : Nat), .int .u64 (yn : Nat), .int .i64 (yu : Nat), .bool ys] 66 rfl rfl HAL.out HI5s.out rfl HA5.out ?_)
  clear HAL HI5s HA5
  obtain ⟨MS, hMS⟩ : ∃ MS, MS = lnot yp ⟨ym, yi, yn, yu, ys, ye⟩ ns := ⟨_, rfl⟩
  have HML : Hid (MS.length ≤ ns.length + 2) := by show _ ≤ _; rw [hMS]; exact not_len yp ⟨ym, yi, yn, yu, ys, ye⟩ ns
  rw [← hMS] at HI5 HLS
  clear hMS
  generalize (w4.alloc (.cells #[.int .i64 0, .int .i64 0, .int .u64 0, .int .i64 0, .bool false] 66)).setRow w4.heap.size #[.int .i64 (ym : Nat), .int .i64 (yi : Nat), .int .u64 (yn : Nat), .int .i64 (yu : Nat), .bool ys] = w5 at *
  obtain ⟨w6, hw6⟩ : ∃ w6, w6 = w5.alloc (.cells #[.int .i64 0, .bool false, .bool false, .int .u64 0, .int .u64 0, .string ⟨#[]⟩, .slice none 0 0, .int .i64 0, .int .u64 0, .int .u64 0, .string ⟨#[]⟩, .slice none 0 0, .slice none 0 0] 41) := ⟨_, rfl⟩
  obtain ⟨V, hVV⟩ : ∃ V, V = w5.heap.size := ⟨_, rfl⟩
  obtain ⟨HDB, hHB⟩ : ∃ HDB, HDB = w4.heap.size := ⟨_, rfl⟩
  have hb6 : Below w5.heap.size w5 w6 := hw6 ▸ below_alloc4 w5 _
  have hg6 := heap_alloc_new w5 (.cells #[.int .i64 0, .bool false, .bool false, .int .u64 0, .int .u64 0, .string ⟨#[]⟩, .slice none 0 0, .int .i64 0, .int .u64 0, .int .u64 0, .string ⟨#[]⟩, .slice none 0 0, .slice none 0 0] 41)
  rw [← hw6, ← hVV] at hg6
  rw [← hHB] at HY5 HWS
  have HV6 : Hid (Vrb w w6 N0 g v b dp yp op vn vx4 MS w.heap.size V #[.int .i64 0, .bool false, .bool false, .int .u64 0, .int .u64 0, .string ⟨#[]⟩, .slice none 0 0, .int .i64 0, .int .u64 0, .int .u64 0, .string ⟨#[]⟩, .slice none 0 0, .slice none 0 0]) := ⟨HI5.out.trans (HI5.out.i.next hb6), (hb6.block _ (blk_lt HR5.out)).trans HR5.out, hg6, Nat.le_refl _, by rw [hVV]; have := blk_lt HR5.out; omega, by rw [hVV]; have := blk_lt HR5.out; omega, HN0.out, HGL.out⟩
  have HY6 := hide ((hb6.block _ (blk_lt HY5.out)).trans HY5.out)
  have HT6 := hide (HT5.out.itg HI5.out.i (HI5.out.i.next hb6))
  have HVL : Hid (HDB < V ∧ V < w6.heap.size ∧ w.heap.size < HDB) := ⟨by rw [hVV]; exact blk_lt HY5.out, blk_lt hg6, HWS.out⟩
  go_upto_region 4 with fail
  rw [← hw6, ← hVV, ← hHB]
  clear hw6 hVV hHB hb6 hg6 HI5 HR5 HY5 HT5
  have d0 : w6.cell? ⟨HDB, 0, none⟩ = some (.int .i64 (ym : Nat)) := blk_cell (j := 0) HY6.out rfl
  have HIH := hide infoHd
  have HAG : Hid (∀ w, (isAgg 66).run Tryz.prog w = .ok true w) := aggHd
  have HCA : Hid (∀ j x, (#[.int .i64 (ym : Nat), .int .i64 (yi : Nat), .int .u64 (yn : Nat), .int .i64 (yu : Nat), .bool ys] : Array Value)[j]? = some x → w6.cell? ⟨HDB, 0 + j, none⟩ = some x) := fun j x hj => by rw [Nat.zero_add]; exact blk_cell HY6.out hj
  have HWB : Hid (w.heap.size ≤ w6.heap.size) := by have h1 := HVL.out; show _ ≤ _; omega
  have HNL : Hid (MS.length + 2 * (b.length - yp) ≤ 999990 ∧ MS.length + 3 * (b.length - yp) ≤ 999990 ∧ MS.length ≤ 999990) := by have h1 := HML.out; have h2 := HNN.out; have h3 := HHY.out; exact ⟨by omega, by omega, by omega⟩
  unfold lmean at HLS
  by_cases h1 : ym = 1
  · as_aux_lemma =>
    have g1 : ((ym : Int) == 1) = true := by rw [beq_iff_eq]; omega
    have HL : Hid (LS = .ok (.mk 3 false true yn 0 ⟨#[]⟩ [] ⟨0, 0, 0, []⟩ [] [], MS, yp)) := by
      show _ = _
      rw [HLS.out]
      rw [if_neg (show ¬ ym = 0 by omega), if_pos (show ym = 1 from h1)]
    clear h1  HLS
    have c2w : w6.cell? ⟨V, 2, none⟩ = some _ := blk_cell (j := 2) HV6.out.a rfl
    have f2w : w6.frozen? ⟨V, 2, none⟩ = false := blk_frozen 2 HV6.out.a
    have HV6s : Hid (Vrb w (w6.setCell ⟨V, 2, none⟩ (.bool true)) N0 g v b dp yp op vn vx4 MS w.heap.size V #[.int .i64 0, .bool false, .bool true, .int .u64 0, .int .u64 0, .string ⟨#[]⟩, .slice none 0 0, .int .i64 0, .int .u64 0, .int .u64 0, .string ⟨#[]⟩, .slice none 0 0, .slice none 0 0]) := HV6.out.set 2 (.bool true) rfl
    have HY7 : Hid ((w6.setCell ⟨V, 2, none⟩ (.bool true)).heap[HDB]? = some (.cells #[.int .i64 (ym : Nat), .int .i64 (yi : Nat), .int .u64 (yn : Nat), .int .i64 (yu : Nat), .bool ys] 66 (0, 0))) := blk_other 2 _ HY6.out (by have := HVL.out; omega)
    go_upto_region 14 with fail
    generalize w6.setCell ⟨V, 2, none⟩ (.bool true) = w7 at *
    clear c2w f2w
    have d2 : w7.cell? ⟨HDB, 2, none⟩ = some (.int .u64 (yn : Nat)) := blk_cell (j := 2) HY7.out rfl
    have c0w : w7.cell? ⟨V, 0, none⟩ = some _ := blk_cell (j := 0) HV6s.out.a rfl
    have f0w : w7.frozen? ⟨V, 0, none⟩ = false := blk_frozen 0 HV6s.out.a
    have HV6ss : Hid (Vrb w (w7.setCell ⟨V, 0, none⟩ (.int .i64 3)) N0 g v b dp yp op vn vx4 MS w.heap.size V #[.int .i64 3, .bool false, .bool true, .int .u64 0, .int .u64 0, .string ⟨#[]⟩, .slice none 0 0, .int .i64 0, .int .u64 0, .int .u64 0, .string ⟨#[]⟩, .slice none 0 0, .slice none 0 0]) := HV6s.out.set 0 (.int .i64 3) rfl
    have c3w : w7.cell? ⟨V, 3, none⟩ = some (.int .u64 0) := blk_cell (j := 3) HV6s.out.a rfl
    have c3x : (w7.setCell ⟨V, 0, none⟩ (.int .i64 3)).cell? ⟨V, 3, none⟩ = some (.int .u64 0) := blk_cell (j := 3) HV6ss.out.a rfl
    have f3w : w7.frozen? ⟨V, 3, none⟩ = false := blk_frozen 3 HV6s.out.a
    have f3x : (w7.setCell ⟨V, 0, none⟩ (.int .i64 3)).frozen? ⟨V, 3, none⟩ = false := blk_frozen 3 HV6ss.out.a
    have HVF : Hid (Vrb w ((w7.setCell ⟨V, 0, none⟩ (.int .i64 3)).setCell ⟨V, 3, none⟩ (.int .u64 (yn : Nat))) N0 g v b dp yp op vn vx4 MS w.heap.size V #[.int .i64 3, .bool false, .bool true, .int .u64 (yn : Nat), .int .u64 0, .string ⟨#[]⟩, .slice none 0 0, .int .i64 0, .int .u64 0, .int .u64 0, .string ⟨#[]⟩, .slice none 0 0, .slice none 0 0]) := HV6ss.out.set 3 (.int .u64 (yn : Nat)) rfl
    have HTB : Hid (Tbd (.mk 3 false true yn 0 ⟨#[]⟩ [] ⟨0, 0, 0, []⟩ [] [])) := ⟨HBD.out.1, by show 0 < _; decide, by show 0 ≤ _; omega, by show 0 ≤ _; omega, lkb_zero, by show 0 ≤ _; omega⟩
    go_region
    have HVE : Hid (Vrb w (((w7.setCell ⟨V, 0, none⟩ (.int .i64 3)).setCell ⟨V, 3, none⟩ (.int .u64 (yn : Nat))).drew) N0 g v b dp yp op vn vx4 MS w.heap.size V #[.int .i64 3, .bool false, .bool true, .int .u64 (yn : Nat), .int .u64 0, .string ⟨#[]⟩, .slice none 0 0, .int .i64 0, .int .u64 0, .int .u64 0, .string ⟨#[]⟩, .slice none 0 0, .slice none 0 0]) := HVF.out.next (by refine Below.drew ?_; exact Below.refl _ _)
    clear c0w f0w c3w c3x f3w f3x d2 HVF HV6s HV6ss
    generalize ((w7.setCell ⟨V, 0, none⟩ (.int .i64 3)).setCell ⟨V, 3, none⟩ (.int .u64 (yn : Nat))).drew = w9 at *
    have HFN : Hid (TreP w N0 g v b dp op vn LS (.returned (.agg #[.int .i64 3, .bool false, .bool true, .int .u64 (yn : Nat), .int .u64 0, .string ⟨#[]⟩, .slice none 0 0, .int .i64 0, .int .u64 0, .int .u64 0, .string ⟨#[]⟩, .slice none 0 0, .slice none 0 0])) (w9.setRow w.heap.size #[.int .i64 3, .bool false, .bool true, .int .u64 (yn : Nat), .int .u64 0, .string ⟨#[]⟩, .slice none 0 0, .int .i64 0, .int .u64 0, .int .u64 0, .string ⟨#[]⟩, .slice none 0 0, .slice none 0 0])) := HVE.out.treP (lo := w.heap.size + 1) (D := fun _ => False) (nos_leaf HTB.out rfl rfl rfl) (by omega) (by omega) (fun _ e => e.elim) HL.out
    have HRB := hide HVE.out.r
    have HVC := hide HVE.out.cell
    have HIV := hide infoV13
    have HAV : Hid (∀ w, (isAgg 41).run Tryz.prog w = .ok true w) := aggV9
    have HAA : Hid ((#[.int .i64 3, .bool false, .bool true, .int .u64 (yn : Nat), .int .u64 0, .string ⟨#[]⟩, .slice none 0 0, .int .i64 0, .int .u64 0, .int .u64 0, .string ⟨#[]⟩, .slice none 0 0, .slice none 0 0] : Array Value).all (·.oneCell') = true) := by show _ = _; simp [Value.oneCell']
    clear HVE
    go_wp2_with (first
      | (refine wpList_aggAt rfl rfl HIV.out HAV.out V 0 (#[.int .i64 3, .bool false, .bool true, .int .u64 (yn : Nat), .int .u64 0, .string ⟨#[]⟩, .slice none 0 0, .int .i64 0, .int .u64 0, .int .u64 0, .string ⟨#[]⟩, .slice none 0 0, .slice none 0 0]) rfl rfl HVC.out ?_)
      | (refine wpList_storeRow rfl rfl w.heap.size vz9 (#[.int .i64 3, .bool false, .bool true, .int .u64 (yn : Nat), .int .u64 0, .string ⟨#[]⟩, .slice none 0 0, .int .i64 0, .int .u64 0, .int .u64 0, .string ⟨#[]⟩, .slice none 0 0, .slice none 0 0]) 41 rfl rfl HRB.out HIV.out rfl HAA.out ?_))
    exact bodyPost_ret (end_v9 rfl (row_same HRB.out) rfl rfl) rfl HFN.out

  by_cases h0 : ym = 0
  · as_aux_lemma =>
    have g1 : ((ym : Int) == 1) = false := by rw [beq_eq_false_iff_ne]; omega
    have g0 : ((ym : Int) == 0) = true := by rw [beq_iff_eq]; omega
    have HL : Hid (LS = .ok (.mk 3 false false yn 0 ⟨#[]⟩ [] ⟨0, 0, 0, []⟩ [] [], MS, yp)) := by
      show _ = _
      rw [HLS.out]
      rw [if_pos (show ym = 0 from h0)]
    clear h1 h0 HLS
    go_upto_region 14 with fail
    have d2 : w6.cell? ⟨HDB, 2, none⟩ = some (.int .u64 (yn : Nat)) := blk_cell (j := 2) HY6.out rfl
    have c0w : w6.cell? ⟨V, 0, none⟩ = some _ := blk_cell (j := 0) HV6.out.a rfl
    have f0w : w6.frozen? ⟨V, 0, none⟩ = false := blk_frozen 0 HV6.out.a
    have HV6s : Hid (Vrb w (w6.setCell ⟨V, 0, none⟩ (.int .i64 3)) N0 g v b dp yp op vn vx4 MS w.heap.size V #[.int .i64 3, .bool false, .bool false, .int .u64 0, .int .u64 0, .string ⟨#[]⟩, .slice none 0 0, .int .i64 0, .int .u64 0, .int .u64 0, .string ⟨#[]⟩, .slice none 0 0, .slice none 0 0]) := HV6.out.set 0 (.int .i64 3) rfl
    have c3w : w6.cell? ⟨V, 3, none⟩ = some (.int .u64 0) := blk_cell (j := 3) HV6.out.a rfl
    have c3x : (w6.setCell ⟨V, 0, none⟩ (.int .i64 3)).cell? ⟨V, 3, none⟩ = some (.int .u64 0) := blk_cell (j := 3) HV6s.out.a rfl
    have f3w : w6.frozen? ⟨V, 3, none⟩ = false := blk_frozen 3 HV6.out.a
    have f3x : (w6.setCell ⟨V, 0, none⟩ (.int .i64 3)).frozen? ⟨V, 3, none⟩ = false := blk_frozen 3 HV6s.out.a
    have HVF : Hid (Vrb w ((w6.setCell ⟨V, 0, none⟩ (.int .i64 3)).setCell ⟨V, 3, none⟩ (.int .u64 (yn : Nat))) N0 g v b dp yp op vn vx4 MS w.heap.size V #[.int .i64 3, .bool false, .bool false, .int .u64 (yn : Nat), .int .u64 0, .string ⟨#[]⟩, .slice none 0 0, .int .i64 0, .int .u64 0, .int .u64 0, .string ⟨#[]⟩, .slice none 0 0, .slice none 0 0]) := HV6s.out.set 3 (.int .u64 (yn : Nat)) rfl
    have HTB : Hid (Tbd (.mk 3 false false yn 0 ⟨#[]⟩ [] ⟨0, 0, 0, []⟩ [] [])) := ⟨HBD.out.1, by show 0 < _; decide, by show 0 ≤ _; omega, by show 0 ≤ _; omega, lkb_zero, by show 0 ≤ _; omega⟩
    go_region
    have HVE : Hid (Vrb w (((w6.setCell ⟨V, 0, none⟩ (.int .i64 3)).setCell ⟨V, 3, none⟩ (.int .u64 (yn : Nat))).drew) N0 g v b dp yp op vn vx4 MS w.heap.size V #[.int .i64 3, .bool false, .bool false, .int .u64 (yn : Nat), .int .u64 0, .string ⟨#[]⟩, .slice none 0 0, .int .i64 0, .int .u64 0, .int .u64 0, .string ⟨#[]⟩, .slice none 0 0, .slice none 0 0]) := HVF.out.next (by refine Below.drew ?_; exact Below.refl _ _)
    clear c0w f0w c3w c3x f3w f3x d2 HVF HV6 HV6s
    generalize ((w6.setCell ⟨V, 0, none⟩ (.int .i64 3)).setCell ⟨V, 3, none⟩ (.int .u64 (yn : Nat))).drew = w9 at *
    have HFN : Hid (TreP w N0 g v b dp op vn LS (.returned (.agg #[.int .i64 3, .bool false, .bool false, .int .u64 (yn : Nat), .int .u64 0, .string ⟨#[]⟩, .slice none 0 0, .int .i64 0, .int .u64 0, .int .u64 0, .string ⟨#[]⟩, .slice none 0 0, .slice none 0 0])) (w9.setRow w.heap.size #[.int .i64 3, .bool false, .bool false, .int .u64 (yn : Nat), .int .u64 0, .string ⟨#[]⟩, .slice none 0 0, .int .i64 0, .int .u64 0, .int .u64 0, .string ⟨#[]⟩, .slice none 0 0, .slice none 0 0])) := HVE.out.treP (lo := w.heap.size + 1) (D := fun _ => False) (nos_leaf HTB.out rfl rfl rfl) (by omega) (by omega) (fun _ e => e.elim) HL.out
    have HRB := hide HVE.out.r
    have HVC := hide HVE.out.cell
    have HIV := hide infoV13
    have HAV : Hid (∀ w, (isAgg 41).run Tryz.prog w = .ok true w) := aggV9
    have HAA : Hid ((#[.int .i64 3, .bool false, .bool false, .int .u64 (yn : Nat), .int .u64 0, .string ⟨#[]⟩, .slice none 0 0, .int .i64 0, .int .u64 0, .int .u64 0, .string ⟨#[]⟩, .slice none 0 0, .slice none 0 0] : Array Value).all (·.oneCell') = true) := by show _ = _; simp [Value.oneCell']
    clear HVE
    go_wp2_with (first
      | (refine wpList_aggAt rfl rfl HIV.out HAV.out V 0 (#[.int .i64 3, .bool false, .bool false, .int .u64 (yn : Nat), .int .u64 0, .string ⟨#[]⟩, .slice none 0 0, .int .i64 0, .int .u64 0, .int .u64 0, .string ⟨#[]⟩, .slice none 0 0, .slice none 0 0]) rfl rfl HVC.out ?_)
      | (refine wpList_storeRow rfl rfl w.heap.size vz9 (#[.int .i64 3, .bool false, .bool false, .int .u64 (yn : Nat), .int .u64 0, .string ⟨#[]⟩, .slice none 0 0, .int .i64 0, .int .u64 0, .int .u64 0, .string ⟨#[]⟩, .slice none 0 0, .slice none 0 0]) 41 rfl rfl HRB.out HIV.out rfl HAA.out ?_))
    exact bodyPost_ret (end_v9 rfl (row_same HRB.out) rfl rfl) rfl HFN.out

  by_cases h2 : ym = 2
  · as_aux_lemma =>
    have g1 : ((ym : Int) == 1) = false := by rw [beq_eq_false_iff_ne]; omega
    have g0 : ((ym : Int) == 0) = false := by rw [beq_eq_false_iff_ne]; omega
    have g2 : ((ym : Int) == 2) = true := by rw [beq_iff_eq]; omega
    have HL : Hid (LS = lbind (lallg (fun xs _ ys => xs ++ ys) b dp J op yp ⟨ym, yi, yn, yu, ys, ye⟩ [] MS) fun y => .ok (.mk 6 false false 0 0 ⟨#[]⟩ y.1 ⟨0, 0, 0, []⟩ [] [], y.2.1, y.2.2)) := by
      show _ = _
      rw [HLS.out, if_neg (show ¬ ym = 0 by omega), if_neg (show ¬ ym = 1 by omega), if_pos (show ym = 2 from h2)]
    have HCO := hide (octets9_any HV6.out.i.i HQ.out ⟨ym, yi, yn, yu, ys, ye⟩ J HJJ.out (.inl h2) HHY.out.2.2.2.1 HHY.out.2.2.2.2 HNL.out.1)
    rw [HYV.out] at HCO
    have HM2 : Hid ((⟨ym, yi, yn, yu, ys, ye⟩ : HR).m = 2) := h2
    clear h2 h1 h0 HLS
    go_wp2_with (refine wpList_aggAt rfl rfl HIH.out HAG.out HDB 0 #[.int .i64 (ym : Nat), .int .i64 (yi : Nat), .int .u64 (yn : Nat), .int .i64 (yu : Nat), .bool ys] rfl rfl HCA.out ?_)
    refine HCO.out.mono ?_
    rintro e w7 (⟨x, va, vx7, hx, rfl, h77, how⟩ | ⟨c, q9, hx, he', hk⟩)
    case inr =>
      as_aux_lemma =>
      rw [hx] at HL
      have HLE : Hid (LS = .error (c, q9)) := HL.out
      have HKE : Hid (Kp (fun q => q = g ∨ vn.ownBlock = some q) w w7) := HV6.out.i.kout hk
      unfold gup at he'
      subst he'
      clear hk hx HCO
      go_wp2_with fail
      exact ⟨rfl, .inr ⟨c, q9, HLE.out, rfl, HKE.out⟩⟩
    have HBY9 := hide (oct_256 HQ.out hx)
    have HLN := hide (oct_len (.inl HM2.out) HHY.out.2.1 hx)
    rw [hx] at HL
    have HV7 := hide (HV6.out.on h77)
    obtain ⟨xs, ms, q⟩ := x
    have HL8 : Hid (LS = .ok (.mk 6 false false 0 0 ⟨#[]⟩ xs ⟨0, 0, 0, []⟩ [] [], ms, q)) := HL.out
    replace HBY9 : Hid (∀ y ∈ xs, y < 256) := HBY9.out
    replace HLN : Hid (xs.length ≤ b.length) := HLN.out
    replace HV7 : Hid (Vrb w w7 N0 g v b dp q op vn vx7 ms w.heap.size V #[.int .i64 0, .bool false, .bool false, .int .u64 0, .int .u64 0, .string ⟨#[]⟩, .slice none 0 0, .int .i64 0, .int .u64 0, .int .u64 0, .string ⟨#[]⟩, .slice none 0 0, .slice none 0 0]) := HV7.out
    have HOW := hide how
    obtain ⟨a0, cap0, hva, -⟩ := own_formG how
    subst hva
    replace HOW : Hid (w7.ownsRow w6.heap.size 5 1 (.slice a0 xs.length cap0) xs.length (bv xs)) := HOW.out
    have HDD : Hid (∀ r, (Value.slice a0 xs.length cap0).ownBlock = some r → w6.heap.size ≤ r ∧ r < w7.heap.size ∧ vx7.ownBlock ≠ some r) := fun r e => ⟨(HOW.out.lt r e).1, (HOW.out.lt r e).2, own_apart HOW.out h77.i.o (by decide) e⟩
    clear hx h77 how HCO HL HV6 HCA d0 HY6
    have c0w : w7.cell? ⟨V, 0, none⟩ = some _ := blk_cell (j := 0) HV7.out.a rfl
    have f0w : w7.frozen? ⟨V, 0, none⟩ = false := blk_frozen 0 HV7.out.a
    have HV7s : Hid (Vrb w (w7.setCell ⟨V, 0, none⟩ (.int .i64 6)) N0 g v b dp q op vn vx7 ms w.heap.size V #[.int .i64 6, .bool false, .bool false, .int .u64 0, .int .u64 0, .string ⟨#[]⟩, .slice none 0 0, .int .i64 0, .int .u64 0, .int .u64 0, .string ⟨#[]⟩, .slice none 0 0, .slice none 0 0]) := HV7.out.set 0 (.int .i64 6) rfl
    have c6w : (w7.setCell ⟨V, 0, none⟩ (.int .i64 6)).cell? ⟨V, 6, none⟩ = some _ := blk_cell (j := 6) HV7s.out.a rfl
    have f6w : (w7.setCell ⟨V, 0, none⟩ (.int .i64 6)).frozen? ⟨V, 6, none⟩ = false := blk_frozen 6 HV7s.out.a
    have HVE : Hid (Vrb w ((w7.setCell ⟨V, 0, none⟩ (.int .i64 6)).setCell ⟨V, 6, none⟩ (.slice a0 xs.length cap0)) N0 g v b dp q op vn vx7 ms w.heap.size V #[.int .i64 6, .bool false, .bool false, .int .u64 0, .int .u64 0, .string ⟨#[]⟩, .slice a0 xs.length cap0, .int .i64 0, .int .u64 0, .int .u64 0, .string ⟨#[]⟩, .slice none 0 0, .slice none 0 0]) := HV7s.out.set 6 (.slice a0 xs.length cap0) rfl
    have HKV : Hid (Kp (fun q => q = V) w7 ((w7.setCell ⟨V, 0, none⟩ (.int .i64 6)).setCell ⟨V, 6, none⟩ (.slice a0 xs.length cap0))) := (setc_kp w7 V 0 _).trans (setc_kp _ V 6 _) (fun _ _ e => e)
    go_upto_region 22 with fail
    generalize (w7.setCell ⟨V, 0, none⟩ (.int .i64 6)).setCell ⟨V, 6, none⟩ (.slice a0 xs.length cap0) = w9 at *
    clear c0w f0w c6w f6w HV7 HV7s
    have HFN : Hid (TreP w N0 g v b dp op vn LS (.returned (.agg (#[.int .i64 6, .bool false, .bool false, .int .u64 0, .int .u64 0, .string ⟨#[]⟩, .slice a0 xs.length cap0, .int .i64 0, .int .u64 0, .int .u64 0, .string ⟨#[]⟩, .slice none 0 0, .slice none 0 0]))) (w9.setRow w.heap.size (#[.int .i64 6, .bool false, .bool false, .int .u64 0, .int .u64 0, .string ⟨#[]⟩, .slice a0 xs.length cap0, .int .i64 0, .int .u64 0, .int .u64 0, .string ⟨#[]⟩, .slice none 0 0, .slice none 0 0]))) := HVE.out.treP (lo := w6.heap.size) (nos_bytes (HKV.out.owns HOW.out (fun r e e2 => by have h1 := (HDD.out r e).1; have h2 := HVL.out; omega)) HBY9.out (by have h1 := HLN.out; have h2 := HBL.out; omega)) HWB.out (by have h1 := HVL.out; omega) (fun r e => by have h1 := HDD.out r e; have h2 := HKV.out.size; exact ⟨h1.1, by omega, h1.2.2⟩) HL8.out
    have HRB := hide HVE.out.r
    have HVC := hide HVE.out.cell
    have HIV := hide infoV13
    have HAV : Hid (∀ w, (isAgg 41).run Tryz.prog w = .ok true w) := aggV9
    have HAA : Hid ((#[.int .i64 6, .bool false, .bool false, .int .u64 0, .int .u64 0, .string ⟨#[]⟩, .slice a0 xs.length cap0, .int .i64 0, .int .u64 0, .int .u64 0, .string ⟨#[]⟩, .slice none 0 0, .slice none 0 0] : Array Value).all (·.oneCell') = true) := by show _ = _; simp [Value.oneCell']
    clear HVE
    go_wp2_with (first
      | (refine wpList_aggAt rfl rfl HIV.out HAV.out V 0 (#[.int .i64 6, .bool false, .bool false, .int .u64 0, .int .u64 0, .string ⟨#[]⟩, .slice a0 xs.length cap0, .int .i64 0, .int .u64 0, .int .u64 0, .string ⟨#[]⟩, .slice none 0 0, .slice none 0 0]) rfl rfl HVC.out ?_)
      | (refine wpList_storeRow rfl rfl w.heap.size vz9 (#[.int .i64 6, .bool false, .bool false, .int .u64 0, .int .u64 0, .string ⟨#[]⟩, .slice a0 xs.length cap0, .int .i64 0, .int .u64 0, .int .u64 0, .string ⟨#[]⟩, .slice none 0 0, .slice none 0 0]) 41 rfl rfl HRB.out HIV.out rfl HAA.out ?_))
    exact bodyPost_ret (end_v9 rfl (row_same HRB.out) rfl rfl) rfl HFN.out
  by_cases h3 : ym = 3
  · as_aux_lemma =>
    have g1 : ((ym : Int) == 1) = false := by rw [beq_eq_false_iff_ne]; omega
    have g0 : ((ym : Int) == 0) = false := by rw [beq_eq_false_iff_ne]; omega
    have g2 : ((ym : Int) == 2) = false := by rw [beq_eq_false_iff_ne]; omega
    have g3 : ((ym : Int) == 3) = true := by rw [beq_iff_eq]; omega
    have HL : Hid (LS = lbind (ltxt b dp J op yp ⟨ym, yi, yn, yu, ys, ye⟩ MS) fun y => .ok (.mk 5 false false 0 0 (nstr y.1) [] ⟨0, 0, 0, []⟩ [] [], y.2.1, y.2.2)) := by
      show _ = _
      rw [HLS.out, if_neg (show ¬ ym = 0 by omega), if_neg (show ¬ ym = 1 by omega), if_neg (show ¬ ym = 2 by omega), if_pos (show ym = 3 from h3)]
    have HCO := hide (text9_any valid9_any HV6.out.i.i HT6.out HQ.out ⟨ym, yi, yn, yu, ys, ye⟩ J HJJ.out (.inr h3) HHY.out.2.2.2.1 HHY.out.2.2.2.2 HNL.out.1)
    rw [HYV.out] at HCO
    have HM2 : Hid ((⟨ym, yi, yn, yu, ys, ye⟩ : HR).m = 3) := h3
    clear h3 h2 h1 h0 HLS
    go_wp2_with (refine wpList_aggAt rfl rfl HIH.out HAG.out HDB 0 #[.int .i64 (ym : Nat), .int .i64 (yi : Nat), .int .u64 (yn : Nat), .int .i64 (yu : Nat), .bool ys] rfl rfl HCA.out ?_)
    refine HCO.out.mono ?_
    rintro e w7 (⟨x, vx7, hx, rfl, h77⟩ | ⟨c, q9, hx, he', hk⟩)
    case inr =>
      as_aux_lemma =>
      rw [hx] at HL
      have HLE : Hid (LS = .error (c, q9)) := HL.out
      have HKE : Hid (Kp (fun q => q = g ∨ vn.ownBlock = some q) w w7) := HV6.out.i.kout hk
      unfold gup at he'
      subst he'
      clear hk hx HCO
      go_wp2_with fail
      exact ⟨rfl, .inr ⟨c, q9, HLE.out, rfl, HKE.out⟩⟩
    have HLN := hide (txt_len (.inr HM2.out) HHY.out.2.1 hx)
    rw [hx] at HL
    have HV7 := hide (HV6.out.on h77)
    obtain ⟨xs, ms, q⟩ := x
    obtain ⟨tx, htx⟩ : ∃ tx, tx = nstr xs := ⟨_, rfl⟩
    have HL8 : Hid (LS = .ok (.mk 5 false false 0 0 tx [] ⟨0, 0, 0, []⟩ [] [], ms, q)) := by rw [htx]; exact HL
    replace HLN : Hid (tx.size ≤ b.length) := by rw [htx]; exact HLN
    replace HV7 : Hid (Vrb w w7 N0 g v b dp q op vn vx7 ms w.heap.size V #[.int .i64 0, .bool false, .bool false, .int .u64 0, .int .u64 0, .string ⟨#[]⟩, .slice none 0 0, .int .i64 0, .int .u64 0, .int .u64 0, .string ⟨#[]⟩, .slice none 0 0, .slice none 0 0]) := HV7.out
    simp only []
    rw [← htx]
    clear hx h77 HCO HL HV6 HCA d0 HY6 htx
    have c0w : w7.cell? ⟨V, 0, none⟩ = some _ := blk_cell (j := 0) HV7.out.a rfl
    have f0w : w7.frozen? ⟨V, 0, none⟩ = false := blk_frozen 0 HV7.out.a
    have HV7s : Hid (Vrb w (w7.setCell ⟨V, 0, none⟩ (.int .i64 5)) N0 g v b dp q op vn vx7 ms w.heap.size V #[.int .i64 5, .bool false, .bool false, .int .u64 0, .int .u64 0, .string ⟨#[]⟩, .slice none 0 0, .int .i64 0, .int .u64 0, .int .u64 0, .string ⟨#[]⟩, .slice none 0 0, .slice none 0 0]) := HV7.out.set 0 (.int .i64 5) rfl
    have c5w : (w7.setCell ⟨V, 0, none⟩ (.int .i64 5)).cell? ⟨V, 5, none⟩ = some _ := blk_cell (j := 5) HV7s.out.a rfl
    have f5w : (w7.setCell ⟨V, 0, none⟩ (.int .i64 5)).frozen? ⟨V, 5, none⟩ = false := blk_frozen 5 HV7s.out.a
    have HVE : Hid (Vrb w ((w7.setCell ⟨V, 0, none⟩ (.int .i64 5)).setCell ⟨V, 5, none⟩ (.string tx)) N0 g v b dp q op vn vx7 ms w.heap.size V #[.int .i64 5, .bool false, .bool false, .int .u64 0, .int .u64 0, .string tx, .slice none 0 0, .int .i64 0, .int .u64 0, .int .u64 0, .string ⟨#[]⟩, .slice none 0 0, .slice none 0 0]) := HV7s.out.set 5 (.string tx) rfl
    have HKV : Hid (Kp (fun q => q = V) w7 ((w7.setCell ⟨V, 0, none⟩ (.int .i64 5)).setCell ⟨V, 5, none⟩ (.string tx))) := (setc_kp w7 V 0 _).trans (setc_kp _ V 5 _) (fun _ _ e => e)
    go_upto_region 22 with fail
    generalize (w7.setCell ⟨V, 0, none⟩ (.int .i64 5)).setCell ⟨V, 5, none⟩ (.string tx) = w9 at *
    clear c0w f0w c5w f5w HV7 HV7s
    have HFN : Hid (TreP w N0 g v b dp op vn LS (.returned (.agg (#[.int .i64 5, .bool false, .bool false, .int .u64 0, .int .u64 0, .string tx, .slice none 0 0, .int .i64 0, .int .u64 0, .int .u64 0, .string ⟨#[]⟩, .slice none 0 0, .slice none 0 0]))) (w9.setRow w.heap.size (#[.int .i64 5, .bool false, .bool false, .int .u64 0, .int .u64 0, .string tx, .slice none 0 0, .int .i64 0, .int .u64 0, .int .u64 0, .string ⟨#[]⟩, .slice none 0 0, .slice none 0 0]))) := HVE.out.treP (lo := w.heap.size + 1) (D := fun _ => False) (nos_leaf (tbd_zero (by have h1 := HLN.out; have h2 := HBL.out; omega) (by show 0 ≤ _; omega)) rfl rfl rfl) (by omega) (by omega) (fun _ e => e.elim) HL8.out
    have HRB := hide HVE.out.r
    have HVC := hide HVE.out.cell
    have HIV := hide infoV13
    have HAV : Hid (∀ w, (isAgg 41).run Tryz.prog w = .ok true w) := aggV9
    have HAA : Hid ((#[.int .i64 5, .bool false, .bool false, .int .u64 0, .int .u64 0, .string tx, .slice none 0 0, .int .i64 0, .int .u64 0, .int .u64 0, .string ⟨#[]⟩, .slice none 0 0, .slice none 0 0] : Array Value).all (·.oneCell') = true) := by show _ = _; simp [Value.oneCell']
    clear HVE
    go_wp2_with (first
      | (refine wpList_aggAt rfl rfl HIV.out HAV.out V 0 (#[.int .i64 5, .bool false, .bool false, .int .u64 0, .int .u64 0, .string tx, .slice none 0 0, .int .i64 0, .int .u64 0, .int .u64 0, .string ⟨#[]⟩, .slice none 0 0, .slice none 0 0]) rfl rfl HVC.out ?_)
      | (refine wpList_storeRow rfl rfl w.heap.size vz9 (#[.int .i64 5, .bool false, .bool false, .int .u64 0, .int .u64 0, .string tx, .slice none 0 0, .int .i64 0, .int .u64 0, .int .u64 0, .string ⟨#[]⟩, .slice none 0 0, .slice none 0 0]) 41 rfl rfl HRB.out HIV.out rfl HAA.out ?_))
    exact bodyPost_ret (end_v9 rfl (row_same HRB.out) rfl rfl) rfl HFN.out
  by_cases h4 : ym = 4
  · as_aux_lemma =>
    have g1 : ((ym : Int) == 1) = false := by rw [beq_eq_false_iff_ne]; omega
    have g0 : ((ym : Int) == 0) = false := by rw [beq_eq_false_iff_ne]; omega
    have g2 : ((ym : Int) == 2) = false := by rw [beq_eq_false_iff_ne]; omega
    have g3 : ((ym : Int) == 3) = false := by rw [beq_eq_false_iff_ne]; omega
    have g4 : ((ym : Int) == 4) = true := by rw [beq_iff_eq]; omega
    have HL : Hid (LS = lbind (lits (fun q ms => ltree b dp J k q (op + 1) ms) b ⟨ym, yi, yn, yu, ys, ye⟩ J yp [] MS) fun y => .ok (.mk 8 false false 0 0 ⟨#[]⟩ [] ⟨0, 0, 0, []⟩ [] y.1, y.2.1, y.2.2)) := by
      show _ = _
      rw [HLS.out, if_neg (show ¬ ym = 0 by omega), if_neg (show ¬ ym = 1 by omega), if_neg (show ¬ ym = 2 by omega), if_neg (show ¬ ym = 3 by omega), if_pos (show ym = 4 from h4)]
    have hlt : op < dp := by have h9 := HHY.out.2.2.2.1.n (.inl h4); have h8 := HOK.out; omega
    have hok := HOK.out
    have hin := body_list (t := 1) (.inl h4) (by show ym - 3 = 1; omega) HTY.out HBY.out
    have hyn : yn ≤ 1000000 := Nat.le_trans (list_n HJJ.out (by omega) (by omega) (by decide) HHY.out.2.1 HBD.out.2.2 hin) HBL.out
    have hfol : Folw b (fun q ms => ltree b dp J k q (op + 1) ms) (fun q => lskip b dp J k q (op + 1)) := fun q ms q2 hq2 => tree_fol HJJ.out k (op + 1) q q2 ms (by omega) (by omega) (skip_in HJJ.out (by omega) (by omega) hq2).1 hq2
    have HCO := hide (items9_any (f := fun q ms => ltree b dp J k q (op + 1) ms) (fs := fun q => lskip b dp J k q (op + 1)) HV6.out.i.i HT6.out hlt HBL.out ⟨ym, yi, yn, yu, ys, ye⟩ hyn J HJJ.out HNL.out.2.1 (HFF.out hlt) (fun q ms x q2 hq2 hx => by
      have h8 := skip_in HJJ.out (by omega) (by omega) hq2
      have h9 := (hfol q ms q2 hq2).ok x hx
      exact ⟨h9.1, h8.2.1, h8.2.2, h9.2⟩) ⟨_, hin⟩)
    rw [HYV.out] at HCO
    have HIN := hide fun x hx => its_len hfol (fun q q2 hq hq2 => ⟨(skip_in HJJ.out (by omega) (by omega) hq2).2.1, (skip_in HJJ.out (by omega) (by omega) hq2).2.2⟩) J yp q' [] MS x HHY.out.2.1 (Nat.zero_le _) hin hx
    clear h4 h3 h2 h1 h0 HLS hlt hok hin hyn hfol
    go_wp2_with (refine wpList_aggAt rfl rfl HIH.out HAG.out HDB 0 #[.int .i64 (ym : Nat), .int .i64 (yi : Nat), .int .u64 (yn : Nat), .int .i64 (yu : Nat), .bool ys] rfl rfl HCA.out ?_)
    refine HCO.out.mono ?_
    rintro e w7 (⟨x, vx7, vi, L, E, hx, rfl, h77, hli⟩ | ⟨c, q9, hx, he', hk⟩)
    case inr =>
      as_aux_lemma =>
      rw [hx] at HL
      have HLE : Hid (LS = .error (c, q9)) := HL.out
      have HKE : Hid (Kp (fun q => q = g ∨ vn.ownBlock = some q) w w7) := HV6.out.i.kout hk
      unfold gup at he'
      subst he'
      clear hk hx HCO
      go_wp2_with fail
      exact ⟨rfl, .inr ⟨c, q9, HLE.out, rfl, HKE.out⟩⟩
    have HIL := hide (HIN.out _ hx)
    rw [hx] at HL
    have HV7 := hide (HV6.out.on h77)
    obtain ⟨ts, ms, q⟩ := x
    have HL8 : Hid (LS = .ok (.mk 8 false false 0 0 ⟨#[]⟩ [] ⟨0, 0, 0, []⟩ [] ts, ms, q)) := HL.out
    replace HV7 : Hid (Vrb w w7 N0 g v b dp q op vn vx7 ms w.heap.size V #[.int .i64 0, .bool false, .bool false, .int .u64 0, .int .u64 0, .string ⟨#[]⟩, .slice none 0 0, .int .i64 0, .int .u64 0, .int .u64 0, .string ⟨#[]⟩, .slice none 0 0, .slice none 0 0]) := HV7.out
    obtain ⟨a0, cap0, hva, -⟩ := own_formG hli.o
    subst hva
    have HLI : Hid (Lit w6.heap.size w7 vx7 (.slice a0 ts.length cap0) ts L E) := hli
    have HDD : Hid (∀ r, ((Value.slice a0 ts.length cap0).ownBlock = some r ∨ ∃ i, i < ts.length ∧ E i r) → w6.heap.size ≤ r ∧ r < w7.heap.size ∧ vx7.ownBlock ≠ some r) := fun r e => by
      rcases e with e | ⟨i, hi, e⟩
      · exact ⟨(hli.o.lt r e).1, (hli.o.lt r e).2, own_apart hli.o h77.i.o (by decide) e⟩
      · have h9 := hli.d i hi r e
        exact ⟨h9.1, h9.2.1, h9.2.2.2⟩
    have HLN : Hid (ts.length ≤ 140737488351232) := by have h8 : ts.length ≤ b.length := HIL.out; have h9 := HBL.out; show _ ≤ _; omega
    clear hx h77 hli HCO HL HV6 HCA d0 HY6 HIN
    have c0w : w7.cell? ⟨V, 0, none⟩ = some _ := blk_cell (j := 0) HV7.out.a rfl
    have f0w : w7.frozen? ⟨V, 0, none⟩ = false := blk_frozen 0 HV7.out.a
    have HV7s : Hid (Vrb w (w7.setCell ⟨V, 0, none⟩ (.int .i64 8)) N0 g v b dp q op vn vx7 ms w.heap.size V #[.int .i64 8, .bool false, .bool false, .int .u64 0, .int .u64 0, .string ⟨#[]⟩, .slice none 0 0, .int .i64 0, .int .u64 0, .int .u64 0, .string ⟨#[]⟩, .slice none 0 0, .slice none 0 0]) := HV7.out.set 0 (.int .i64 8) rfl
    have c12w : (w7.setCell ⟨V, 0, none⟩ (.int .i64 8)).cell? ⟨V, 12, none⟩ = some _ := blk_cell (j := 12) HV7s.out.a rfl
    have f12w : (w7.setCell ⟨V, 0, none⟩ (.int .i64 8)).frozen? ⟨V, 12, none⟩ = false := blk_frozen 12 HV7s.out.a
    have HVE : Hid (Vrb w ((w7.setCell ⟨V, 0, none⟩ (.int .i64 8)).setCell ⟨V, 12, none⟩ (.slice a0 ts.length cap0)) N0 g v b dp q op vn vx7 ms w.heap.size V #[.int .i64 8, .bool false, .bool false, .int .u64 0, .int .u64 0, .string ⟨#[]⟩, .slice none 0 0, .int .i64 0, .int .u64 0, .int .u64 0, .string ⟨#[]⟩, .slice none 0 0, .slice a0 ts.length cap0]) := HV7s.out.set 12 (.slice a0 ts.length cap0) rfl
    have HKV : Hid (Kp (fun q => q = V) w7 ((w7.setCell ⟨V, 0, none⟩ (.int .i64 8)).setCell ⟨V, 12, none⟩ (.slice a0 ts.length cap0))) := (setc_kp w7 V 0 _).trans (setc_kp _ V 12 _) (fun _ _ e => e)
    go_upto_region 22 with fail
    generalize (w7.setCell ⟨V, 0, none⟩ (.int .i64 8)).setCell ⟨V, 12, none⟩ (.slice a0 ts.length cap0) = w9 at *
    clear c0w f0w c12w f12w HV7 HV7s
    have HFN : Hid (TreP w N0 g v b dp op vn LS (.returned (.agg (#[.int .i64 8, .bool false, .bool false, .int .u64 0, .int .u64 0, .string ⟨#[]⟩, .slice none 0 0, .int .i64 0, .int .u64 0, .int .u64 0, .string ⟨#[]⟩, .slice none 0 0, .slice a0 ts.length cap0]))) (w9.setRow w.heap.size (#[.int .i64 8, .bool false, .bool false, .int .u64 0, .int .u64 0, .string ⟨#[]⟩, .slice none 0 0, .int .i64 0, .int .u64 0, .int .u64 0, .string ⟨#[]⟩, .slice none 0 0, .slice a0 ts.length cap0]))) := HVE.out.treP (lo := w6.heap.size) (nos_list (HLI.out.kpS HKV.out (fun r e e2 => by have h1 := (HDD.out r (.inl e)).1; have h2 := HVL.out; omega) (fun i hi r e e2 => by have h1 := (HDD.out r (.inr ⟨i, hi, e⟩)).1; have h2 := HVL.out; omega)) HLN.out) HWB.out (by have h1 := HVL.out; omega) (fun r e => by have h1 := HDD.out r e; have h2 := HKV.out.size; exact ⟨h1.1, by omega, h1.2.2⟩) HL8.out
    have HRB := hide HVE.out.r
    have HVC := hide HVE.out.cell
    have HIV := hide infoV13
    have HAV : Hid (∀ w, (isAgg 41).run Tryz.prog w = .ok true w) := aggV9
    have HAA : Hid ((#[.int .i64 8, .bool false, .bool false, .int .u64 0, .int .u64 0, .string ⟨#[]⟩, .slice none 0 0, .int .i64 0, .int .u64 0, .int .u64 0, .string ⟨#[]⟩, .slice none 0 0, .slice a0 ts.length cap0] : Array Value).all (·.oneCell') = true) := by show _ = _; simp [Value.oneCell']
    clear HVE
    go_wp2_with (first
      | (refine wpList_aggAt rfl rfl HIV.out HAV.out V 0 (#[.int .i64 8, .bool false, .bool false, .int .u64 0, .int .u64 0, .string ⟨#[]⟩, .slice none 0 0, .int .i64 0, .int .u64 0, .int .u64 0, .string ⟨#[]⟩, .slice none 0 0, .slice a0 ts.length cap0]) rfl rfl HVC.out ?_)
      | (refine wpList_storeRow rfl rfl w.heap.size vz9 (#[.int .i64 8, .bool false, .bool false, .int .u64 0, .int .u64 0, .string ⟨#[]⟩, .slice none 0 0, .int .i64 0, .int .u64 0, .int .u64 0, .string ⟨#[]⟩, .slice none 0 0, .slice a0 ts.length cap0]) 41 rfl rfl HRB.out HIV.out rfl HAA.out ?_))
    exact bodyPost_ret (end_v9 rfl (row_same HRB.out) rfl rfl) rfl HFN.out
  by_cases h5 : ym = 5
  · as_aux_lemma =>
    have g1 : ((ym : Int) == 1) = false := by rw [beq_eq_false_iff_ne]; omega
    have g0 : ((ym : Int) == 0) = false := by rw [beq_eq_false_iff_ne]; omega
    have g2 : ((ym : Int) == 2) = false := by rw [beq_eq_false_iff_ne]; omega
    have g3 : ((ym : Int) == 3) = false := by rw [beq_eq_false_iff_ne]; omega
    have g4 : ((ym : Int) == 4) = false := by rw [beq_eq_false_iff_ne]; omega
    have g5 : ((ym : Int) == 5) = true := by rw [beq_iff_eq]; omega
    have HL : Hid (LS = lbind (lents (fun q ms => ltree b dp J k q (op + 1) ms) b dp J (op + 1) ⟨ym, yi, yn, yu, ys, ye⟩ J yp [] [] MS) fun y => .ok (.mk 9 false false 0 0 ⟨#[]⟩ [] ⟨0, 0, 0, []⟩ ((lsrt y.1.1 y.1.2).map (·.1)) ((lsrt y.1.1 y.1.2).map (·.2)), y.2.1, y.2.2)) := by
      show _ = _
      rw [HLS.out, if_neg (show ¬ ym = 0 by omega), if_neg (show ¬ ym = 1 by omega), if_neg (show ¬ ym = 2 by omega), if_neg (show ¬ ym = 3 by omega), if_neg (show ¬ ym = 4 by omega), if_pos (show ym = 5 from h5)]
    have hlt : op < dp := by have h9 := HHY.out.2.2.2.1.n (.inr h5); have h8 := HOK.out; omega
    have hok := HOK.out
    have hin := body_list (t := 2) (.inr h5) (by show ym - 3 = 2; omega) HTY.out HBY.out
    have hyn : yn ≤ 1000000 := Nat.le_trans (list_n HJJ.out (by omega) (by omega) (by decide) HHY.out.2.1 HBD.out.2.2 hin) HBL.out
    have hfol : Folw b (fun q ms => ltree b dp J k q (op + 1) ms) (fun q => lskip b dp J k q (op + 1)) := fun q ms q2 hq2 => tree_fol HJJ.out k (op + 1) q q2 ms (by omega) (by omega) (skip_in HJJ.out (by omega) (by omega) hq2).1 hq2
    have c0w : w6.cell? ⟨V, 0, none⟩ = some _ := blk_cell (j := 0) HV6.out.a rfl
    have f0w : w6.frozen? ⟨V, 0, none⟩ = false := blk_frozen 0 HV6.out.a
    have HV6s : Hid (Vrb w (w6.setCell ⟨V, 0, none⟩ (.int .i64 9)) N0 g v b dp yp op vn vx4 MS w.heap.size V #[.int .i64 9, .bool false, .bool false, .int .u64 0, .int .u64 0, .string ⟨#[]⟩, .slice none 0 0, .int .i64 0, .int .u64 0, .int .u64 0, .string ⟨#[]⟩, .slice none 0 0, .slice none 0 0]) := HV6.out.set 0 (.int .i64 9) rfl
    have HY7 : Hid ((w6.setCell ⟨V, 0, none⟩ (.int .i64 9)).heap[HDB]? = some (.cells #[.int .i64 (ym : Nat), .int .i64 (yi : Nat), .int .u64 (yn : Nat), .int .i64 (yu : Nat), .bool ys] 66 (0, 0))) := blk_other 0 _ HY6.out (by have := HVL.out; omega)
    have HT7 := hide (HT6.out.kp (setc_kp w6 V 0 (.int .i64 9)) (fun q e => by have h8 := HVL.out; have h9 := HN0.out; omega))
    have HZ7 : Hid (w6.heap.size ≤ (w6.setCell ⟨V, 0, none⟩ (.int .i64 9)).heap.size) := (setc_kp w6 V 0 (.int .i64 9)).size
    go_upto_region 19 with fail
    generalize (w6.setCell ⟨V, 0, none⟩ (.int .i64 9)) = w7 at *
    clear c0w f0w
    have HCO := hide (entries9_any (f := fun q ms => ltree b dp J k q (op + 1) ms) HV6s.out.i.i HT7.out hlt HQ.out HBL.out ⟨ym, yi, yn, yu, ys, ye⟩ hyn J k HJJ.out HNL.out.2.1 (HFF.out hlt) hfol (fun q q2 hq hq2 => ⟨(skip_in HJJ.out (by omega) (by omega) hq2).2.1, (skip_in HJJ.out (by omega) (by omega) hq2).2.2⟩) ⟨_, hin⟩)
    rw [HYV.out] at HCO
    have HCB : Hid (∀ j x, (#[.int .i64 (ym : Nat), .int .i64 (yi : Nat), .int .u64 (yn : Nat), .int .i64 (yu : Nat), .bool ys] : Array Value)[j]? = some x → w7.cell? ⟨HDB, 0 + j, none⟩ = some x) := fun j x hj => by rw [Nat.zero_add]; exact blk_cell HY7.out hj
    clear h5 h4 h3 h2 h1 h0 HLS hlt hok hin hyn hfol HCA d0
    go_wp2_with (refine wpList_aggAt rfl rfl HIH.out HAG.out HDB 0 #[.int .i64 (ym : Nat), .int .i64 (yi : Nat), .int .u64 (yn : Nat), .int .i64 (yu : Nat), .bool ys] rfl rfl HCB.out ?_)
    refine HCO.out.mono ?_
    rintro e w8 (⟨x, vx7, vk, vi, L, E, hx, rfl, h77, hko, hli, hdi, hsz⟩ | ⟨c, q9, hx, he', hk⟩)
    case inr =>
      as_aux_lemma =>
      rw [hx] at HL
      have HLE : Hid (LS = .error (c, q9)) := HL.out
      have HKE : Hid (Kp (fun q => q = g ∨ vn.ownBlock = some q) w w8) := HV6s.out.i.kout hk
      unfold gup at he'
      subst he'
      clear hk hx HCO
      go_wp2_with fail
      exact ⟨rfl, .inr ⟨c, q9, HLE.out, rfl, HKE.out⟩⟩
    rw [hx] at HL
    have HV7 := hide (HV6s.out.on h77)
    obtain ⟨⟨ks0, ts0⟩, ms, q⟩ := x
    obtain ⟨ks, hks⟩ : ∃ ks, ks = (lsrt ks0 ts0).map (·.1) := ⟨_, rfl⟩
    obtain ⟨ts, hts⟩ : ∃ ts, ts = (lsrt ks0 ts0).map (·.2) := ⟨_, rfl⟩
    have HL8 : Hid (LS = .ok (.mk 9 false false 0 0 ⟨#[]⟩ [] ⟨0, 0, 0, []⟩ ks ts, ms, q)) := by rw [hks, hts]; exact HL
    replace HV7 : Hid (Vrb w w8 N0 g v b dp q op vn vx7 ms w.heap.size V #[.int .i64 9, .bool false, .bool false, .int .u64 0, .int .u64 0, .string ⟨#[]⟩, .slice none 0 0, .int .i64 0, .int .u64 0, .int .u64 0, .string ⟨#[]⟩, .slice none 0 0, .slice none 0 0]) := HV7.out
    replace hko : w8.ownsRow w7.heap.size 9 1 vk ks.length (ks.map fun s => .string s) := by rw [hks]; exact hko
    replace hli : Lit w7.heap.size w8 vx7 vi ts L E := by rw [hts]; exact hli
    replace hdi : ∀ i, i < ts.length → ∀ r, E i r → vk.ownBlock ≠ some r := by rw [hts]; exact hdi
    have hs1 : ∀ s ∈ ks, s.size ≤ 1000000 := by rw [hks]; exact hsz.1
    have hs2 : ks.length ≤ 1000000 := by rw [hks, List.length_map]; exact hsz.2
    have hs3 : ts.length ≤ 1000000 := by rw [hts, List.length_map]; exact hsz.2
    have HSS : Hid ((∀ s ∈ ks, s.size ≤ 1000000) ∧ ks.length ≤ 1000000 ∧ ts.length ≤ 1000000) := ⟨hs1, hs2, hs3⟩
    have hfk : ∃ a n c, vk = .slice a n c := by obtain ⟨a, c, e, -⟩ := own_formG hko; exact ⟨a, _, c, e⟩
    have hfi : ∃ a n c, vi = .slice a n c := by obtain ⟨a, c, e, -⟩ := own_formG hli.o; exact ⟨a, _, c, e⟩
    obtain ⟨ak, ck1, ck2, rfl⟩ := hfk
    obtain ⟨ai, ci1, ci2, rfl⟩ := hfi
    have HKO := hide hko
    have HLI := hide hli
    have HDI := hide hdi
    have HDD : Hid (∀ r, ((Value.slice ak ck1 ck2).ownBlock = some r ∨ (Value.slice ai ci1 ci2).ownBlock = some r ∨ ∃ i, i < ts.length ∧ E i r) → w7.heap.size ≤ r ∧ r < w8.heap.size ∧ vx7.ownBlock ≠ some r) := fun r e => by
      rcases e with e | e | ⟨i, hi, e⟩
      · exact ⟨(hko.lt r e).1, (hko.lt r e).2, own_apart hko h77.i.o (by decide) e⟩
      · exact ⟨(hli.o.lt r e).1, (hli.o.lt r e).2, own_apart hli.o h77.i.o (by decide) e⟩
      · have h9 := hli.d i hi r e
        exact ⟨h9.1, h9.2.1, h9.2.2.2⟩
    clear hx h77 hko hli hdi hsz hs1 hs2 hs3 hks hts HCO HL HV6 HV6s HCB HY6 HY7
    have c11 : w8.cell? ⟨V, 11, none⟩ = some _ := blk_cell (j := 11) HV7.out.a rfl
    have f11 : w8.frozen? ⟨V, 11, none⟩ = false := blk_frozen 11 HV7.out.a
    have HV8 : Hid (Vrb w (w8.setCell ⟨V, 11, none⟩ (.slice ak ck1 ck2)) N0 g v b dp q op vn vx7 ms w.heap.size V #[.int .i64 9, .bool false, .bool false, .int .u64 0, .int .u64 0, .string ⟨#[]⟩, .slice none 0 0, .int .i64 0, .int .u64 0, .int .u64 0, .string ⟨#[]⟩, .slice ak ck1 ck2, .slice none 0 0]) := HV7.out.set 11 (.slice ak ck1 ck2) rfl
    have c12 : (w8.setCell ⟨V, 11, none⟩ (.slice ak ck1 ck2)).cell? ⟨V, 12, none⟩ = some _ := blk_cell (j := 12) HV8.out.a rfl
    have f12 : (w8.setCell ⟨V, 11, none⟩ (.slice ak ck1 ck2)).frozen? ⟨V, 12, none⟩ = false := blk_frozen 12 HV8.out.a
    have HVE : Hid (Vrb w ((w8.setCell ⟨V, 11, none⟩ (.slice ak ck1 ck2)).setCell ⟨V, 12, none⟩ (.slice ai ci1 ci2)) N0 g v b dp q op vn vx7 ms w.heap.size V #[.int .i64 9, .bool false, .bool false, .int .u64 0, .int .u64 0, .string ⟨#[]⟩, .slice none 0 0, .int .i64 0, .int .u64 0, .int .u64 0, .string ⟨#[]⟩, .slice ak ck1 ck2, .slice ai ci1 ci2]) := HV8.out.set 12 (.slice ai ci1 ci2) rfl
    have HKV : Hid (Kp (fun q => q = V) w8 ((w8.setCell ⟨V, 11, none⟩ (.slice ak ck1 ck2)).setCell ⟨V, 12, none⟩ (.slice ai ci1 ci2))) := (setc_kp w8 V 11 _).trans (setc_kp _ V 12 _) (fun _ _ e => e)
    go_upto_region 22 with fail
    generalize (w8.setCell ⟨V, 11, none⟩ (.slice ak ck1 ck2)).setCell ⟨V, 12, none⟩ (.slice ai ci1 ci2) = w9 at *
    clear c11 f11 c12 f12 HV7 HV8
    have HFN : Hid (TreP w N0 g v b dp op vn LS (.returned (.agg (#[.int .i64 9, .bool false, .bool false, .int .u64 0, .int .u64 0, .string ⟨#[]⟩, .slice none 0 0, .int .i64 0, .int .u64 0, .int .u64 0, .string ⟨#[]⟩, .slice ak ck1 ck2, .slice ai ci1 ci2]))) (w9.setRow w.heap.size (#[.int .i64 9, .bool false, .bool false, .int .u64 0, .int .u64 0, .string ⟨#[]⟩, .slice none 0 0, .int .i64 0, .int .u64 0, .int .u64 0, .string ⟨#[]⟩, .slice ak ck1 ck2, .slice ai ci1 ci2]))) := HVE.out.treP (lo := w7.heap.size) (nos_map (HLI.out.kpS HKV.out (fun r e e2 => by have h1 := (HDD.out r (.inr (.inl e))).1; have h2 := HVL.out; have h3 := HZ7.out; omega) (fun i hi r e e2 => by have h1 := (HDD.out r (.inr (.inr ⟨i, hi, e⟩))).1; have h2 := HVL.out; have h3 := HZ7.out; omega)) (HKV.out.owns HKO.out (fun r e e2 => by have h1 := (HDD.out r (.inl e)).1; have h2 := HVL.out; have h3 := HZ7.out; omega)) HDI.out HSS.out.1 HSS.out.2.2 HSS.out.2.1) (by have h1 := HWB.out; have h3 := HZ7.out; omega) (by have h1 := HVL.out; have h3 := HZ7.out; omega) (fun r e => by have h1 := HDD.out r e; have h2 := HKV.out.size; exact ⟨h1.1, by omega, h1.2.2⟩) HL8.out
    have HRB := hide HVE.out.r
    have HVC := hide HVE.out.cell
    have HIV := hide infoV13
    have HAV : Hid (∀ w, (isAgg 41).run Tryz.prog w = .ok true w) := aggV9
    have HAA : Hid ((#[.int .i64 9, .bool false, .bool false, .int .u64 0, .int .u64 0, .string ⟨#[]⟩, .slice none 0 0, .int .i64 0, .int .u64 0, .int .u64 0, .string ⟨#[]⟩, .slice ak ck1 ck2, .slice ai ci1 ci2] : Array Value).all (·.oneCell') = true) := by show _ = _; simp [Value.oneCell']
    clear HVE
    go_wp2_with (first
      | (refine wpList_aggAt rfl rfl HIV.out HAV.out V 0 (#[.int .i64 9, .bool false, .bool false, .int .u64 0, .int .u64 0, .string ⟨#[]⟩, .slice none 0 0, .int .i64 0, .int .u64 0, .int .u64 0, .string ⟨#[]⟩, .slice ak ck1 ck2, .slice ai ci1 ci2]) rfl rfl HVC.out ?_)
      | (refine wpList_storeRow rfl rfl w.heap.size vz9 (#[.int .i64 9, .bool false, .bool false, .int .u64 0, .int .u64 0, .string ⟨#[]⟩, .slice none 0 0, .int .i64 0, .int .u64 0, .int .u64 0, .string ⟨#[]⟩, .slice ak ck1 ck2, .slice ai ci1 ci2]) 41 rfl rfl HRB.out HIV.out rfl HAA.out ?_))
    exact bodyPost_ret (end_v9 rfl (row_same HRB.out) rfl rfl) rfl HFN.out
  by_cases h6 : ym = 6
  · as_aux_lemma =>
    have g1 : ((ym : Int) == 1) = false := by rw [beq_eq_false_iff_ne]; omega
    have g0 : ((ym : Int) == 0) = false := by rw [beq_eq_false_iff_ne]; omega
    have g2 : ((ym : Int) == 2) = false := by rw [beq_eq_false_iff_ne]; omega
    have g3 : ((ym : Int) == 3) = false := by rw [beq_eq_false_iff_ne]; omega
    have g4 : ((ym : Int) == 4) = false := by rw [beq_eq_false_iff_ne]; omega
    have g5 : ((ym : Int) == 5) = false := by rw [beq_eq_false_iff_ne]; omega
    have g6 : ((ym : Int) == 6) = true := by rw [beq_iff_eq]; omega
    have HL : Hid (LS = lbind (llnk b dp J op p yp yn MS) fun y => .ok (.mk 7 false false 0 0 ⟨#[]⟩ [] y.1 [] [], y.2.1, y.2.2)) := by
      show _ = _
      rw [HLS.out, if_neg (show ¬ ym = 0 by omega), if_neg (show ¬ ym = 1 by omega), if_neg (show ¬ ym = 2 by omega), if_neg (show ¬ ym = 3 by omega), if_neg (show ¬ ym = 4 by omega), if_neg (show ¬ ym = 5 by omega), if_pos (show ym = 6 from h6)]
    have HCO := hide (link9_any HV6.out.i.i HQ.out p ⟨ym, yi, yn, yu, ys, ye⟩ J HJJ.out HNL.out.1)
    rw [HYV.out] at HCO
    clear h6 h5 h4 h3 h2 h1 h0 HLS
    go_wp2_with (refine wpList_aggAt rfl rfl HIH.out HAG.out HDB 0 #[.int .i64 (ym : Nat), .int .i64 (yi : Nat), .int .u64 (yn : Nat), .int .i64 (yu : Nat), .bool ys] rfl rfl HCA.out ?_)
    refine HCO.out.mono ?_
    rintro e w7 (⟨x, vx7, hx, rfl, h77⟩ | ⟨c, q9, hx, he', hk⟩)
    case inr =>
      as_aux_lemma =>
      rw [hx] at HL
      have HLE : Hid (LS = .error (c, q9)) := HL.out
      have HKE : Hid (Kp (fun q => q = g ∨ vn.ownBlock = some q) w w7) := HV6.out.i.kout hk
      unfold gup at he'
      subst he'
      clear hk hx HCO
      go_wp2_with fail
      exact ⟨rfl, .inr ⟨c, q9, HLE.out, rfl, HKE.out⟩⟩
    have HLK := hide (lnk_lkb HQ.out hx)
    rw [hx] at HL
    have HV7 := hide (HV6.out.on h77)
    obtain ⟨⟨lv, lc, lh, ld⟩, ms, q⟩ := x
    have HL8 : Hid (LS = .ok (.mk 7 false false 0 0 ⟨#[]⟩ [] ⟨lv, lc, lh, ld⟩ [] [], ms, q)) := HL.out
    replace HLK : Hid (Lkb ⟨lv, lc, lh, ld⟩ ∧ ld.length ≤ 140737488351232) := HLK.out
    replace HV7 : Hid (Vrb w w7 N0 g v b dp q op vn vx7 ms w.heap.size V #[.int .i64 0, .bool false, .bool false, .int .u64 0, .int .u64 0, .string ⟨#[]⟩, .slice none 0 0, .int .i64 0, .int .u64 0, .int .u64 0, .string ⟨#[]⟩, .slice none 0 0, .slice none 0 0]) := HV7.out
    simp only [lkv_lcs]
    clear hx h77 HCO HL HV6 HCA d0 HY6
    have c0w : w7.cell? ⟨V, 0, none⟩ = some _ := blk_cell (j := 0) HV7.out.a rfl
    have f0w : w7.frozen? ⟨V, 0, none⟩ = false := blk_frozen 0 HV7.out.a
    have HV7s : Hid (Vrb w (w7.setCell ⟨V, 0, none⟩ (.int .i64 7)) N0 g v b dp q op vn vx7 ms w.heap.size V #[.int .i64 7, .bool false, .bool false, .int .u64 0, .int .u64 0, .string ⟨#[]⟩, .slice none 0 0, .int .i64 0, .int .u64 0, .int .u64 0, .string ⟨#[]⟩, .slice none 0 0, .slice none 0 0]) := HV7.out.set 0 (.int .i64 7) rfl
    have HLO : Hid (∀ u ∈ (lcs ⟨lv, lc, lh, ld⟩).toList, u.oneCell' = true) := fun u hu => by simp [lcs] at hu; rcases hu with rfl | rfl | rfl | rfl <;> rfl
    have hst : Sem.run Tryz.prog (storeCells ⟨V, 7, none⟩ (lcs ⟨lv, lc, lh, ld⟩).toList) (w7.setCell ⟨V, 0, none⟩ (.int .i64 7)) = .ok () ((w7.setCell ⟨V, 0, none⟩ (.int .i64 7)).setRow V #[.int .i64 7, .bool false, .bool false, .int .u64 0, .int .u64 0, .string ⟨#[]⟩, .slice none 0 0, .int .i64 lv, .int .u64 (lc : Nat), .int .u64 (lh : Nat), .string (nstr ld), .slice none 0 0, .slice none 0 0]) := run_storeCells_at Tryz.prog V 7 41 (lcs ⟨lv, lc, lh, ld⟩).toList 0 #[.int .i64 7, .bool false, .bool false, .int .u64 0, .int .u64 0, .string ⟨#[]⟩, .slice none 0 0, .int .i64 0, .int .u64 0, .int .u64 0, .string ⟨#[]⟩, .slice none 0 0, .slice none 0 0] _ HV7s.out.a (by show 7 + 4 ≤ 13; decide) HLO.out
    have HVE : Hid (Vrb w ((w7.setCell ⟨V, 0, none⟩ (.int .i64 7)).setRow V #[.int .i64 7, .bool false, .bool false, .int .u64 0, .int .u64 0, .string ⟨#[]⟩, .slice none 0 0, .int .i64 lv, .int .u64 (lc : Nat), .int .u64 (lh : Nat), .string (nstr ld), .slice none 0 0, .slice none 0 0]) N0 g v b dp q op vn vx7 ms w.heap.size V #[.int .i64 7, .bool false, .bool false, .int .u64 0, .int .u64 0, .string ⟨#[]⟩, .slice none 0 0, .int .i64 lv, .int .u64 (lc : Nat), .int .u64 (lh : Nat), .string (nstr ld), .slice none 0 0, .slice none 0 0]) := HV7s.out.kpV (row_kp _ V _) (row_same HV7s.out.a)
    go_upto_region 22 with fail
    clear c0w f0w HV7 HV7s HLO hst
    generalize (w7.setCell ⟨V, 0, none⟩ (.int .i64 7)).setRow V #[.int .i64 7, .bool false, .bool false, .int .u64 0, .int .u64 0, .string ⟨#[]⟩, .slice none 0 0, .int .i64 lv, .int .u64 (lc : Nat), .int .u64 (lh : Nat), .string (nstr ld), .slice none 0 0, .slice none 0 0] = w9 at *
    have HFN : Hid (TreP w N0 g v b dp op vn LS (.returned (.agg (#[.int .i64 7, .bool false, .bool false, .int .u64 0, .int .u64 0, .string ⟨#[]⟩, .slice none 0 0, .int .i64 lv, .int .u64 (lc : Nat), .int .u64 (lh : Nat), .string (nstr ld), .slice none 0 0, .slice none 0 0]))) (w9.setRow w.heap.size (#[.int .i64 7, .bool false, .bool false, .int .u64 0, .int .u64 0, .string ⟨#[]⟩, .slice none 0 0, .int .i64 lv, .int .u64 (lc : Nat), .int .u64 (lh : Nat), .string (nstr ld), .slice none 0 0, .slice none 0 0]))) := HVE.out.treP (lo := w.heap.size + 1) (D := fun _ => False) (nos_leaf (t := .mk 7 false false 0 0 ⟨#[]⟩ [] ⟨lv, lc, lh, ld⟩ [] []) ⟨by show 0 < _; decide, by show 0 < _; decide, by show 0 ≤ _; omega, by show 0 ≤ _; omega, HLK.out.1, HLK.out.2⟩ rfl rfl rfl) (by omega) (by omega) (fun _ e => e.elim) HL8.out
    have HRB := hide HVE.out.r
    have HVC := hide HVE.out.cell
    have HIV := hide infoV13
    have HAV : Hid (∀ w, (isAgg 41).run Tryz.prog w = .ok true w) := aggV9
    have HAA : Hid ((#[.int .i64 7, .bool false, .bool false, .int .u64 0, .int .u64 0, .string ⟨#[]⟩, .slice none 0 0, .int .i64 lv, .int .u64 (lc : Nat), .int .u64 (lh : Nat), .string (nstr ld), .slice none 0 0, .slice none 0 0] : Array Value).all (·.oneCell') = true) := by show _ = _; simp [Value.oneCell']
    clear HVE
    go_wp2_with (first
      | (refine wpList_aggAt rfl rfl HIV.out HAV.out V 0 (#[.int .i64 7, .bool false, .bool false, .int .u64 0, .int .u64 0, .string ⟨#[]⟩, .slice none 0 0, .int .i64 lv, .int .u64 (lc : Nat), .int .u64 (lh : Nat), .string (nstr ld), .slice none 0 0, .slice none 0 0]) rfl rfl HVC.out ?_)
      | (refine wpList_storeRow rfl rfl w.heap.size vz9 (#[.int .i64 7, .bool false, .bool false, .int .u64 0, .int .u64 0, .string ⟨#[]⟩, .slice none 0 0, .int .i64 lv, .int .u64 (lc : Nat), .int .u64 (lh : Nat), .string (nstr ld), .slice none 0 0, .slice none 0 0]) 41 rfl rfl HRB.out HIV.out rfl HAA.out ?_))
    exact bodyPost_ret (end_v9 rfl (row_same HRB.out) rfl rfl) rfl HFN.out
  have h7 : ym = 7 := by have := HBD.out; omega
  have g1 : ((ym : Int) == 1) = false := by rw [beq_eq_false_iff_ne]; omega
  have g0 : ((ym : Int) == 0) = false := by rw [beq_eq_false_iff_ne]; omega
  have g2 : ((ym : Int) == 2) = false := by rw [beq_eq_false_iff_ne]; omega
  have g3 : ((ym : Int) == 3) = false := by rw [beq_eq_false_iff_ne]; omega
  have g4 : ((ym : Int) == 4) = false := by rw [beq_eq_false_iff_ne]; omega
  have g5 : ((ym : Int) == 5) = false := by rw [beq_eq_false_iff_ne]; omega
  have g6 : ((ym : Int) == 6) = false := by rw [beq_eq_false_iff_ne]; omega
  have g7 : ((ym : Int) == 7) = true := by rw [beq_iff_eq]; omega
  have HL : Hid (LS = lbind (loth p yi yn MS) fun y => .ok (y.1, y.2, yp)) := by
    show _ = _
    rw [HLS.out, if_neg (show ¬ ym = 0 by omega), if_neg (show ¬ ym = 1 by omega), if_neg (show ¬ ym = 2 by omega), if_neg (show ¬ ym = 3 by omega), if_neg (show ¬ ym = 4 by omega), if_neg (show ¬ ym = 5 by omega), if_neg (show ¬ ym = 6 by omega)]
  have HCO := hide (other9_any HV6.out.i.i p ⟨ym, yi, yn, yu, ys, ye⟩ HBD.out.1 HNL.out.2.2)
  rw [HYV.out] at HCO
  clear h7 h6 h5 h4 h3 h2 h1 h0 HLS
  go_wp2_with (refine wpList_aggAt rfl rfl HIH.out HAG.out HDB 0 #[.int .i64 (ym : Nat), .int .i64 (yi : Nat), .int .u64 (yn : Nat), .int .i64 (yu : Nat), .bool ys] rfl rfl HCA.out ?_)
  refine HCO.out.mono ?_
  rintro e w7 (⟨x, vx7, hx, rfl, h77⟩ | ⟨c, q9, hx, he', hk⟩)
  case inr =>
    as_aux_lemma =>
    rw [hx] at HL
    have HLE : Hid (LS = .error (c, q9)) := HL.out
    have HKE : Hid (Kp (fun q => q = g ∨ vn.ownBlock = some q) w w7) := HV6.out.i.kout hk
    unfold gup at he'
    subst he'
    clear hk hx HCO
    go_wp2_with fail
    exact ⟨rfl, .inr ⟨c, q9, HLE.out, rfl, HKE.out⟩⟩
  have HTB := hide (oth_tbd HBD.out.1 hx)
  rw [hx] at HL
  have HV7 := hide (HV6.out.on h77)
  obtain ⟨t, ms⟩ := x
  have HL8 : Hid (LS = .ok (t, ms, yp)) := HL.out
  replace HTB : Hid (Tbd t ∧ t.y = [] ∧ t.ks = [] ∧ t.is = []) := HTB.out
  replace HV7 : Hid (Vrb w w7 N0 g v b dp yp op vn vx7 ms w.heap.size V #[.int .i64 0, .bool false, .bool false, .int .u64 0, .int .u64 0, .string ⟨#[]⟩, .slice none 0 0, .int .i64 0, .int .u64 0, .int .u64 0, .string ⟨#[]⟩, .slice none 0 0, .slice none 0 0]) := HV7.out
  have HRB := hide HV7.out.r
  have HIV := hide infoV13
  have HAA : Hid ((vcs t (.slice none 0 0) (.slice none 0 0) (.slice none 0 0)).all (·.oneCell') = true) := by show _ = _; simp [vcs, Value.oneCell']
  have HFN : Hid (TreP w N0 g v b dp op vn LS (.returned (.agg (vcs t (.slice none 0 0) (.slice none 0 0) (.slice none 0 0)))) (w7.setRow w.heap.size (vcs t (.slice none 0 0) (.slice none 0 0) (.slice none 0 0)))) := by
    refine .inl ⟨_, vx7, _, fun _ => False, HL8.out, rfl, HV7.out.fin _, nos_leaf HTB.out.1 HTB.out.2.1 HTB.out.2.2.1 HTB.out.2.2.2, fun q e => e.elim⟩
  clear hx h77 HCO HL HV6 HCA d0 HY6 HV7 HTB
  go_wp2_with (refine wpList_storeRow rfl rfl w.heap.size vz9 (vcs t (.slice none 0 0) (.slice none 0 0) (.slice none 0 0)) 41 rfl rfl HRB.out HIV.out rfl HAA.out ?_)
  exact bodyPost_ret (end_v9 rfl (row_same HRB.out) rfl rfl) rfl HFN.out
theorem tree9_any {N0 g : Nat} {v : Value} {b : List Nat} {dp : Nat} (hq : ∀ x ∈ b, x < 256) (hbl : b.length ≤ 1000000) (J : Nat) (hJ : b.length + 1 ≤ J) : ∀ (k op p : Nat) (w : World) (vn : Value) (ns : List (Nat × Nat)), Itp w N0 g v b dp p op vn ns → Vtb N0 w → op ≤ dp → dp + 1 ≤ op + k → ns.length + 3 * (b.length - p) ≤ 999990 → (∃ q', lskip b dp J k p op = .ok q') → Calls Tryz.prog 20 #[.pointer (some ⟨g, 0, none⟩)] w (TreP w N0 g v b dp op vn (ltree b dp J k p op ns))
  | 0, _, _, _, _, _, _, _, _, _, _, ⟨_, h⟩ => by cases h
  | k + 1, op, p, w, vn, ns, hI, hT, ho, hk, hn, hs => tree9_step hI hT ho hk hq hbl J hJ hn hs (fun hlt wx q ms vx q2 hI2 hT2 hn2 hs2 => tree9_any hq hbl J hJ k (op + 1) q wx vx ms hI2 hT2 (by omega) (by omega) hn2 ⟨q2, hs2⟩)
end
section
open Go.RowKit Go
theorem end_m9 {wx : World} {R : Nat} {c : Array Value} {n : Value} {tmps : Array Value} (hn : c.size = 13) (hr : wx.heap[R]? = some (.cells c 41 (0, 0))) (hp : tmps.getD 4 undef = .pointer (some ⟨R, 0, none⟩)) (he : tmps.getD 5 undef = n) : (results Tryz.f15 tmps).run Tryz.prog wx = .ok (.tuple #[.agg c, n]) wx := by
  have h1 := run_loadVar_row (P := Tryz.prog) wx R 41 41 c (0, 0) _ hr Tryz.underlying41 rfl (by rw [hn]; exact infoV13)
  refine (results_cell_tmp rfl _ _ _).trans ?_
  rw [hp, he]
  simp [asAddr, h1, Result.andThen]
def MeaP (w : World) (r : Lx (Tv × List (Nat × Nat) × Nat)) (e : Ending) (w' : World) : Prop := (∃ x c vn D, r = .ok x ∧ e = .returned (.tuple #[.agg c, vn]) ∧ Below w.heap.size w w' ∧ Nos w' w.heap.size D x.1 c ∧ (∀ q, D q → w.heap.size ≤ q ∧ q < w'.heap.size ∧ vn.ownBlock ≠ some q) ∧ w'.ownsRow w.heap.size 55 2 vn x.2.1.length (gfl (x.2.1.map ntc))) ∨ ∃ c q, r = .error (c, q) ∧ e = gup c q ∧ Below w.heap.size w w'
theorem meaning9_any (w : World) (v : Value) (b : List Nat) (hb : BSl w v b) (hT : Tabs w) (hbl : b.length ≤ 300000) (dp : Nat) (hd : dp ≤ 1024) (J : Nat) (hJ : b.length + 1 ≤ J) (hs : ∃ q', lskip b dp J (dp + 1) 0 0 = .ok q') : Calls Tryz.prog 15 #[v, .int .i64 (dp : Nat)] w (MeaP w (ltree b dp J (dp + 1) 0 0 [])) := by
  obtain ⟨LS, hLS⟩ : ∃ LS, LS = ltree b dp J (dp + 1) 0 0 [] := ⟨_, rfl⟩
  rw [← hLS]
  have HQ : Hid (∀ x ∈ b, x < 256) := hb.byte
  have HBB := hide hb
  obtain ⟨⟨a, cap, rfl, -, -⟩, -, -⟩ := hb
  obtain ⟨w1, hw1⟩ : ∃ w1, w1 = w.alloc (.cells #[.int .i64 0, .bool false, .bool false, .int .u64 0, .int .u64 0, .string ⟨#[]⟩, .slice none 0 0, .int .i64 0, .int .u64 0, .int .u64 0, .string ⟨#[]⟩, .slice none 0 0, .slice none 0 0] 41) := ⟨_, rfl⟩
  obtain ⟨w2, hw2⟩ : ∃ w2, w2 = w1.alloc (.cells #[.slice a b.length cap, .int .i64 0, .int .i64 (dp : Nat), .int .i64 0, .slice none 0 0] 60) := ⟨_, rfl⟩
  have hb1 : Below w.heap.size w w1 := hw1 ▸ below_alloc4 w _
  have hb2 : Below w1.heap.size w1 w2 := hw2 ▸ below_alloc4 w1 _
  have hz1 : w1.heap.size = w.heap.size + 1 := by rw [hw1]; simp
  have hg1 := heap_alloc_new w (.cells #[.int .i64 0, .bool false, .bool false, .int .u64 0, .int .u64 0, .string ⟨#[]⟩, .slice none 0 0, .int .i64 0, .int .u64 0, .int .u64 0, .string ⟨#[]⟩, .slice none 0 0, .slice none 0 0] 41)
  rw [← hw1] at hg1
  have hg2 := heap_alloc_new w1 (.cells #[.slice a b.length cap, .int .i64 0, .int .i64 (dp : Nat), .int .i64 0, .slice none 0 0] 60)
  rw [← hw2, hz1] at hg2
  have HR3 := hide ((hb2.block _ (blk_lt hg1)).trans hg1)
  have hb3 : Below w.heap.size w w2 := hb1.trans (hb2.mono hb1.size)
  have HB3 := hide hb3
  have HI3 : Hid (Itp w2 w.heap.size (w.heap.size + 1) (.slice a b.length cap) b dp 0 0 (.slice none 0 0) []) := by
    have hbs : ∀ wy, Kp (fun q => w.heap.size ≤ q) w2 wy → BSl wy (.slice a b.length cap) b := fun wy hy => HBB.out.move (keep_below (hb3.trans (hy.below hb3.size (fun q e => e))))
    exact ⟨⟨hg2, by show 4 ≤ 5; decide, rfl, rfl, fun wy hy => hbs wy (hy.mono (fun q _ e => by omega)), by omega, Nat.zero_le _, Nat.zero_le _, hd⟩, World.ownsRow_nil _ _ _ _, by omega, hbs⟩
  have HT3 : Hid (Vtb w.heap.size w2) := fun wy hy => hT.next (hb3.trans (hy.below hb3.size (fun q e => e)))
  have HCT := hide (tree9_any HQ.out (by omega) J hJ (dp + 1) 0 0 _ _ _ HI3.out HT3.out (Nat.zero_le _) (by omega) (by show 0 + 3 * (b.length - 0) ≤ _; omega) hs)
  rw [← hLS] at HCT
  clear hLS hb1 hb2 hz1 hg1 hg2 hb3 hT hbl hd hJ hs HT3
  go_enter Tryz.func15, Tryz.ntmps15
  go_upto_region 2 with fail
  rw [← hw1, ← hw2]
  clear hw1 hw2
  go_wp2_with fail
  refine HCT.out.mono ?_
  rintro e w4 (⟨x, vx, c, D, hx, rfl, h44, hN4, hD4⟩ | ⟨c, q9, hx, he', hk⟩)
  case inr =>
    as_aux_lemma =>
    have HLE : Hid (LS = .error (c, q9)) := hx
    have HKE : Hid (Below w.heap.size w w4) := HB3.out.trans (hk.below HB3.out.size (fun q e => by
      rcases e with e | e
      · omega
      · cases e))
    unfold gup at he'
    subst he'
    clear hk hx HCT
    go_wp2_with fail
    exact ⟨rfl, .inr ⟨c, q9, HLE.out, rfl, HKE.out⟩⟩
  obtain ⟨t, ms, q⟩ := x
  have HLE : Hid (LS = .ok (t, ms, q)) := hx
  have HI4 : Hid (Itg w2 w4 w.heap.size (w.heap.size + 1) (.slice a b.length cap) b dp q 0 (.slice none 0 0) vx ms) := h44
  have HB4 : Hid (Below w.heap.size w w4) := HB3.out.trans (h44.k.below HB3.out.size (fun q e => by
    rcases e with e | e
    · omega
    · cases e))
  have HR4 := hide (HI3.out.keptB HR3.out (by decide) h44.k)
  have HC13 := hide hN4.one
  have HN4 : Hid (Nos w4 w2.heap.size D t c) := hN4
  have HD4 := hide hD4
  have HZ2 : Hid (w.heap.size + 1 < w2.heap.size) := blk_lt HI3.out.r.blk
  clear hx h44 hN4 hD4 HCT HI3 HR3 HB3
  have HAZ := hide (heap_alloc_new w4 (.cells #[.int .i64 0, .bool false, .bool false, .int .u64 0, .int .u64 0, .string ⟨#[]⟩, .slice none 0 0, .int .i64 0, .int .u64 0, .int .u64 0, .string ⟨#[]⟩, .slice none 0 0, .slice none 0 0] 41))
  have HINF : Hid ((Tryz.prog.info? 41).map (·.size) = some c.size) := by show _ = _; rw [HC13.out.1]; exact infoV13
  have HCA : Hid (c.all (·.oneCell') = true) := Array.all_eq_true.2 (fun i h => HC13.out.2 _ (by simp))
  have HCS : Hid ((#[.int .i64 0, .bool false, .bool false, .int .u64 0, .int .u64 0, .string ⟨#[]⟩, .slice none 0 0, .int .i64 0, .int .u64 0, .int .u64 0, .string ⟨#[]⟩, .slice none 0 0, .slice none 0 0] : Array Value).size = c.size) := by show _ = _; rw [HC13.out.1]; rfl
  go_upto_region 3 with (refine wpList_storeRow rfl rfl w4.heap.size #[.int .i64 0, .bool false, .bool false, .int .u64 0, .int .u64 0, .string ⟨#[]⟩, .slice none 0 0, .int .i64 0, .int .u64 0, .int .u64 0, .string ⟨#[]⟩, .slice none 0 0, .slice none 0 0] c 41 rfl rfl HAZ.out HINF.out HCS.out HCA.out ?_)
  obtain ⟨a6, cap6, hvx, -⟩ := own_formG HI4.out.i.o
  subst hvx
  have hba := below_alloc4 w4 (.cells #[.int .i64 0, .bool false, .bool false, .int .u64 0, .int .u64 0, .string ⟨#[]⟩, .slice none 0 0, .int .i64 0, .int .u64 0, .int .u64 0, .string ⟨#[]⟩, .slice none 0 0, .slice none 0 0] 41)
  have hk5 : Kp (fun q => q = w4.heap.size) w4 ((w4.alloc (.cells #[.int .i64 0, .bool false, .bool false, .int .u64 0, .int .u64 0, .string ⟨#[]⟩, .slice none 0 0, .int .i64 0, .int .u64 0, .int .u64 0, .string ⟨#[]⟩, .slice none 0 0, .slice none 0 0] 41)).setRow w4.heap.size c) := ((Kp.of_below (S := fun _ => False) hba).mono (fun _ _ e => e.elim)).trans (row_kp _ _ _) (fun _ _ e => e)
  have HK5 := hide hk5
  have HT5 := hide (row_same (cs := c) HAZ.out)
  clear hba hk5 HAZ
  generalize (w4.alloc (.cells #[.int .i64 0, .bool false, .bool false, .int .u64 0, .int .u64 0, .string ⟨#[]⟩, .slice none 0 0, .int .i64 0, .int .u64 0, .int .u64 0, .string ⟨#[]⟩, .slice none 0 0, .slice none 0 0] 41)).setRow w4.heap.size c = w5 at *
  (try simp only [Act.put])
  have hR4 := blk_lt HR4.out
  have hg4 := blk_lt HI4.out.i.r.blk
  have hS : (w5.drew.heap[w4.heap.size]? = some (.cells c 41 (0, 0)) ∧ w5.drew.heap[w.heap.size + 1]? = some (.cells (rcl (itc (.slice a b.length cap) dp (.slice a6 ms.length cap6)) q 0) 60 (0, 0))) := ⟨HT5.out, (HK5.out.block _ hg4 (by omega)).trans HI4.out.i.r.blk⟩
  have HR6 : Hid (w5.drew.heap[w.heap.size]? = some (.cells #[.int .i64 0, .bool false, .bool false, .int .u64 0, .int .u64 0, .string ⟨#[]⟩, .slice none 0 0, .int .i64 0, .int .u64 0, .int .u64 0, .string ⟨#[]⟩, .slice none 0 0, .slice none 0 0] 41 (0, 0))) := (HK5.out.block _ hR4 (by omega)).trans HR4.out
  have HK6 : Hid (Kp (fun q => q = w4.heap.size) w4 w5.drew) := HK5.out.drew
  refine heldStart (S := fun wy => wy.heap[w4.heap.size]? = some (.cells c 41 (0, 0)) ∧ wy.heap[w.heap.size + 1]? = some (.cells (rcl (itc (.slice a b.length cap) dp (.slice a6 ms.length cap6)) q 0) 60 (0, 0))) (by kernel_rfl) ?_
  clear HT5 HK5 hR4
  generalize w5.drew = w6 at *
  refine heldTake 0 _ rfl (by kernel_rfl) (by kernel_rfl) (by kernel_rfl) (fun _ _ _ h => h) rfl hS (fun wy hy => exec_valAt (g := w4.heap.size) (off := 0) (cs := c) rfl rfl HC13.out.1 (fun j u hu => by rw [Nat.zero_add]; exact blk_cell hy.1 hu)) ?_
  (try simp only [Act.put]); (try simp only [LsA, Ls0, LsS])
  refine heldTake 1 _ rfl (by kernel_rfl) (by kernel_rfl) (by kernel_rfl) (fun _ _ _ h => h) rfl hS (fun wy hy => by first | (go_simp; done) | (go_simp; rfl) | rfl) ?_
  (try simp only [Act.put]); (try simp only [LsA, Ls0, LsS])
  refine heldTake 2 _ rfl (by kernel_rfl) (by kernel_rfl) (by kernel_rfl) (fun _ _ _ h => h) rfl hS (fun wy hy => by have hb : wy.cell? ⟨w.heap.size + 1, 4, none⟩ = some (.slice a6 ms.length cap6) := blk_cell (j := 4) hy.2 rfl; first | (go_simp; done) | (go_simp; rfl)) ?_
  (try simp only [Act.put]); (try simp only [LsA, Ls0, LsS])
  refine heldStep 3 rfl (by kernel_rfl) (fun K hK => ?_)
  have hkR := row_kp w6 w.heap.size c
  have hS3 : ((w6.setRow w.heap.size c).heap[w4.heap.size]? = some (.cells c 41 (0, 0)) ∧ (w6.setRow w.heap.size c).heap[w.heap.size + 1]? = some (.cells (rcl (itc (.slice a b.length cap) dp (.slice a6 ms.length cap6)) q 0) 60 (0, 0))) := ⟨(hkR.block _ (blk_lt hS.1) (by omega)).trans hS.1, (hkR.block _ (blk_lt hS.2) (by omega)).trans hS.2⟩
  refine step_storeRow rfl rfl w.heap.size #[.int .i64 0, .bool false, .bool false, .int .u64 0, .int .u64 0, .string ⟨#[]⟩, .slice none 0 0, .int .i64 0, .int .u64 0, .int .u64 0, .string ⟨#[]⟩, .slice none 0 0, .slice none 0 0] c 41 rfl rfl HR6.out HINF.out HCS.out HCA.out ?_
  refine (Hid.out hK) _ _ hS3 (fun hS4 => ?_)
  clear hK K hS hS3
  (try simp only [Act.put]); (try simp only [LsA, Ls0, LsS])
  refine heldTake 4 _ rfl (by kernel_rfl) (by kernel_rfl) (by kernel_rfl) (fun _ _ _ h => h) rfl hS4 (fun wy hy => by first | (go_simp; done) | (go_simp; rfl) | rfl) ?_
  (try simp only [Act.put]); (try simp only [LsA, Ls0, LsS])
  refine heldDone (by kernel_rfl) ?_
  have hk46 : Kp (fun q => q = w4.heap.size ∨ q = w.heap.size) w4 (w6.setRow w.heap.size c) := (HK6.out.mono (fun q _ e => .inl e)).trans hkR (fun q _ e => .inr e)
  have HFN : Hid (MeaP w LS (.returned (.tuple #[.agg c, .slice a6 ms.length cap6])) (w6.setRow w.heap.size c)) := by
    refine .inl ⟨_, c, _, D, HLE.out, rfl, HB4.out.trans (hk46.below HB4.out.size (fun q e => by rcases e with e | e <;> omega)), (HN4.out.kp hk46 (fun q e e2 => ?_)).base (by have := HZ2.out; omega), fun q e => ?_, hk46.owns HI4.out.i.o (fun q e e2 => ?_)⟩
    · have h1 := HD4.out q e
      have h2 := HZ2.out
      rcases e2 with e2 | e2 <;> omega
    · have h1 := HD4.out q e
      have h2 := HZ2.out
      have h3 := hk46.size
      exact ⟨by omega, by omega, h1.2.2⟩
    · have h1 := (HI4.out.i.o.lt q e).2
      rcases e2 with e2 | e2
      · omega
      · exact own_not HI4.out.i.o HR4.out (by decide) (e2 ▸ e)
  have HRF := hide (row_same (cs := c) HR6.out)
  clear hS4 hkR hk46 hg4
  go_wp2_with fail
  first
    | exact bodyPost_ret (end_m9 HC13.out.1 HRF.out rfl rfl) rfl HFN.out
    | (go_ret; exact HFN.out)
end
section
open Go.RowKit Go
theorem catchP9_panicking (R c q : Nat) (z : Array Value) (older : List PanicEntry) (w : World) (hr : w.heap[R]? = some (.cells z 31 (0, 0))) (hz : z.size = 2) :
    CallsD Tryz.prog 14 #[.pointer (some ⟨R, 0, none⟩)] (.panicking ({ v := .iface 31 (.agg #[.int .i64 (c : Nat), .int .i64 (q : Nat)]), recovered := false } :: older)) w fun e u' w' =>
      e = .returned (.tuple #[]) ∧ u' = .panicking ({ v := .iface 31 (.agg #[.int .i64 (c : Nat), .int .i64 (q : Nat)]), recovered := true } :: older) ∧ w'.heap[R]? = some (.cells #[.int .i64 (c : Nat), .int .i64 (q : Nat)] 31 (0, 0)) ∧ Kp (fun x => x = R) w w' := by
  refine callsD_of_wpS Tryz.func14 rfl fun c₀ cs hu => ?_
  apply wpS_region
  simp [wpOpsS, go_sem, recoverD, hu, Tryz.ntmps14]
  refine (faultOf9_some w c q).mono ?_
  rintro e w1 ⟨rfl, hb⟩
  have hr1 := (hb.block _ (blk_lt hr)).trans hr
  have hst : Sem.run Tryz.prog (storeCells ⟨R, 0, none⟩ [.int .i64 (c : Nat), .int .i64 (q : Nat)]) w1 = .ok () (w1.setRow R #[.int .i64 (c : Nat), .int .i64 (q : Nat)]) := row_store (cs := #[.int .i64 (c : Nat), .int .i64 (q : Nat)]) hr1 (by rw [hz]; rfl) (by simp [Value.oneCell'])
  have hk : Kp (fun x => x = R) w (w1.setRow R #[.int .i64 (c : Nat), .int .i64 (q : Nat)]) := ((Kp.of_below (S := fun _ => False) hb).mono (fun _ _ e => e.elim)).trans (row_kp _ _ _) (fun _ _ e => e)
  have hrr := row_same (cs := #[.int .i64 (c : Nat), .int .i64 (q : Nat)]) hr1
  dsimp only
  rw [if_pos (show (#[.int .i64 (c : Nat), .int .i64 (q : Nat)] : Array Value).size = 2 from rfl), hst]
  simp [bodyPostS, results, Tryz.results14, go_sem]
  exact ⟨hrr, hk⟩
theorem catchP9_idle (R : Nat) (z : Array Value) (w : World) (hr : w.heap[R]? = some (.cells z 31 (0, 0))) (hz : z.size = 2) :
    CallsD Tryz.prog 14 #[.pointer (some ⟨R, 0, none⟩)] .returning w fun e u' w' =>
      e = .returned (.tuple #[]) ∧ u' = .returning ∧ w'.heap[R]? = some (.cells #[.int .i64 0, .int .i64 0] 31 (0, 0)) ∧ Kp (fun x => x = R) w w' := by
  refine callsD_of_wpS Tryz.func14 rfl fun c₀ cs hu => ?_
  apply wpS_region
  simp [wpOpsS, go_sem, recoverD, hu, Tryz.ntmps14]
  refine (faultOf9_none w).mono ?_
  rintro e w1 ⟨rfl, hb⟩
  have hr1 := (hb.block _ (blk_lt hr)).trans hr
  have hst : Sem.run Tryz.prog (storeCells ⟨R, 0, none⟩ [.int .i64 0, .int .i64 0]) w1 = .ok () (w1.setRow R #[.int .i64 0, .int .i64 0]) := row_store (cs := #[.int .i64 0, .int .i64 0]) hr1 (by rw [hz]; rfl) (by simp [Value.oneCell'])
  have hk : Kp (fun x => x = R) w (w1.setRow R #[.int .i64 0, .int .i64 0]) := ((Kp.of_below (S := fun _ => False) hb).mono (fun _ _ e => e.elim)).trans (row_kp _ _ _) (fun _ _ e => e)
  have hrr := row_same (cs := #[.int .i64 0, .int .i64 0]) hr1
  dsimp only
  rw [if_pos (show (#[.int .i64 0, .int .i64 0] : Array Value).size = 2 from rfl), hst]
  simp [bodyPostS, results, Tryz.results14, go_sem]
  cases c₀
  simp_all
def lpars (b : List Nat) (d : Int) (J : Nat) : Lx (Tv × List (Nat × Nat)) := if lwhole b d J ≠ (0, 0) then .error (lwhole b d J) else lbind (ltree b d.toNat J (d.toNat + 1) 0 0 []) fun x => .ok (x.1, x.2.1)
theorem end_p9 {wx : World} {R F : Nat} {c f : Array Value} {n : Value} {tmps : Array Value} (hn : c.size = 13) (hf : f.size = 2) (hr : wx.heap[R]? = some (.cells c 41 (0, 0))) (hF : wx.heap[F]? = some (.cells f 31 (0, 0))) (hp : tmps.getD 4 undef = .pointer (some ⟨R, 0, none⟩)) (he : tmps.getD 5 undef = n) (hq : tmps.getD 6 undef = .pointer (some ⟨F, 0, none⟩)) : (results Tryz.f9 tmps).run Tryz.prog wx = .ok (.tuple #[.agg c, n, .agg f]) wx := by
  have h1 := run_loadVar_row (P := Tryz.prog) wx R 41 41 c (0, 0) _ hr Tryz.underlying41 rfl (by rw [hn]; exact infoV13)
  have h2 := run_loadVar_row (P := Tryz.prog) wx F 31 31 f (0, 0) _ hF Tryz.underlying31 rfl (by rw [hf]; exact infoFt)
  have h3 : Tryz.f9.results = #[.cell 4 41, .tmp 5, .cell 6 31] := rfl
  rw [Array.getD_eq_getD_getElem?] at hp he hq
  simp only [results, h3]
  simp [Sem.run_bind, Result.andThen, hp, he, hq, asAddr, h1, h2]
def ParP (w : World) (r : Lx (Tv × List (Nat × Nat))) (e : Ending) (w' : World) : Prop := Below w.heap.size w w' ∧ ((∃ x c vn D, r = .ok x ∧ e = .returned (.tuple #[.agg c, vn, flt9 (0, 0)]) ∧ Nos w' w.heap.size D x.1 c ∧ (∀ q, D q → w.heap.size ≤ q ∧ q < w'.heap.size ∧ vn.ownBlock ≠ some q) ∧ w'.ownsRow w.heap.size 55 2 vn x.2.length (gfl (x.2.map ntc))) ∨ ∃ f, r = .error f ∧ e = .returned (.tuple #[.agg vz9, .slice none 0 0, flt9 f]))
theorem whole_ok {b : List Nat} {d : Int} {J : Nat} (h : lwhole b d J = (0, 0)) (hr : ∀ k, d.toNat ≤ 1024 → ∀ c q, lskip b d.toNat J (d.toNat + 1) 0 0 = .error (c, q) → c ≠ 0 ∨ k = 0) : 0 ≤ d ∧ d ≤ 1024 ∧ ∃ q', lskip b d.toNat J (d.toNat + 1) 0 0 = .ok q' := by
  unfold lwhole at h
  split at h
  · cases h
  · rename_i hd
    refine ⟨by omega, by omega, ?_⟩
    cases hs : lskip b d.toNat J (d.toNat + 1) 0 0 with
    | ok q => exact ⟨q, rfl⟩
    | error e =>
      rw [hs] at h
      obtain ⟨c, q⟩ := e
      have h1 := hr 1 (by omega) c q hs
      injection h with h2 _
      omega
theorem parse9_any (w : World) (v : Value) (b : List Nat) (hb : BSl w v b) (hT : Tabs w) (hbl : b.length ≤ 300000) (d : Int) (hd : -9223372036854775808 ≤ d ∧ d ≤ 9223372036854775807) (J : Nat) (hJ : b.length + 1 ≤ J) : Calls Tryz.prog 9 #[v, .int .i64 d] w (ParP w (lpars b d J)) := by
  have hmf : ∀ (fn : Fn) (first cap : Array Value) (w : World), (Instr.makeFunc fn first cap).run Tryz.prog w = .ok (.func fn first cap) w := fun _ _ _ _ => rfl
  obtain ⟨LS, hLS⟩ : ∃ LS, LS = lpars b d J := ⟨_, rfl⟩
  rw [← hLS]
  obtain ⟨w1, hw1⟩ : ∃ w1, w1 = w.alloc (.cells #[.int .i64 0, .bool false, .bool false, .int .u64 0, .int .u64 0, .string ⟨#[]⟩, .slice none 0 0, .int .i64 0, .int .u64 0, .int .u64 0, .string ⟨#[]⟩, .slice none 0 0, .slice none 0 0] 41) := ⟨_, rfl⟩
  obtain ⟨w2, hw2⟩ : ∃ w2, w2 = w1.alloc (.cells #[.int .i64 0, .int .i64 0] 31) := ⟨_, rfl⟩
  have hb1 : Below w.heap.size w w1 := hw1 ▸ below_alloc4 w _
  have hb2 : Below w1.heap.size w1 w2 := hw2 ▸ below_alloc4 w1 _
  have hz1 : w1.heap.size = w.heap.size + 1 := by rw [hw1]; simp
  have hg1 := heap_alloc_new w (.cells #[.int .i64 0, .bool false, .bool false, .int .u64 0, .int .u64 0, .string ⟨#[]⟩, .slice none 0 0, .int .i64 0, .int .u64 0, .int .u64 0, .string ⟨#[]⟩, .slice none 0 0, .slice none 0 0] 41)
  rw [← hw1] at hg1
  have hg2 := heap_alloc_new w1 (.cells #[.int .i64 0, .int .i64 0] 31)
  rw [← hw2, hz1] at hg2
  have HF2 := hide hg2
  have HR2 := hide ((hb2.block _ (blk_lt hg1)).trans hg1)
  have HB2 : Hid (Below w.heap.size w w2) := hb1.trans (hb2.mono hb1.size)
  have HZ2 : Hid (w.heap.size + 1 < w2.heap.size) := blk_lt hg2
  have HBB := hide hb
  have HTT := hide hT
  have HCW := hide (fun w1 (h1 : BSl w1 v b) => checkWhole9_any w1 v b h1 (by omega) d hd J hJ)
  have HLW : Hid (lwhole b d J = (0, 0) → 0 ≤ d ∧ d ≤ 1024 ∧ ∃ q', lskip b d.toNat J (d.toNat + 1) 0 0 = .ok q') := fun h => whole_ok h (fun k h1 c q hs => .inl (by
    have h2 := (skip_ris b d.toNat J hJ (d.toNat + 1) 0 0 (Nat.zero_le _) (by omega) (Nat.zero_le _)).bad c q hs
    omega))
  have HLS : Hid (LS = if lwhole b d J ≠ (0, 0) then .error (lwhole b d J) else lbind (ltree b d.toNat J (d.toNat + 1) 0 0 []) fun x => .ok (x.1, x.2.1)) := hLS
  have HBL := hide hbl
  have HJJ := hide hJ
  generalize lwhole b d J = LW at *
  clear hb hbl hd hJ hLS hb1 hb2 hz1 hg1 hg2 hT
  go_enter_defers Tryz.func9, Tryz.ntmps9
  go_upto_region 2 with fail
  rw [← hw1, ← hw2]
  clear hw1 hw2
  go_wp2_with fail
  refine (HCW.out _ (HBB.out.move (keep_below HB2.out))).mono ?_
  rintro e w3 ⟨hb3, ⟨hr, rfl⟩ | ⟨hr, he⟩⟩
  case inr =>
    as_aux_lemma =>
    have HL3 : Hid (LS = .error LW) := by
      show _ = _
      rw [HLS.out, if_pos (fun e => hr (by rw [e]))]
    unfold gup at he
    subst he
    have HF3 := hide ((hb3.block _ (blk_lt HF2.out)).trans HF2.out)
    have HR3 := hide ((hb3.block _ (blk_lt HR2.out)).trans HR2.out)
    have HB3 : Hid (Below w.heap.size w w3) := HB2.out.trans (hb3.mono HB2.out.size)
    clear hb3 hr
    go_wp2_with fail
    refine leaves_cons (f := 14) (args := #[.pointer (some ⟨w.heap.size + 1, 0, none⟩)]) (by simp) (by simp [go_sem]) ?_
    refine (catchP9_panicking (w.heap.size + 1) LW.1 LW.2 _ [] _ HF3.out rfl).mono ?_
    rintro e u' w4 ⟨rfl, rfl, hr4, hk4⟩
    exact ⟨_, end_p9 rfl rfl ((hk4.block _ (blk_lt HR3.out) (by omega)).trans HR3.out) hr4 rfl rfl rfl, HB3.out.trans (hk4.below HB3.out.size (fun q e => by omega)), .inr ⟨LW, HL3.out, rfl⟩⟩
  subst hr
  obtain ⟨h0, h1024, hsk⟩ := HLW.out rfl
  obtain ⟨dp, rfl⟩ : ∃ dp : Nat, d = (dp : Int) := ⟨d.toNat, by omega⟩
  rw [Int.toNat_natCast] at hsk
  have HL3 : Hid (LS = lbind (ltree b dp J (dp + 1) 0 0 []) fun x => .ok (x.1, x.2.1)) := by
    show _ = _
    rw [HLS.out, if_neg (fun h => h rfl), Int.toNat_natCast]
  have HF3 := hide ((hb3.block _ (blk_lt HF2.out)).trans HF2.out)
  have HR3 := hide ((hb3.block _ (blk_lt HR2.out)).trans HR2.out)
  have HB3 : Hid (Below w.heap.size w w3) := HB2.out.trans (hb3.mono HB2.out.size)
  have HZ3 : Hid (w.heap.size + 1 < w3.heap.size) := by have h1 := HZ2.out; have h2 := hb3.size; show _ < _; omega
  have HCM := hide (meaning9_any w3 v b (HBB.out.move (keep_below HB3.out)) (HTT.out.next HB3.out) HBL.out dp (by omega) J HJJ.out hsk)
  clear hb3 hsk h0 h1024 HLW HLS HF2 HR2 HB2 HCW
  go_wp2_with fail
  refine HCM.out.mono ?_
  rintro e w4 (⟨x, c, vn, D, hx, rfl, hb4, hN4, hD4, ho4⟩ | ⟨c, q9, hx, he', hb4⟩)
  case inr =>
    as_aux_lemma =>
    rw [hx] at HL3
    have HL4 : Hid (LS = .error (c, q9)) := HL3.out
    unfold gup at he'
    subst he'
    have HF4 := hide ((hb4.block _ (blk_lt HF3.out)).trans HF3.out)
    have HR4 := hide ((hb4.block _ (blk_lt HR3.out)).trans HR3.out)
    have HB4 : Hid (Below w.heap.size w w4) := HB3.out.trans (hb4.mono HB3.out.size)
    clear hb4 hx HCM HF3 HR3 HB3
    go_wp2_with fail
    refine leaves_cons (f := 14) (args := #[.pointer (some ⟨w.heap.size + 1, 0, none⟩)]) (by simp) (by simp [go_sem]) ?_
    refine (catchP9_panicking (w.heap.size + 1) c q9 _ [] _ HF4.out rfl).mono ?_
    rintro e u' w5 ⟨rfl, rfl, hr5, hk5⟩
    exact ⟨_, end_p9 rfl rfl ((hk5.block _ (blk_lt HR4.out) (by omega)).trans HR4.out) hr5 rfl rfl rfl, HB4.out.trans (hk5.below HB4.out.size (fun q e => by omega)), .inr ⟨(c, q9), HL4.out, rfl⟩⟩
  rw [hx] at HL3
  obtain ⟨t, ms, q⟩ := x
  have HL4 : Hid (LS = .ok (t, ms)) := HL3.out
  have HF4 := hide ((hb4.block _ (blk_lt HF3.out)).trans HF3.out)
  have HR4 := hide ((hb4.block _ (blk_lt HR3.out)).trans HR3.out)
  have HB4 : Hid (Below w.heap.size w w4) := HB3.out.trans (hb4.mono HB3.out.size)
  have HC13 := hide hN4.one
  have HN4 : Hid (Nos w4 w3.heap.size D t c) := hN4
  have HO4 : Hid (w4.ownsRow w3.heap.size 55 2 vn ms.length (gfl (ms.map ntc))) := ho4
  have HD4 := hide hD4
  obtain ⟨a6, cap6, hvn, -⟩ := own_formG HO4.out
  subst hvn
  clear hx hb4 hN4 hD4 ho4 HCM HF3 HR3 HB3 HL3
  have HAZ := hide (heap_alloc_new w4 (.cells #[.int .i64 0, .bool false, .bool false, .int .u64 0, .int .u64 0, .string ⟨#[]⟩, .slice none 0 0, .int .i64 0, .int .u64 0, .int .u64 0, .string ⟨#[]⟩, .slice none 0 0, .slice none 0 0] 41))
  have HINF : Hid ((Tryz.prog.info? 41).map (·.size) = some c.size) := by show _ = _; rw [HC13.out.1]; exact infoV13
  have HCA : Hid (c.all (·.oneCell') = true) := Array.all_eq_true.2 (fun i h => HC13.out.2 _ (by simp))
  have HCS : Hid ((#[.int .i64 0, .bool false, .bool false, .int .u64 0, .int .u64 0, .string ⟨#[]⟩, .slice none 0 0, .int .i64 0, .int .u64 0, .int .u64 0, .string ⟨#[]⟩, .slice none 0 0, .slice none 0 0] : Array Value).size = c.size) := by show _ = _; rw [HC13.out.1]; rfl
  have hba := below_alloc4 w4 (.cells #[.int .i64 0, .bool false, .bool false, .int .u64 0, .int .u64 0, .string ⟨#[]⟩, .slice none 0 0, .int .i64 0, .int .u64 0, .int .u64 0, .string ⟨#[]⟩, .slice none 0 0, .slice none 0 0] 41)
  have HK5 : Hid (Kp (fun q => q = w4.heap.size) w4 ((w4.alloc (.cells #[.int .i64 0, .bool false, .bool false, .int .u64 0, .int .u64 0, .string ⟨#[]⟩, .slice none 0 0, .int .i64 0, .int .u64 0, .int .u64 0, .string ⟨#[]⟩, .slice none 0 0, .slice none 0 0] 41)).setRow w4.heap.size c)) := ((Kp.of_below (S := fun _ => False) hba).mono (fun _ _ e => e.elim)).trans (row_kp _ _ _) (fun _ _ e => e)
  have HT5 := hide (row_same (cs := c) HAZ.out)
  clear hba
  go_upto_region 4 with (refine wpList_storeRow rfl rfl w4.heap.size #[.int .i64 0, .bool false, .bool false, .int .u64 0, .int .u64 0, .string ⟨#[]⟩, .slice none 0 0, .int .i64 0, .int .u64 0, .int .u64 0, .string ⟨#[]⟩, .slice none 0 0, .slice none 0 0] c 41 rfl rfl HAZ.out HINF.out HCS.out HCA.out ?_)
  clear HAZ
  generalize (w4.alloc (.cells #[.int .i64 0, .bool false, .bool false, .int .u64 0, .int .u64 0, .string ⟨#[]⟩, .slice none 0 0, .int .i64 0, .int .u64 0, .int .u64 0, .string ⟨#[]⟩, .slice none 0 0, .slice none 0 0] 41)).setRow w4.heap.size c = w5 at *
  have HR5 := hide ((HK5.out.block _ (blk_lt HR4.out) (by have := blk_lt HR4.out; omega)).trans HR4.out)
  have HF5 := hide ((HK5.out.block _ (blk_lt HF4.out) (by have := blk_lt HF4.out; omega)).trans HF4.out)
  have HVC : Hid (∀ j u, c[j]? = some u → w5.cell? ⟨w4.heap.size, 0 + j, none⟩ = some u) := fun j u hu => by rw [Nat.zero_add]; exact blk_cell HT5.out hu
  have HAV : Hid (∀ w, (isAgg 41).run Tryz.prog w = .ok true w) := aggV9
  have HIF : Hid ((Tryz.prog.info? 31).map (·.size) = some (#[.int .i64 0, .int .i64 0] : Array Value).size) := infoFt
  have HAF : Hid ((#[.int .i64 0, .int .i64 0] : Array Value).all (·.oneCell') = true) := by show _ = _; simp [Value.oneCell']
  have hk6 := row_kp w5 w.heap.size c
  have HR6 := hide (row_same (cs := c) HR5.out)
  have HF6 := hide ((hk6.block _ (blk_lt HF5.out) (by omega)).trans HF5.out)
  have HK6 : Hid (Kp (fun q => q = w4.heap.size ∨ q = w.heap.size) w4 (w5.setRow w.heap.size c)) := (HK5.out.mono (fun q _ e => .inl e)).trans hk6 (fun q _ e => .inr e)
  clear hk6
  go_wp2_with (first
    | (refine wpList_aggAt rfl rfl HINF.out HAV.out w4.heap.size 0 c rfl rfl HVC.out ?_)
    | (refine wpList_storeRow rfl rfl w.heap.size #[.int .i64 0, .bool false, .bool false, .int .u64 0, .int .u64 0, .string ⟨#[]⟩, .slice none 0 0, .int .i64 0, .int .u64 0, .int .u64 0, .string ⟨#[]⟩, .slice none 0 0, .slice none 0 0] c 41 rfl rfl HR5.out HINF.out HCS.out HCA.out ?_)
    | (refine wpList_storeRow rfl rfl (w.heap.size + 1) #[.int .i64 0, .int .i64 0] #[.int .i64 0, .int .i64 0] 31 rfl rfl HF6.out HIF.out rfl HAF.out ?_))
  refine leaves_cons (f := 14) (args := #[.pointer (some ⟨w.heap.size + 1, 0, none⟩)]) (by simp) (by simp [go_sem]) ?_
  refine (catchP9_idle (w.heap.size + 1) _ _ (row_same HF6.out) rfl).mono ?_
  rintro e u' w7 ⟨rfl, rfl, hr7, hk7⟩
  have hk46 : Kp (fun q => q = w4.heap.size ∨ q = w.heap.size ∨ q = w.heap.size + 1) w4 w7 := ((HK6.out.mono (fun q _ e => by rcases e with e | e; exact .inl e; exact .inr (.inl e))).trans (row_kp _ _ _) (fun q _ e => .inr (.inr e))).trans hk7 (fun q _ e => .inr (.inr e))
  have hR7 : w7.heap[w.heap.size]? = some (.cells c 41 (0, 0)) := (hk7.block _ (Nat.lt_of_lt_of_le (blk_lt HR6.out) (row_kp _ _ _).size) (by omega)).trans (((row_kp _ (w.heap.size + 1) _).block _ (blk_lt HR6.out) (by omega)).trans HR6.out)
  have hB4 := HB4.out.size
  have hZ3 := HZ3.out
  refine ⟨_, end_p9 HC13.out.1 rfl hR7 hr7 rfl rfl rfl, HB4.out.trans (hk46.below HB4.out.size (fun q e => by rcases e with e | e | e <;> omega)), .inl ⟨_, c, _, D, HL4.out, rfl, (HN4.out.kp hk46 (fun q e e2 => ?_)).base (by omega), fun q e => ?_, own_rebase9 (hk46.owns HO4.out (fun q e e2 => ?_)) (by omega)⟩⟩
  · have h1 := HD4.out q e
    rcases e2 with e2 | e2 | e2 <;> omega
  · have h1 := HD4.out q e
    have h3 := hk46.size
    exact ⟨by omega, by omega, h1.2.2⟩
  · have h1 := HO4.out.lt q e
    rcases e2 with e2 | e2 | e2 <;> omega
end
section
open Go.RowKit Go
def rdb9 : List Nat := [159, 24, 1, 255]
def rdt9 : Tv := .mk 8 false false 0 0 ⟨#[]⟩ [] ⟨0, 0, 0, []⟩ [] [.mk 3 false false 1 0 ⟨#[]⟩ [] ⟨0, 0, 0, []⟩ [] []]
theorem rd_skip9 : lskip rdb9 1 5 2 0 0 = .ok 4 := by rfl
theorem rd_whole9 : lwhole rdb9 1 5 = (0, 0) := by rfl
theorem rd_short9 : lwhole [159, 24, 1] 1 4 = (92, 3) := by rfl
theorem rd_tree9 : ltree rdb9 1 5 2 0 0 [] = .ok (rdt9, [(0, 2), (1, 1)], 4) := by rfl
theorem rd_pars9 : lpars rdb9 1 5 = .ok (rdt9, [(0, 2), (1, 1)]) := by rfl
theorem pars_steady {b : List Nat} {d : Int} {J : Nat} (hJ : b.length + 1 ≤ J) : (lwhole b d J ≠ (0, 0) → lpars b d J = .error (lwhole b d J)) ∧ (lwhole b d J = (0, 0) → (∃ x, lpars b d J = .ok x) ∨ ∃ q, lpars b d J = .error (95, q) ∧ q < b.length) := by
  refine ⟨fun h => by unfold lpars; rw [if_pos h], fun h => ?_⟩
  obtain ⟨h0, h1, q', hs⟩ := whole_ok h (fun k h1 c q hs => .inl (by
    have h2 := (skip_ris b d.toNat J hJ (d.toNat + 1) 0 0 (Nat.zero_le _) (by omega) (Nat.zero_le _)).bad c q hs
    omega))
  have hf := tree_fol hJ (d.toNat + 1) 0 0 q' [] (Nat.zero_le _) (by omega) (Nat.zero_le _) hs
  unfold lpars
  rw [if_neg (fun e => e h)]
  cases ht : ltree b d.toNat J (d.toNat + 1) 0 0 [] with
  | ok x => exact .inl ⟨_, rfl⟩
  | error e =>
    obtain ⟨c, q⟩ := e
    obtain ⟨e1, e2⟩ := hf.bad c q ht
    subst e1
    exact .inr ⟨q, rfl, e2⟩
end
end Go.Proofs.YtmcamdcgnegmmaaGreatDoor
