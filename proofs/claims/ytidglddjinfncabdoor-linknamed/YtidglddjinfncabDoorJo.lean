import Derived.Test.YtidglddjinfncabDoorJn
import Derived.LaidLaws
import Derived.Handed
import Derived.Lib.LaidTab
import Derived.Test.YtidglddjinfncabDoorTie
import Derived.Test.YtidglddjinfncabDoorCards
import Derived.ProofKit
namespace Go.Proofs.YtidglddjinfncabDoor
section
open Go.RowKit Go
theorem cells_of {w : World} {d : Nat} {l : List Value} {t : TypeId} (h : w.heap[d]? = some (.cells l.toArray t (0, 0))) : w.rangeAt d 0 l := fun j v hv => by
  rw [Nat.zero_add]
  exact blk_cell h (by rw [List.getElem?_toArray]; exact hv)
theorem bslD_of {w : World} {d : Nat} {D : List Nat} {t : TypeId} (h : w.heap[d]? = some (.cells (bv D).toArray t (0, 0))) (hb : ∀ x ∈ D, x < 256) (hl : D.length = 32) : BSl w (.slice (some ⟨d, 0, none⟩) 32 32) D := by
  have h2 := bsl_block h hb (by rw [hl]; decide)
  rw [hl] at h2
  exact h2
theorem exec_text {o : Oper} {a : Act} {x : Operand} {xs : List Nat} {w : World} {v : Value} (ho : o.op = .convert 30 9 x) (hx : a.eval x = v) (h : BSl w v xs) : (execOp a.eval o).run Tryd.prog w = .ok (.value (.string (nstr xs))) w := by
  unfold execOp
  simp only [ho, Sem.run_bind, hx, h.text, Result.andThen_ok]
  rfl
theorem exec_loadLk {o : Oper} {a : Act} {p : Operand} {g : Nat} {cs : Array Value} {w : World} (ho : o.op = .load 33 p) (hp : a.eval p = .pointer (some ⟨g, 0, none⟩)) (hn : cs.size = 4) (hg : w.heap[g]? = some (.cells cs 33 (0, 0))) : (execOp a.eval o).run Tryd.prog w = .ok (.value (.agg cs)) w := by
  unfold execOp
  have hr : (Instr.loadAt 33 (.pointer (some ⟨g, 0, none⟩))).run Tryd.prog w = .ok (.agg cs) w := by
    simp only [Instr.loadAt, Instr.sureAddr, Sem.run_bind, Sem.run_pure, Result.andThen]
    exact run_loadVar_row (P := Tryd.prog) w g 33 33 cs (0, 0) _ hg Tryd.underlying33 rfl (by rw [hn]; exact info61)
  simp only [ho, Sem.run_bind, hp, hr, Result.andThen_ok]
  rfl
/-- What LinkNamed has in hand. -/
structure Nn (w wx : World) (cs : Array Value) (gl : Nat) (cl : Array Value) : Prop where
  x : Lks w wx cs
  l : wx.heap[gl]? = some (.cells cl 33 (0, 0))
  g : w.heap.size < gl
theorem Nn.below {w wx wy : World} {cs : Array Value} {gl : Nat} {cl : Array Value} (h : Nn w wx cs gl cl) (hb : Below wx.heap.size wx wy) : Nn w wy cs gl cl := ⟨h.x.below hb, (hb.block _ (blk_lt h.l)).trans h.l, h.g⟩
theorem bv_set2 (l : List Nat) (j x : Nat) : (bv l).set j (.int .u8 ((x : Nat) : Int)) = bv (l.set j x) := by simp [bv, List.map_set]
theorem flip_bit (q j : Nat) (hq : q < 256) (hj : j < 8) : ∃ z : Nat, bits .xor .u8 (q : Int) (2 ^ j % 256) = (z : Int) ∧ z < 256 ∧ z ≠ q := by
  have h2 : 2 ^ j < 256 := by
    have : 2 ^ j ≤ 2 ^ 7 := Nat.pow_le_pow_right (by decide) (by omega)
    have e : 2 ^ 7 = 128 := rfl
    omega
  have e : (2 : Int) ^ j % 256 = ((2 ^ j : Nat) : Int) := by
    rw [Int.emod_eq_of_lt (Int.pow_nonneg (by decide))]
    · rw [Int.natCast_pow]; rfl
    · have : ((2 ^ j : Nat) : Int) < 256 := by omega
      rw [Int.natCast_pow] at this
      exact this
  refine ⟨q ^^^ 2 ^ j, by rw [e, u8_xor_nat _ _ hq h2], Nat.xor_lt_two_pow (n := 8) hq h2, fun h => ?_⟩
  have h3 : q ^^^ 2 ^ j ^^^ q = 0 := by rw [h, Nat.xor_self]
  rw [Nat.xor_comm, ← Nat.xor_assoc, Nat.xor_self, Nat.zero_xor] at h3
  have : 0 < 2 ^ j := Nat.pow_pos (by decide)
  omega
theorem set_ne {D : List Nat} {k z q : Nat} (hk : k < D.length) (hq : D.getD k 0 = q) (hz : z ≠ q) : D.set k z ≠ D := fun e => hz (by
  have h2 := congrArg (fun l => l.getD k 0) e
  have h3 : (D.set k z).getD k 0 = z := by rw [List.getD_eq_getElem?_getD, List.getElem?_set_self hk, Option.getD_some]
  rw [← h3, ← hq]
  exact h2)
theorem mod256 (i : Nat) : (i : Int) % 256 = ((i % 256 : Nat) : Int) := by omega
theorem own_ok {xs : List Nat} : lok ⟨1, 85, 0, xs⟩ ↔ xs.length ≤ 64 := by
  constructor
  · rintro (⟨h, _⟩ | ⟨_, _, h | h⟩)
    · exact absurd (show (1 : Int) = 0 from h) (by decide)
    · exact absurd (show (0 : Nat) = 18 from h.1) (by decide)
    · exact h.2
  · exact fun h => .inr ⟨rfl, (by decide : 85 < 9223372036854775808), .inr ⟨rfl, h⟩⟩
theorem own_holds {xs ys : List Nat} : (decide (lok ⟨1, 85, 0, xs⟩) && dholds 0 xs ys) = (decide (xs.length ≤ 64) && decide (xs = ys)) := by
  unfold dholds
  by_cases h : xs.length ≤ 64
  · have h1 : lok ⟨1, 85, 0, xs⟩ := own_ok.2 h
    simp [h, h1]
  · have h1 : ¬ lok ⟨1, 85, 0, xs⟩ := fun e => h (own_ok.1 e)
    simp [h, h1]
theorem Lks.kp {w wx wy : World} {c : Array Value} {gx : Nat} (h : Lks w wx c) (hk : Kp (fun q => q = gx) wx wy) (h3 : w.heap.size < gx) (hp : 0 < w.heap.size) : Lks w wy c :=
  ⟨(hk.block _ (blk_lt h.t) (by omega)).trans h.t, h.b.trans (hk.below h.b.size (fun q e => by omega)), h.c.kp hk (fun e => by omega)⟩

set_option maxRecDepth 1000000 in
set_option maxHeartbeats 4000000 in
theorem named_any (w : World) (v0 v1 v3 v4 : Value) (aB : Option Addr) (nB cB : Nat) (hcb : Cb w) (hB : RowsIn w (.slice aB nB cB) nB) :
    Calls Tryd.prog 3 #[.agg #[v0, v1, .slice aB nB cB, v3, v4]] w fun e w' => e = .returned (.bool true) ∧ Below w.heap.size w w' := by
  have HX0 := hide (Lks.start #[v0, v1, .slice aB nB cB, v3, v4] hcb)
  have HB := hide hB
  have hmx := hB.max
  have HPW := hide hcb.pos
  clear hcb hB
  go_enter Tryd.func3, Tryd.ntmps3
  go_wp2_with fail
  generalize w.alloc (.cells #[v0, v1, .slice aB nB cB, v3, v4] 28) = w0 at *
  refine (begun4_any w0 HX0.out.c).mono ?_
  rintro e w1 ⟨rfl, hb1⟩
  have HX1 := hide (HX0.out.below hb1)
  clear hb1 HX0
  go_wp2_with fail
  go_loopw [3, 4] (fun aa ii wx => ∃ i al : Nat, i ≤ 1000 ∧ al ≤ 262144 ∧ aa = .int .i64 (al : Nat) ∧ ii = .int .i64 (i : Nat) ∧ Hid (Lks w wx #[v0, v1, .slice aB nB cB, v3, v4])) (fun _ ii _ => 1000 - (intOf ii).toNat)
  case atStart => exact ⟨0, 0, by omega, by omega, rfl, rfl, HX1⟩
  case round =>
    obtain ⟨i, al, hi, hal, rfl, rfl, HX⟩ := hrel
    clear HX1
    have q0 : wr.cell? ⟨w.heap.size, 2, none⟩ = some (.slice aB nB cB) := blk_cell HX.out.t rfl
    by_cases hil : i < nB ∧ i < 1000
    · obtain ⟨hil, hi60⟩ := hil
      have g1 : (i : Int) < (nB : Int) := by omega
      have g2 : (i : Int) < 1000 := by omega
      obtain ⟨a', cap', hv, _, hform⟩ := HB.out.form
      injection hv with e1 e2 e3
      subst e1
      obtain ⟨b, off, rfl, hcells⟩ := hform.resolve_left (by omega)
      obtain ⟨u, xs, hcu, hbu, hxl⟩ := hcells i hil
      have HCU := hide hcu
      have HU0 := hide hbu
      have HXL := hide hxl
      have cu : wr.cell? ⟨b, off + i, none⟩ = some u := keep_below HX.out.b _ _ hcu
      obtain ⟨⟨au, cau, hu, hnu, hcau⟩, hmu, hbyu⟩ := hbu
      subst hu
      clear hform hcells hcu hnu hcau hbyu e2 e3
      by_cases hsz : 262144 < al + xs.length
      · as_aux_lemma =>
        have g3 : (262144 : Int) < (al : Int) + (xs.length : Int) := by omega
        go_wp2_with fail
        refine (begun4_any wr HX.out.c).mono ?_
        rintro e w9 ⟨rfl, hb9⟩
        have HB9 := hide (HX.out.below hb9).b
        clear hb9
        go_wp2_with fail
        go_ret
        exact ⟨rfl, HB9.out⟩
      · have g3 : ¬ (262144 : Int) < (al : Int) + (xs.length : Int) := by omega
        have hx6 : xs.length ≤ 262144 := by omega
        go_wp2_with fail
        have g4 : 0 ≤ (al : Int) + (xs.length : Int) := by omega
        have g5 : (al : Int) + (xs.length : Int) ≤ 262144 := by omega
        have HAL : Hid ((al : Int) + (xs.length : Int) = ((al + xs.length : Nat) : Int)) := by show _ = _; omega
        refine (copy_any wr _ xs (HU0.out.move (keep_below HX.out.b)) HXL.out).mono ?_
        rintro e y1 ⟨vc, rfl, hoc, hbc⟩
        have HXa := hide (HX.out.below hbc)
        have HVC := hide (BSl.own hoc HU0.out.byte)
        clear hoc hbc HX q0 cu
        go_wp2_with fail
        refine (of_any y1 113 vc xs HXa.out.c HVC.out HXL.out).mono ?_
        rintro e y2 ⟨rfl, hb2⟩
        have HXb := hide (HXa.out.below hb2)
        clear hb2 HXa HVC
        have HL : Hid (lof 113 xs = (⟨1, 113, 18, sha xs⟩, 0)) := rfl
        rw [HL.out]
        have HSL := hide (sha_len xs)
        have HSB := hide (sha_byte xs)
        have HI := hide (info32d xs)
        have HON := hide (one32 xs)
        have HDH : Hid (∀ d ys, dholds 18 d ys = decide (d = sha ys)) := by intro d ys; simp [dholds]
        have HSM : Hid (∀ wx v, Cb wx → BSl wx v xs → Calls Tryd.prog 7 #[v] wx fun e w' => e = .returned (.agg (bv (sha xs)).toArray) ∧ Below wx.heap.size wx w') := fun wx v h1 h2 => sum_any wx v xs h1 h2 HXL.out
        have HDX := hide (HDH.out (sha xs) xs)
        rw [decide_eq_true rfl] at HDX
        have HSX : Hid (sha xs = sha xs) := rfl
        generalize hD : sha xs = D at *
        have HD := hide hD
        clear hD HSX
        have HLB : Hid (Lkb ⟨1, 113, 18, D⟩) := ⟨by show 113 < _; decide, by show 18 < _; decide, HSB.out, by show D.length ≤ _; rw [HSL.out]; decide⟩
        have HLO : Hid (lok ⟨1, 113, 18, D⟩) := .inr ⟨rfl, by show 113 < _; decide, .inl ⟨rfl, HSL.out⟩⟩
        have HHT : Hid (∀ wx v, Cb wx → BSl wx v xs → Calls Tryd.prog 9 #[.agg (lcs ⟨1, 113, 18, D⟩), v] wx fun e w' => e = .returned (.bool true) ∧ Below wx.heap.size wx w') := by
          intro wx v h1 h2
          have h := holds4_any wx ⟨1, 113, 18, D⟩ v xs h1 HLB.out h2 HXL.out
          rw [decide_eq_true HLO.out, Bool.true_and] at h
          simp only [HDX.out] at h
          exact h
        have HHC : Hid (∀ wx v ys, Cb wx → BSl wx v ys → ys.length ≤ 140737488351232 → Calls Tryd.prog 9 #[.agg (lcs ⟨1, 113, 18, D⟩), v] wx fun e w' => e = .returned (.bool (decide (D = sha ys))) ∧ Below wx.heap.size wx w') := by
          intro wx v ys h1 h2 h3
          have h := holds4_any wx ⟨1, 113, 18, D⟩ v ys h1 HLB.out h2 h3
          rw [decide_eq_true HLO.out, Bool.true_and] at h
          simp only [HDH.out] at h
          exact h
        have HEQ : Hid (∀ wx, (Op.equalIn 10000 33 (.agg (lcs ⟨1, 113, 18, D⟩)) (.agg #[.int .i64 1, .int .u64 113, .int .u64 18, .string (nstr D)])).run Tryd.prog wx = .ok true wx) := fun wx => by
          have h := eqlk wx (a := ⟨1, 113, 18, D⟩) (b := ⟨1, 113, 18, D⟩) HSB.out HSB.out
          rw [decide_eq_true rfl] at h
          exact h
        have HEM : Hid (∀ wx D2, (∀ x ∈ D2, x < 256) → (Op.equalIn 10000 33 (.agg (lcs ⟨1, 113, 18, D⟩)) (.agg (lcs ⟨1, 113, 18, D2⟩))).run Tryd.prog wx = .ok (decide (D = D2)) wx) := fun wx D2 h2 => by
          have h := eqlk wx (a := ⟨1, 113, 18, D⟩) (b := ⟨1, 113, 18, D2⟩) HSB.out h2
          have e : decide ((⟨1, 113, 18, D⟩ : Lk) = ⟨1, 113, 18, D2⟩) = decide (D = D2) := by simp
          rw [e] at h
          exact h
        have HLV : Hid (lkv ⟨1, 113, 18, D⟩ = .agg (lcs ⟨1, 113, 18, D⟩)) := rfl
        have HLN : Hid ((lcs ⟨1, 113, 18, D⟩).size = 4) := rfl
        have HLA : Hid ((lcs ⟨1, 113, 18, D⟩).all (·.oneCell') = true) := by show _ = _; kernel_rfl
        have HN3 : Hid (Nn w (y2.alloc (.cells (lcs ⟨1, 113, 18, D⟩) 33)) #[v0, v1, .slice (some ⟨b, off, none⟩) nB cB, v3, v4] y2.heap.size (lcs ⟨1, 113, 18, D⟩)) := ⟨HXb.out.below (below_alloc4 y2 _), heap_alloc_new y2 _, by have := blk_lt HXb.out.t; omega⟩
        clear HXb
        simp only [lkv]
        have HLC : Hid (lcs ⟨1, 113, 18, D⟩ = #[.int .i64 1, .int .u64 113, .int .u64 18, .string (nstr D)]) := rfl
        rw [HLC.out] at HN3
        go_wp2_with fail
        generalize y2.alloc (.cells #[.int .i64 1, .int .u64 113, .int .u64 18, .string (nstr D)] 33) = y3 at *
        generalize y2.heap.size = gl at *
        rw [← HLC.out] at HN3
        clear HLC
        generalize lcs ⟨1, 113, 18, D⟩ = cl at *
        refine (copy_any y3 _ xs (HU0.out.move (keep_below HN3.out.x.b)) HXL.out).mono ?_
        rintro e y4 ⟨vc2, rfl, hoc, hbc⟩
        have HN4 := hide (HN3.out.below hbc)
        have HVC := hide (BSl.own hoc HU0.out.byte)
        clear hoc hbc HN3
        go_wp2_with fail
        refine (HSM.out _ _ HN4.out.x.c HVC.out).mono ?_
        rintro e y5 ⟨rfl, hb5⟩
        have HN5 := hide (HN4.out.below hb5)
        clear hb5 HVC HN4
        go_wp2_with (refine wpList_storeRow rfl rfl y5.heap.size _ (bv D).toArray 38 rfl rfl (heap_alloc_new y5 _) HI.out (by simp [bv_len, HSL.out]) HON.out ?_; rw [World.setRow_alloc_new])
        have HD6 : Hid ((y5.alloc (.cells (bv D).toArray 38)).heap[y5.heap.size]? = some (.cells (bv D).toArray 38 (0, 0))) := heap_alloc_new y5 _
        have HN6 := hide (HN5.out.below (below_alloc4 y5 (.cells (bv D).toArray 38)))
        clear HN5
        generalize y5.alloc (.cells (bv D).toArray 38) = y6 at *
        generalize y5.heap.size = dd at *
        refine heldStart (S := fun w' => Nn w w' #[v0, v1, .slice (some ⟨b, off, none⟩) nB cB, v3, v4] gl cl ∧ w'.heap[dd]? = some (.cells (bv D).toArray 38 (0, 0))) (by kernel_rfl) ?_
        have hS : Nn w y6.drew #[v0, v1, .slice (some ⟨b, off, none⟩) nB cB, v3, v4] gl cl ∧ y6.drew.heap[dd]? = some (.cells (bv D).toArray 38 (0, 0)) := ⟨HN6.out.below ((Below.refl _ _).drew), HD6.out⟩
        clear HN6 HD6
        refine heldTake 0 _ rfl (by kernel_rfl) (by kernel_rfl) (by kernel_rfl) (fun _ _ _ h => h) rfl hS (fun wy hy => by first | (go_simp; done) | (go_simp; rfl) | rfl) ?_
        (try simp only [Act.put]); (try simp only [List.setIfInBounds_toArray, List.set_cons_zero, List.set_cons_succ])
        refine heldStep 1 rfl (by kernel_rfl) (fun K hK => ?_)
        go_simp
        refine (num4_any _ _).mono ?_
        rintro e wn ⟨rfl, hwn⟩
        subst hwn
        refine (Hid.out hK) _ _ hS (fun hS2 => ?_)
        clear hK K hS
        have hS := hS2
        clear hS2
        (try simp only [Act.put]); (try simp only [List.setIfInBounds_toArray, List.set_cons_zero, List.set_cons_succ])
        refine heldTake 2 _ rfl (by kernel_rfl) (by kernel_rfl) (by kernel_rfl) (fun _ _ _ h => h) rfl hS (fun wy hy => by first | (go_simp; done) | (go_simp; rfl) | rfl) ?_
        (try simp only [Act.put]); (try simp only [List.setIfInBounds_toArray, List.set_cons_zero, List.set_cons_succ])
        refine heldTake 3 _ rfl (by kernel_rfl) (by kernel_rfl) (by kernel_rfl) (fun _ _ _ h => h) rfl hS (fun wy hy => by first | (go_simp; done) | (go_simp; rfl) | rfl) ?_
        (try simp only [Act.put]); (try simp only [List.setIfInBounds_toArray, List.set_cons_zero, List.set_cons_succ])
        refine heldTake 4 _ rfl (by kernel_rfl) (by kernel_rfl) (by kernel_rfl) (fun _ _ _ h => h) rfl hS (fun wy hy => exec_loadLk rfl rfl HLN.out hy.1.l) ?_
        (try simp only [Act.put]); (try simp only [List.setIfInBounds_toArray, List.set_cons_zero, List.set_cons_succ])
        refine heldTake 5 _ rfl (by kernel_rfl) (by kernel_rfl) (by kernel_rfl) (fun _ _ _ h => h) rfl hS (fun wy hy => by first | (go_simp; done) | (go_simp; rfl) | rfl) ?_
        (try simp only [Act.put]); (try simp only [List.setIfInBounds_toArray, List.set_cons_zero, List.set_cons_succ])
        refine heldTake 6 _ rfl (by kernel_rfl) (by kernel_rfl) (by kernel_rfl) (fun _ _ _ h => h) rfl hS (fun wy hy => exec_text rfl rfl (bslD_of hy.2 HSB.out HSL.out)) ?_
        (try simp only [Act.put]); (try simp only [List.setIfInBounds_toArray, List.set_cons_zero, List.set_cons_succ])
        refine heldTake 7 _ rfl (by kernel_rfl) (by kernel_rfl) (by kernel_rfl) (fun _ _ _ h => h) rfl hS (fun wy hy => by first | (go_simp; done) | (go_simp; rfl) | rfl) ?_
        (try simp only [Act.put]); (try simp only [List.setIfInBounds_toArray, List.set_cons_zero, List.set_cons_succ])
        refine heldTake 8 _ rfl (by kernel_rfl) (by kernel_rfl) (by kernel_rfl) (fun _ _ _ h => h) rfl hS (fun wy hy => exec_nelk rfl rfl rfl (HEQ.out wy)) ?_
        (try simp only [Act.put]); (try simp only [List.setIfInBounds_toArray, List.set_cons_zero, List.set_cons_succ])
        refine heldTake 9 _ rfl (by kernel_rfl) (by kernel_rfl) (by kernel_rfl) (fun _ _ _ h => h) rfl hS (fun wy hy => by first | (go_simp; done) | (go_simp; rfl) | rfl) ?_
        (try simp only [Act.put]); (try simp only [List.setIfInBounds_toArray, List.set_cons_zero, List.set_cons_succ])
        refine heldTake 10 _ rfl (by kernel_rfl) (by kernel_rfl) (by kernel_rfl) (fun _ _ _ h => h) rfl hS (fun wy hy => by first | (go_simp; done) | (go_simp; rfl) | rfl) ?_
        (try simp only [Act.put]); (try simp only [List.setIfInBounds_toArray, List.set_cons_zero, List.set_cons_succ])
        refine heldTake 11 _ rfl (by kernel_rfl) (by kernel_rfl) (by kernel_rfl) (fun _ _ _ h => h) rfl hS (fun wy hy => exec_loadLk rfl rfl HLN.out hy.1.l) ?_
        (try simp only [Act.put]); (try simp only [List.setIfInBounds_toArray, List.set_cons_zero, List.set_cons_succ])
        refine heldTake 12 _ rfl (by kernel_rfl) (by kernel_rfl) (by kernel_rfl) (fun _ _ _ h => h) rfl hS (fun wy hy => by first | (go_simp; done) | (go_simp; rfl) | rfl) ?_
        (try simp only [Act.put]); (try simp only [List.setIfInBounds_toArray, List.set_cons_zero, List.set_cons_succ])
        refine heldStep 13 rfl (by kernel_rfl) (fun K hK => ?_)
        go_simp
        refine (copy_any _ _ xs (HU0.out.move (keep_below hS.1.x.b)) HXL.out).mono ?_
        rintro e wn ⟨vd, rfl, hod, hbn⟩
        have HC1 := hide (BSl.own hod HU0.out.byte)
        clear hod
        refine (Hid.out hK) _ _ (⟨hS.1.below hbn, (hbn.block _ (blk_lt hS.2)).trans hS.2⟩) (fun hS2 => ?_)
        clear hK K hS
        have hS := hS2
        clear hS2
        (try simp only [Act.put]); (try simp only [List.setIfInBounds_toArray, List.set_cons_zero, List.set_cons_succ])
        clear hbn
        refine heldStep 14 rfl (by kernel_rfl) (fun K hK => ?_)
        go_simp
        refine (HHT.out _ _ hS.1.x.c HC1.out).mono ?_
        rintro e wn ⟨rfl, hbn⟩
        refine (Hid.out hK) _ _ (⟨hS.1.below hbn, (hbn.block _ (blk_lt hS.2)).trans hS.2⟩) (fun hS2 => ?_)
        clear hK K hS
        have hS := hS2
        clear hS2
        (try simp only [Act.put]); (try simp only [List.setIfInBounds_toArray, List.set_cons_zero, List.set_cons_succ])
        clear hbn
        refine heldTake 15 _ rfl (by kernel_rfl) (by kernel_rfl) (by kernel_rfl) (fun _ _ _ h => h) rfl hS (fun wy hy => by first | (go_simp; done) | (go_simp; rfl) | rfl) ?_
        (try simp only [Act.put]); (try simp only [List.setIfInBounds_toArray, List.set_cons_zero, List.set_cons_succ])
        refine heldTake 16 _ rfl (by kernel_rfl) (by kernel_rfl) (by kernel_rfl) (fun _ _ _ h => h) rfl hS (fun wy hy => by first | (go_simp; done) | (go_simp; rfl) | rfl) ?_
        (try simp only [Act.put]); (try simp only [List.setIfInBounds_toArray, List.set_cons_zero, List.set_cons_succ])
        refine heldDone (by kernel_rfl) ?_
        have HN7 := hide hS.1
        clear hS
        go_wp2_with fail
        refine (copy_any _ _ xs (HU0.out.move (keep_below HN7.out.x.b)) HXL.out).mono ?_
        rintro e y8 ⟨vc3, rfl, hoc, hbc⟩
        have HN8 := hide (HN7.out.below hbc)
        have HGL : Hid (gl < wn.heap.size) := blk_lt HN7.out.l
        have HWN : Hid (w.heap.size < wn.heap.size) := blk_lt HN7.out.x.t
        clear HN7 hbc HSM HHT
        generalize wn.heap.size = wns at *
        obtain ⟨ac3, cc3, hv3, hq1, hq2, hq3⟩ := own_form hoc
        subst hv3
        by_cases hx0 : 0 < xs.length
        case' pos =>
          have hmod : i % xs.length < xs.length := Nat.mod_lt _ hx0
          obtain ⟨gx, rfl, _⟩ := hq3 0 _ (bv_get (xs := xs) (j := 0) hx0)
          have HGX : Hid (wns ≤ gx) := (hoc.lt gx rfl).1
          have cq := own_cell hoc (bv_get (xs := xs) (j := i % xs.length) hmod)
          have c8 := cq.1
          have f8 := cq.2
          have hq8 := getD_lt HU0.out.byte (i % xs.length)
          have HSN := hide (fun z q h1 h2 => set_ne (D := xs) (k := i % xs.length) (z := z) (q := q) hmod h1 h2)
          have htm : (i : Int).tmod (xs.length : Int) = ((i % xs.length : Nat) : Int) := by rw [Int.tmod_eq_emod_of_nonneg (by omega)]; omega
          have ht8 : (i : Int).tmod 8 = ((i % 8 : Nat) : Int) := by rw [Int.tmod_eq_emod_of_nonneg (by omega)]; omega
          have hml : ((i % xs.length : Nat) : Int) < (xs.length : Int) := by omega
          have hm8i : ((i % 8 : Nat) : Int) < 8 := by omega
          have gx0 : (0 : Int) < (xs.length : Int) := by omega
          have gxe : xs ≠ [] := fun h => by rw [h] at hx0; simp at hx0
          have HO8 := hide hoc
          clear cq hq3 hoc hq2 hmod
          generalize hqe : xs.getD (i % xs.length) 0 = q at *
          have HQE := hide hqe
          clear hqe
          generalize i % xs.length = im at *
          generalize i % 8 = i8 at *
          go_wp2_with fail
          refine wp_region_still_tail 18 (by kernel_rfl) (by kernel_rfl) ?_
          simp only [List.take_succ_cons, List.take_zero, List.drop_succ_cons, List.drop_zero]
          have c9 : y8.drew.cell? ⟨gx, im, none⟩ = some (.int .u8 (q : Int)) := c8
          have f9 : y8.drew.frozen? ⟨gx, im, none⟩ = false := f8
          repeat (
            refine wpStill_step (fun K hK => ?_)
            go_simp
            (refine hK _ ?_; clear hK K))
          refine wpStill_nil ?_
          go_wp2_with fail
          obtain ⟨z, hz, hz8, hzn⟩ := flip_bit q (min i8 8) hq8 (by omega)
          rw [hz]
          have HYN : Hid (xs ≠ xs.set im z) := fun e => HSN.out z q rfl hzn e.symm
          have HNw : Hid (Nn w (y8.setCell ⟨gx, im, none⟩ (.int .u8 ((z : Nat) : Int))).drew #[v0, v1, .slice (some ⟨b, off, none⟩) nB cB, v3, v4] gl cl) := by
            have h1 := HGL.out
            have h2 := HWN.out
            have h3 := HGX.out
            have hk : Kp (fun q => q = gx) y8 (y8.setCell ⟨gx, im, none⟩ (.int .u8 ((z : Nat) : Int))) := (Kp.refl (fun q => q = gx) y8).setCell _ _ (fun _ => rfl)
            exact Nn.below ⟨HN8.out.x.kp hk (by omega) HPW.out, (hk.block _ (blk_lt HN8.out.l) (by omega)).trans HN8.out.l, HN8.out.g⟩ ((Below.refl _ _).drew)
          have HY : Hid (BSl (y8.setCell ⟨gx, im, none⟩ (.int .u8 ((z : Nat) : Int))).drew (.slice (some ⟨gx, 0, none⟩) xs.length cc3) (xs.set im z)) := by
            have h := own_set (j := im) (.int .u8 ((z : Nat) : Int)) HO8.out
            rw [bv_set2] at h
            refine (BSl.own h ?_).move (fun _ _ h => h)
            intro x hx
            rcases List.mem_or_eq_of_mem_set hx with hx | hx
            · exact HU0.out.byte x hx
            · rw [hx]; exact hz8
          have HYL : Hid ((xs.set im z).length ≤ 140737488351232) := by show _ ≤ _; rw [List.length_set]; exact HXL.out
          clear HO8 HN8 c8 f8 c9 f9 hq8 hz hz8 hzn htm ht8 hml hm8i gxe HSN HQE HGX
          generalize (y8.setCell ⟨gx, im, none⟩ (.int .u8 ((z : Nat) : Int))).drew = yw at *
          generalize xs.set im z = ys at *
          generalize Value.slice (some ⟨gx, 0, none⟩) xs.length cc3 = vy at *
        case' neg =>
          have gx0 : ¬ (0 : Int) < (xs.length : Int) := by omega
          clear hq1 hq2 hq3 hoc
          go_wp2_with fail
          have HYN : Hid (xs ≠ [i % 256]) := fun e => by rw [e] at hx0; simp at hx0
          have HNw := hide (HN8.out.below (below_alloc4 y8 (.cells #[.int .u8 ((i : Int) % 256)] 5)))
          have HY : Hid (BSl (y8.alloc (.cells #[.int .u8 ((i : Int) % 256)] 5)) (.slice (some ⟨y8.heap.size, 0, none⟩) 1 1) [i % 256]) := by
            rw [mod256]
            exact bsl_block (xs := [i % 256]) (heap_alloc_new y8 _) (by intro x hx; simp only [List.mem_singleton] at hx; omega) (by simp)
          have HYL : Hid ([i % 256].length ≤ 140737488351232) := by show _ ≤ _; simp
          clear HN8
          generalize y8.alloc (.cells #[.int .u8 ((i : Int) % 256)] 5) = yw at *
          generalize [i % 256] = ys at *
          generalize Value.slice (some ⟨y8.heap.size, 0, none⟩) 1 1 = vy at *
        all_goals (
          refine (copy_any yw vy ys HY.out HYL.out).mono ?_
          rintro e y9 ⟨vz, rfl, hoc, hbc⟩
          have HN9 := hide (HNw.out.below hbc)
          have HVC := hide (BSl.own hoc HY.out.byte)
          have HY9 := hide (HY.out.move (keep_below hbc))
          clear hoc hbc HNw HY
          go_wp2_with fail
          refine (of_any y9 113 vz ys HN9.out.x.c HVC.out HYL.out).mono ?_
          rintro e z1 ⟨rfl, hb1⟩
          have HNz := hide (HN9.out.below hb1)
          have HYz := hide (HY9.out.move (keep_below hb1))
          have HLz : Hid (lof 113 ys = (⟨1, 113, 18, sha ys⟩, 0)) := rfl
          rw [HLz.out]
          have HEz := hide (fun wx => HEM.out wx (sha ys) (sha_byte ys))
          have HHz := hide (fun wx v h1 h2 => HHC.out wx v ys h1 h2 HYL.out)
          clear hb1 HN9 HVC HY9 HLz
          generalize decide (D = sha ys) = bb at *
          generalize sha ys = D2 at *
          have HNa := hide (HNz.out.below (below_alloc4 z1 (.cells #[.int .i64 1, .int .u64 113, .int .u64 18, .string (nstr D2)] 33)))
          have HMa : Hid ((z1.alloc (.cells #[.int .i64 1, .int .u64 113, .int .u64 18, .string (nstr D2)] 33)).heap[z1.heap.size]? = some (.cells #[.int .i64 1, .int .u64 113, .int .u64 18, .string (nstr D2)] 33 (0, 0))) := heap_alloc_new z1 _
          have HYa := hide (HYz.out.move (keep_below (below_alloc4 z1 (.cells #[.int .i64 1, .int .u64 113, .int .u64 18, .string (nstr D2)] 33))))
          have HLC : Hid (lcs ⟨1, 113, 18, D2⟩ = #[.int .i64 1, .int .u64 113, .int .u64 18, .string (nstr D2)]) := rfl
          simp only [lkv]
          clear HNz HYz
          go_wp2_with fail
          generalize z1.alloc (.cells #[.int .i64 1, .int .u64 113, .int .u64 18, .string (nstr D2)] 33) = z2 at *
          generalize z1.heap.size = gm at *
          rw [← HLC.out] at HMa
          have HMN : Hid ((lcs ⟨1, 113, 18, D2⟩).size = 4) := rfl
          clear HLC
          generalize lcs ⟨1, 113, 18, D2⟩ = cm at *
          refine heldStart (S := fun w' => Nn w w' #[v0, v1, .slice (some ⟨b, off, none⟩) nB cB, v3, v4] gl cl ∧ BSl w' vy ys ∧ w'.heap[gm]? = some (.cells cm 33 (0, 0))) (by kernel_rfl) ?_
          have hS : Nn w z2.drew #[v0, v1, .slice (some ⟨b, off, none⟩) nB cB, v3, v4] gl cl ∧ BSl z2.drew vy ys ∧ z2.drew.heap[gm]? = some (.cells cm 33 (0, 0)) := ⟨HNa.out.below ((Below.refl _ _).drew), HYa.out.move (fun _ _ h => h), HMa.out⟩
          clear HNa HMa HYa
          refine heldTake 0 _ rfl (by kernel_rfl) (by kernel_rfl) (by kernel_rfl) (fun _ _ _ h => h) rfl hS (fun wy hy => by first | (go_simp; done) | (go_simp; rfl) | rfl) ?_
          (try simp only [Act.put]); (try simp only [List.setIfInBounds_toArray, List.set_cons_zero, List.set_cons_succ])
          refine heldStep 1 rfl (by kernel_rfl) (fun K hK => ?_)
          go_simp
          refine (num4_any _ _).mono ?_
          rintro e wn ⟨rfl, hwn⟩
          subst hwn
          refine (Hid.out hK) _ _ hS (fun hS2 => ?_)
          clear hK K hS
          have hS := hS2
          clear hS2
          (try simp only [Act.put]); (try simp only [List.setIfInBounds_toArray, List.set_cons_zero, List.set_cons_succ])
          refine heldTake 2 _ rfl (by kernel_rfl) (by kernel_rfl) (by kernel_rfl) (fun _ _ _ h => h) rfl hS (fun wy hy => by first | (go_simp; done) | (go_simp; rfl) | rfl) ?_
          (try simp only [Act.put]); (try simp only [List.setIfInBounds_toArray, List.set_cons_zero, List.set_cons_succ])
          refine heldTake 3 _ rfl (by kernel_rfl) (by kernel_rfl) (by kernel_rfl) (fun _ _ _ h => h) rfl hS (fun wy hy => by first | (go_simp; done) | (go_simp; rfl) | rfl) ?_
          (try simp only [Act.put]); (try simp only [List.setIfInBounds_toArray, List.set_cons_zero, List.set_cons_succ])
          refine heldTake 4 _ rfl (by kernel_rfl) (by kernel_rfl) (by kernel_rfl) (fun _ _ _ h => h) rfl hS (fun wy hy => exec_loadLk rfl rfl HLN.out hy.1.l) ?_
          (try simp only [Act.put]); (try simp only [List.setIfInBounds_toArray, List.set_cons_zero, List.set_cons_succ])
          refine heldTake 5 _ rfl (by kernel_rfl) (by kernel_rfl) (by kernel_rfl) (fun _ _ _ h => h) rfl hS (fun wy hy => by first | (go_simp; done) | (go_simp; rfl) | rfl) ?_
          (try simp only [Act.put]); (try simp only [List.setIfInBounds_toArray, List.set_cons_zero, List.set_cons_succ])
          refine heldTake 8 _ rfl (by kernel_rfl) (by kernel_rfl) (by kernel_rfl) (fun _ _ _ h => h) rfl hS (fun wy hy => exec_loadLk rfl rfl HLN.out hy.1.l) ?_
          (try simp only [Act.put]); (try simp only [List.setIfInBounds_toArray, List.set_cons_zero, List.set_cons_succ])
          refine heldTake 9 _ rfl (by kernel_rfl) (by kernel_rfl) (by kernel_rfl) (fun _ _ _ h => h) rfl hS (fun wy hy => exec_loadLk rfl rfl HMN.out hy.2.2) ?_
          (try simp only [Act.put]); (try simp only [List.setIfInBounds_toArray, List.set_cons_zero, List.set_cons_succ])
          refine heldTake 10 _ rfl (by kernel_rfl) (by kernel_rfl) (by kernel_rfl) (fun _ _ _ h => h) rfl hS (fun wy hy => exec_eqlk rfl rfl rfl (HEz.out wy)) ?_
          (try simp only [Act.put]); (try simp only [List.setIfInBounds_toArray, List.set_cons_zero, List.set_cons_succ])
          refine heldStep 6 rfl (by kernel_rfl) (fun K hK => ?_)
          go_simp
          refine (copy_any _ _ ys hS.2.1 HYL.out).mono ?_
          rintro e wn ⟨vd, rfl, hod, hbn⟩
          have HC1 := hide (BSl.own hod hS.2.1.byte)
          clear hod
          refine (Hid.out hK) _ _ (⟨hS.1.below hbn, hS.2.1.move (keep_below hbn), (hbn.block _ (blk_lt hS.2.2)).trans hS.2.2⟩) (fun hS2 => ?_)
          clear hK K hS
          have hS := hS2
          clear hS2
          (try simp only [Act.put]); (try simp only [List.setIfInBounds_toArray, List.set_cons_zero, List.set_cons_succ])
          clear hbn
          refine heldStep 7 rfl (by kernel_rfl) (fun K hK => ?_)
          go_simp
          refine (HHz.out _ _ hS.1.x.c HC1.out).mono ?_
          rintro e wn ⟨rfl, hbn⟩
          refine (Hid.out hK) _ _ (⟨hS.1.below hbn, hS.2.1.move (keep_below hbn), (hbn.block _ (blk_lt hS.2.2)).trans hS.2.2⟩) (fun hS2 => ?_)
          clear hK K hS
          have hS := hS2
          clear hS2
          (try simp only [Act.put]); (try simp only [List.setIfInBounds_toArray, List.set_cons_zero, List.set_cons_succ])
          clear hbn
          refine heldTake 11 _ rfl (by kernel_rfl) (by kernel_rfl) (by kernel_rfl) (fun _ _ _ h => h) rfl hS (fun wy hy => by first | (go_simp; done) | (go_simp; rfl) | rfl) ?_
          (try simp only [Act.put]); (try simp only [List.setIfInBounds_toArray, List.set_cons_zero, List.set_cons_succ])
          refine heldTake 12 _ rfl (by kernel_rfl) (by kernel_rfl) (by kernel_rfl) (fun _ _ _ h => h) rfl hS (fun wy hy => by first | (go_simp; done) | (go_simp; rfl) | rfl) ?_
          (try simp only [Act.put]); (try simp only [List.setIfInBounds_toArray, List.set_cons_zero, List.set_cons_succ])
          refine heldDone (by kernel_rfl) ?_
          have HNb := hide hS.1
          have HYb := hide hS.2.1
          clear hS HEz HHz HMN HC1
          have cv := (HU0.out.move (keep_below HNb.out.x.b)).text
          have HLX : Hid (Lkb ⟨1, 85, 0, xs⟩) := ⟨by show 85 < _; decide, by show 0 < _; decide, HU0.out.byte, by show xs.length ≤ _; omega⟩
          have HW1 : Hid (∀ wx v, Cb wx → BSl wx v xs → Calls Tryd.prog 9 #[.agg (lcs ⟨1, 85, 0, xs⟩), v] wx fun e w' => e = .returned (.bool (decide (xs.length ≤ 64))) ∧ Below wx.heap.size wx w') := by
            intro wx v h1 h2
            have h := holds4_any wx ⟨1, 85, 0, xs⟩ v xs h1 HLX.out h2 HXL.out
            simp only at h
            rw [own_holds, decide_eq_true rfl, Bool.and_true] at h
            exact h
          have HW2 : Hid (∀ wx v, Cb wx → BSl wx v ys → Calls Tryd.prog 9 #[.agg (lcs ⟨1, 85, 0, xs⟩), v] wx fun e w' => e = .returned (.bool false) ∧ Below wx.heap.size wx w') := by
            intro wx v h1 h2
            have h := holds4_any wx ⟨1, 85, 0, xs⟩ v ys h1 HLX.out h2 HYL.out
            simp only at h
            rw [own_holds, decide_eq_false HYN.out, Bool.and_false] at h
            exact h
          have HNc := hide (HNb.out.below (below_alloc4 wn (.cells #[.int .i64 1, .int .u64 85, .int .u64 0, .string (nstr xs)] 33)))
          have HYc := hide (HYb.out.move (keep_below (below_alloc4 wn (.cells #[.int .i64 1, .int .u64 85, .int .u64 0, .string (nstr xs)] 33))))
          have HOc : Hid ((wn.alloc (.cells #[.int .i64 1, .int .u64 85, .int .u64 0, .string (nstr xs)] 33)).heap[wn.heap.size]? = some (.cells #[.int .i64 1, .int .u64 85, .int .u64 0, .string (nstr xs)] 33 (0, 0))) := heap_alloc_new wn _
          have HLC : Hid (lcs ⟨1, 85, 0, xs⟩ = #[.int .i64 1, .int .u64 85, .int .u64 0, .string (nstr xs)]) := rfl
          have HON2 : Hid ((lcs ⟨1, 85, 0, xs⟩).size = 4) := rfl
          clear HNb HYb
          go_wp2_with fail
          clear cv
          generalize wn.alloc (.cells #[.int .i64 1, .int .u64 85, .int .u64 0, .string (nstr xs)] 33) = z3 at *
          generalize wn.heap.size = go at *
          rw [← HLC.out] at HOc
          clear HLC
          generalize lcs ⟨1, 85, 0, xs⟩ = co at *
          refine heldStart (S := fun w' => Nn w w' #[v0, v1, .slice (some ⟨b, off, none⟩) nB cB, v3, v4] gl cl ∧ BSl w' vy ys ∧ w'.heap[go]? = some (.cells co 33 (0, 0))) (by kernel_rfl) ?_
          have hS : Nn w z3.drew #[v0, v1, .slice (some ⟨b, off, none⟩) nB cB, v3, v4] gl cl ∧ BSl z3.drew vy ys ∧ z3.drew.heap[go]? = some (.cells co 33 (0, 0)) := ⟨HNc.out.below ((Below.refl _ _).drew), HYc.out.move (fun _ _ h => h), HOc.out⟩
          clear HNc HOc HYc
          have h64 : ∃ t : Bool, Hid (decide (xs.length ≤ 64) = t) ∧ ((t = true ∧ (xs.length : Int) ≤ 64) ∨ (t = false ∧ ¬ (xs.length : Int) ≤ 64)) := by
            by_cases h : xs.length ≤ 64
            · exact ⟨true, decide_eq_true h, .inl ⟨rfl, by omega⟩⟩
            · exact ⟨false, decide_eq_false h, .inr ⟨rfl, by omega⟩⟩
          obtain ⟨t64, HT, h64⟩ := h64
          rw [HT.out] at HW1
          clear HT
          rcases h64 with ⟨rfl, h64⟩ | ⟨rfl, h64⟩
          all_goals (
            refine heldTake 0 _ rfl (by kernel_rfl) (by kernel_rfl) (by kernel_rfl) (fun _ _ _ h => h) rfl hS (fun wy hy => exec_loadLk rfl rfl HON2.out hy.2.2) ?_
            (try simp only [Act.put]); (try simp only [List.setIfInBounds_toArray, List.set_cons_zero, List.set_cons_succ])
            refine heldTake 1 _ rfl (by kernel_rfl) (by kernel_rfl) (by kernel_rfl) (fun _ _ _ h => h) rfl hS (fun wy hy => by first | (go_simp; done) | (go_simp; rfl) | rfl) ?_
            (try simp only [Act.put]); (try simp only [List.setIfInBounds_toArray, List.set_cons_zero, List.set_cons_succ])
            refine heldTake 4 _ rfl (by kernel_rfl) (by kernel_rfl) (by kernel_rfl) (fun _ _ _ h => h) rfl hS (fun wy hy => by first | (go_simp; done) | (go_simp; rfl) | rfl) ?_
            (try simp only [Act.put]); (try simp only [List.setIfInBounds_toArray, List.set_cons_zero, List.set_cons_succ])
            refine heldTake 5 _ rfl (by kernel_rfl) (by kernel_rfl) (by kernel_rfl) (fun _ _ _ h => h) rfl hS (fun wy hy => by first | (go_simp; done) | (go_simp; rfl) | rfl) ?_
            (try simp only [Act.put]); (try simp only [List.setIfInBounds_toArray, List.set_cons_zero, List.set_cons_succ])
            refine heldTake 6 _ rfl (by kernel_rfl) (by kernel_rfl) (by kernel_rfl) (fun _ _ _ h => h) rfl hS (fun wy hy => by first | (go_simp; done) | (go_simp; rfl) | rfl) ?_
            (try simp only [Act.put]); (try simp only [List.setIfInBounds_toArray, List.set_cons_zero, List.set_cons_succ])
            refine heldStep 2 rfl (by kernel_rfl) (fun K hK => ?_)
            go_simp
            refine (copy_any _ _ xs (HU0.out.move (keep_below hS.1.x.b)) HXL.out).mono ?_
            rintro e wm ⟨vd2, rfl, hod, hbn⟩
            have HC1 := hide (BSl.own hod HU0.out.byte)
            clear hod
            refine (Hid.out hK) _ _ (⟨hS.1.below hbn, hS.2.1.move (keep_below hbn), (hbn.block _ (blk_lt hS.2.2)).trans hS.2.2⟩) (fun hS2 => ?_)
            clear hK K hS
            have hS := hS2
            clear hS2
            (try simp only [Act.put]); (try simp only [List.setIfInBounds_toArray, List.set_cons_zero, List.set_cons_succ])
            clear hbn
            refine heldStep 3 rfl (by kernel_rfl) (fun K hK => ?_)
            go_simp
            refine (HW1.out _ _ hS.1.x.c HC1.out).mono ?_
            rintro e wm2 ⟨rfl, hbn⟩
            refine (Hid.out hK) _ _ (⟨hS.1.below hbn, hS.2.1.move (keep_below hbn), (hbn.block _ (blk_lt hS.2.2)).trans hS.2.2⟩) (fun hS2 => ?_)
            clear hK K hS
            have hS := hS2
            clear hS2
            (try simp only [Act.put]); (try simp only [List.setIfInBounds_toArray, List.set_cons_zero, List.set_cons_succ])
            clear hbn HC1
            refine heldTake 7 _ rfl (by kernel_rfl) (by kernel_rfl) (by kernel_rfl) (fun _ _ _ h => h) rfl hS (fun wy hy => by first | (go_simp; done) | (go_simp; rfl) | rfl) ?_
            (try simp only [Act.put]); (try simp only [List.setIfInBounds_toArray, List.set_cons_zero, List.set_cons_succ])
            refine heldTake 8 _ rfl (by kernel_rfl) (by kernel_rfl) (by kernel_rfl) (fun _ _ _ h => h) rfl hS (fun wy hy => by first | (go_simp; done) | (go_simp; rfl) | rfl) ?_
            (try simp only [Act.put]); (try simp only [List.setIfInBounds_toArray, List.set_cons_zero, List.set_cons_succ])
            refine heldTake 9 _ rfl (by kernel_rfl) (by kernel_rfl) (by kernel_rfl) (fun _ _ _ h => h) rfl hS (fun wy hy => exec_loadLk rfl rfl HON2.out hy.2.2) ?_
            (try simp only [Act.put]); (try simp only [List.setIfInBounds_toArray, List.set_cons_zero, List.set_cons_succ])
            refine heldTake 10 _ rfl (by kernel_rfl) (by kernel_rfl) (by kernel_rfl) (fun _ _ _ h => h) rfl hS (fun wy hy => by first | (go_simp; done) | (go_simp; rfl) | rfl) ?_
            (try simp only [Act.put]); (try simp only [List.setIfInBounds_toArray, List.set_cons_zero, List.set_cons_succ])
            refine heldStep 11 rfl (by kernel_rfl) (fun K hK => ?_)
            go_simp
            refine (copy_any _ _ ys hS.2.1 HYL.out).mono ?_
            rintro e wm3 ⟨vd3, rfl, hod, hbn⟩
            have HC1 := hide (BSl.own hod hS.2.1.byte)
            clear hod
            refine (Hid.out hK) _ _ (⟨hS.1.below hbn, hS.2.1.move (keep_below hbn), (hbn.block _ (blk_lt hS.2.2)).trans hS.2.2⟩) (fun hS2 => ?_)
            clear hK K hS
            have hS := hS2
            clear hS2
            (try simp only [Act.put]); (try simp only [List.setIfInBounds_toArray, List.set_cons_zero, List.set_cons_succ])
            clear hbn
            refine heldStep 12 rfl (by kernel_rfl) (fun K hK => ?_)
            go_simp
            refine (HW2.out _ _ hS.1.x.c HC1.out).mono ?_
            rintro e wm4 ⟨rfl, hbn⟩
            refine (Hid.out hK) _ _ (⟨hS.1.below hbn, hS.2.1.move (keep_below hbn), (hbn.block _ (blk_lt hS.2.2)).trans hS.2.2⟩) (fun hS2 => ?_)
            clear hK K hS
            have hS := hS2
            clear hS2
            (try simp only [Act.put]); (try simp only [List.setIfInBounds_toArray, List.set_cons_zero, List.set_cons_succ])
            clear hbn
            refine heldTake 13 _ rfl (by kernel_rfl) (by kernel_rfl) (by kernel_rfl) (fun _ _ _ h => h) rfl hS (fun wy hy => by first | (go_simp; done) | (go_simp; rfl) | rfl) ?_
            (try simp only [Act.put]); (try simp only [List.setIfInBounds_toArray, List.set_cons_zero, List.set_cons_succ])
            refine heldDone (by kernel_rfl) ?_
            have HNd := hide hS.1
            clear hS HW1 HW2
            go_wp2_with fail
            go_roundw
            case rel => exact ⟨i + 1, al + xs.length, by omega, by omega, by rw [HAL.out], by go_num, HNd.out.x⟩
            case measure => simp [intOf]; omega))
    · have g34 : ((i : Int) < (nB : Int) ∧ ¬ (i : Int) < 1000) ∨ ¬ (i : Int) < (nB : Int) := by omega
      clear hil
      rcases g34 with ⟨g3, g4⟩ | g3
      all_goals (
        go_wp2_with fail
        refine (begun4_any wr HX.out.c).mono ?_
        rintro e w9 ⟨rfl, hb9⟩
        have HB9 := hide (HX.out.below hb9).b
        clear hb9
        go_wp2_with fail
        go_ret
        exact ⟨rfl, HB9.out⟩)
end
section
open Go.ChangeShapes Go.WideShapes Go.ChangeAt Go.RowKit Go
/-- What the rows lay. -/
def kki : List Int := kk.map fun n => ((n : Nat) : Int)
theorem cbN : Tryd.prog.globalNamed "trellis/digest.cubes" = some 0 := by kernel_rfl
theorem cbT : (Tryd.prog.globals[0]?).map (·.type) = some 92 := by kernel_rfl
theorem cellsU32 : Tryd.prog.cellsOf 73 = 1 := by kernel_rfl
theorem cells64 : Tryd.prog.cellsOf 92 = 64 := by kernel_rfl
theorem cb_of_laid {W : World} (h : laidMet Tryd.prog [("trellis/digest.cubes", Rows.laid_trellis_digest_cubes)] W) : Cb W := by
  have h' : laidMet Tryd.prog (("trellis/digest.cubes", Lib.tabData .u32 kki) :: []) W := h
  have t := Lib.tabIs_of_head cbN cbT Tryd.underlying92 Tryd.underlying73 cellsU32 cells64 h'
  refine ⟨fun i hi => ?_⟩
  have hc := t.cell cbN i (by rw [kki, List.length_map]; exact hi)
  rw [hc]
  congr 2
  simp only [kki, List.getD_eq_getElem?_getD, List.getElem?_map]
  have hl : i < kk.length := hi
  rw [List.getElem?_eq_getElem hl]
  rfl
/-- The settled world, the table laid. -/
noncomputable def laidWorld (os : Os) : World :=
  let w0 := World.holding Tryd.prog os ⟨#[], #[], []⟩
  { w0 with heap := w0.heap.modify 0 fun
      | .cells _ t frozen => .cells (wv kk).toArray t frozen
      | o => o }
theorem laid_met (os : Os) (args : Array Value) : laidMet Tryd.prog [("trellis/digest.cubes", Rows.laid_trellis_digest_cubes)] ((laidWorld os).forCall (fun _ _ => 0) ⟨#[], args, []⟩).memory :=
  laidMet_of_run' 8 (by kernel_rfl) (by kernel_rfl)
end
section
open Go.ChangeShapes Go.WideShapes Go.ChangeAt Go.RowKit Go.Deep Go.Joins Go
theorem Tryd.cellsLinks : Tryd.prog.cellsOf 28 = 5 := by kernel_rfl
set_option maxRecDepth 1000000 in
/-- The argument opened. -/
theorem links_arg {H : Type} {enc : TypeId × Value → H} {W : World} {base : Nat} {r : Reach} {b0 : Nat} {held : Bool} {v0 : Value} {d0 : DataW H} {p : List MemPlace} (hv : Value.okWide Tryd.prog W r b0 28 v0)
    (h0 : DataW.Trod enc Tryd.prog W base (fun _ => true) held 28 v0 d0 p) (hsz : (d0.weights Tryd.prog 28).all (· ≤ reachBytes) = true) :
    ∃ aL nL cL v1 aB nB cB aS nS cS v4, v0 = .agg #[.slice aL nL cL, v1, .slice aB nB cB, .slice aS nS cS, v4] ∧ LinksIn W (.slice aL nL cL) nL ∧ RowsIn W (.slice aB nB cB) nB ∧ StrsIn W (.slice aS nS cS) nS := by
  obtain ⟨c0, c1, c2, c3, c4, y0, y1, y2, y3, y4, m, rfl, hd, hy0, hy1, hy2, hy3, hy4⟩ := open_agg5 Tryd.underlying28 (by kernel_rfl) Tryd.cellsLinks hv h0
  subst hd
  have hs2 : (DataW.weightsEach Tryd.prog [22, 23, 24, 25, 26] [y0.1, y1.1, y2.1, y3.1, y4.1]).all (· ≤ reachBytes) = true := by
    simp only [DataW.weights, Tryd.underlying28] at hsz
    exact hsz
  obtain ⟨nL, hL⟩ := links_open hy0
  obtain ⟨nB, hB⟩ := rows_open hy2 hs2 (j := 2) rfl rfl
  obtain ⟨nS, hS⟩ := strs_open hy3
  obtain ⟨aL, cL, rfl, _⟩ := id hL.form
  obtain ⟨aB, cB, rfl, _⟩ := id hB.form
  obtain ⟨aS, cS, rfl, _⟩ := id hS.form
  exact ⟨aL, nL, cL, c1, aB, nB, cB, aS, nS, cS, c4, rfl, hL, hB, hS⟩
end
section
open Go.ChangeShapes Go.WideShapes Go.ChangeAt Go.RowKit Go.Deep Go.Joins
set_option maxRecDepth 100000 in
theorem lnamed_lifted (os : Os) (started : os.Started) (H : Type) (enc : TypeId × Value → H) :
    ReturnsInHanded {} Tryd.checked os 3 .any (fun w args => (Rows.linkNamedSpec.pre enc Tryd.prog Tryd.f3 Rows.linkNamedRow.domain false w args ∧ laidMet Tryd.prog Rows.linkNamedRow.laid w) ∧ sizedMet enc Tryd.prog Tryd.f3 (OpenSpec.ofChange Rows.linkNamedSpec) false w args)
      (Rows.linkNamedSpec.post enc Tryd.prog Tryd.f3 false true false false) := by
  refine returnsInHanded_of_change_and (C := Tryd.checked) (X := fun w _ => laidMet Tryd.prog Rows.linkNamedRow.laid w) (fun _ _ _ hh h => h.of_heap hh) Tryd.own started (by kernel_rfl) Tryd.func3
    (ChangeSpec.witness_at (enc := enc) (C := Tryd.checked) (os := os) (X := fun w _ => laidMet Tryd.prog Rows.linkNamedRow.laid w) false (laidWorld os) #[.agg #[.slice none 0 0, .slice none 0 0, .slice none 0 0, .slice none 0 0, .slice none 0 0]] 8 rfl (by kernel_rfl) (by kernel_rfl) (by kernel_rfl) (by kernel_rfl) (by kernel_rfl) (laid_met os _)) ?_
  intro W base args ds gs before hval0 hW _ hsz0 hLd _
  have hval : ∀ (j : Nat) t v, Tryd.f3.params[j]? = some t → args[j]? = some v → Value.okWide Tryd.prog W .any base t v := hval0
  have hsz : (DataW.weightsEach Tryd.prog (Tryd.f3.params.toList ++ Rows.linkNamedSpec.plain.varTypes Tryd.prog) (ds ++ gs)).all (· ≤ reachBytes) = true := hsz0
  have hW' := hW
  have hcb : Cb W := cb_of_laid hLd
  obtain ⟨p, q, hA0, hV, rfl, hfz, hnd⟩ := hW
  have hA : DataW.TrodAll enc Tryd.prog W 0 (fun _ => true) true Tryd.f3.params.toList args.toList ds p := hA0
  rw [Tryd.params3] at hA hval hsz
  obtain ⟨v0, d0, rfl, rfl, h0⟩ := trodAll_one hA
  obtain ⟨rfl, rfl⟩ := trodVars_none hV
  have k0 := h0
  have lt0 : ∀ x ∈ p, x.block < W.heap.size := by obtain ⟨m, hm⟩ := k0; exact DataW.trod_lt m _ _ _ hm
  have hwalk : Calls Tryd.prog 3 #[v0] W fun e w' => e = .returned (.bool true) ∧ Below W.heap.size W w' := by
    have hs1 : (d0.weights Tryd.prog 28).all (· ≤ reachBytes) = true := by
      have e : DataW.weightsEach Tryd.prog ([28] ++ Rows.linkNamedSpec.plain.varTypes Tryd.prog) ([d0] ++ []) = d0.weights Tryd.prog 28 ++ DataW.weightsEach Tryd.prog (Rows.linkNamedSpec.plain.varTypes Tryd.prog) [] := rfl
      rw [e, List.all_append, Bool.and_eq_true] at hsz
      exact hsz.1
    obtain ⟨aL, nL, cL, v1, aB, nB, cB, aS, nS, cS, v4, rfl, hL, hB, hS⟩ := links_arg (hval 0 28 v0 rfl rfl) h0 hs1
    exact named_any W _ v1 _ v4 aB nB cB hcb hB
  clear hA0 hval0
  refine hwalk.mono fun e W' ⟨he, bel⟩ => ?_
  subst he
  exact ⟨_, rfl, _, _, _, [], _, [], hW', trodAll_mk1 (shut_bool Tryd.underlying4 _), trodAll_mk1 (Below.trod Tryd.laidOut (by kernel_rfl) (of_decide_eq_true (by kernel_rfl)) k0 bel lt0), rfl, bel.frame _, fun h => by cases h⟩

theorem lnamed_row : Rows.LinkNamedSaid :=
  OpenClaim.holds_of_wide 3 Tryd.f3 rfl rfl rfl rfl rfl rfl rfl ⟨rfl, rfl, rfl, rfl, rfl⟩ rfl rfl rfl rfl rfl (by kernel_rfl) Tryd.func3 (by kernel_rfl)
    (of_decide_eq_true (by kernel_rfl)) (by unfold Func.isWrapper; first | (rw [if_pos (by decide +kernel)]; kernel_rfl) | (rw [if_neg (by decide +kernel)]; exact ⟨rfl, rfl⟩))
    (fun os started H enc _ => lnamed_lifted os started H enc)

theorem lnamed_holds : Rows.LinkNamedCardSaid :=
  Claim7.holds_tied_plain_at .later [] [.data] true (true, "8e3560031045aef253a1fb26f4b618a1b18d215bbb44bb0e6cf341fec85b3dcb") false
    lnamed_row (fun _ h => by cases h) (by kernel_rfl) (fun _ h => by cases h) linkNamed_row_tie rfl ⟨rfl, rfl⟩ (by kernel_rfl) rfl
    (fun f fn hf hfn => by
      obtain rfl : f = 3 := Option.some.inj ((show Tryd.prog.funcNamed "trellis/trellislaw4.LinkNamed" = some 3 by kernel_rfl).symm.trans hf) |>.symm
      obtain rfl : fn = Tryd.f3 := (Option.some.inj (Tryd.func3.symm.trans hfn)).symm
      exact ⟨by kernel_rfl, fun j t ht => by
        rw [Tryd.params3] at ht
        have h3 : t = 28 := by
          rcases j with _ | j
          · simpa using ht.symm
          · simp at ht
        subst h3
        exact (show Tryd.prog.wantsStandIn 28 = false by kernel_rfl)⟩)
    (by kernel_rfl)
#print axioms lnamed_holds
end
end Go.Proofs.YtidglddjinfncabDoor
