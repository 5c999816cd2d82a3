import Derived.Test.YtcmfgambfgebfaaGreatDoorJe
import Derived.Test.YtcmfgambfgebfaaGreatDoorJc
namespace Go.Proofs.YtcmfgambfgebfaaGreatDoor
section
open Go.RowKit Go
/-! ### only, the reference's -/
/-- What a type's kind uses. -/
def usN (k : Int) : Bool := decide (k = 2 ∨ k = 3 ∨ k = 4)
def usR (k : Int) : Bool := decide (k = 1 ∨ k = 3 ∨ k = 4)
def usF (k : Int) : Bool := decide (k = 5 ∨ k = 6)
def usC (k : Int) : Bool := decide (k = 7 ∨ k = 8)
def usW (k : Int) : Bool := decide (k = 9)
def onc (t : Tp) (vf vc vw : Value) : Array Value := #[.string t.n, .int .i64 t.k, .int .i64 (if usN t.k then t.lo else 0), .int .i64 (if usN t.k then t.hi else 0), .string (if usR t.k then t.r.n else ⟨#[]⟩), .bool (if usR t.k then t.r.z else false), if usF t.k then vf else .slice none 0 0, if usC t.k then vc else .slice none 0 0, if usW t.k then vw else .slice none 0 0]
theorem blk3 (w : World) (A B C : Obj) : (((w.alloc A).alloc B).alloc C).heap[w.heap.size + 1]? = some B := by
  have h := heap_alloc_new (w.alloc A) B
  rw [show (w.alloc A).heap.size = w.heap.size + 1 by simp] at h
  exact blk_alloc C h
theorem bel3 (w : World) (A B C : Obj) : Below w.heap.size w (((w.alloc A).alloc B).alloc C) := ((below_alloc4 w A).trans ((below_alloc4 _ B).mono (by simp))).trans ((below_alloc4 _ C).mono (by simp; omega))
set_option maxRecDepth 1000000 in
set_option maxHeartbeats 2000000 in
theorem only11_any (w : World) (t : Tp) (af ac aw : Option Addr) (cf cc cw : Nat) : Calls Tryz.prog 84 #[.agg #[.string t.n, .int .i64 t.k, .int .i64 t.lo, .int .i64 t.hi, .string t.r.n, .bool t.r.z, .slice af t.fs.length cf, .slice ac t.cs.length cc, .slice aw t.ws.length cw]] w fun e w' => e = .returned (.agg (onc t (.slice af t.fs.length cf) (.slice ac t.cs.length cc) (.slice aw t.ws.length cw))) ∧ Below w.heap.size w w' := by
  by_cases h0 : t.k = 1
  · have HE : Hid (onc t (.slice af t.fs.length cf) (.slice ac t.cs.length cc) (.slice aw t.ws.length cw) = #[.string t.n, .int .i64 t.k, .int .i64 0, .int .i64 0, .string t.r.n, .bool t.r.z, .slice none 0 0, .slice none 0 0, .slice none 0 0]) := by show _ = _; unfold onc usN usR usF usC usW; simp [h0]
    have g1 : (t.k == 1) = true := by rw [beq_iff_eq]; omega
    clear h0
    go_enter Tryz.func84, Tryz.ntmps84
    go_wp2_with fail
    exact bodyPost_ret (results_cell_row rfl _ _ _ _ _ _ _ rfl (blk3 w _ _ _) Tryz.underlying45 rfl infoTp) rfl ⟨by rw [HE.out], bel3 w _ _ _⟩
  by_cases h1 : t.k = 2
  · have HE : Hid (onc t (.slice af t.fs.length cf) (.slice ac t.cs.length cc) (.slice aw t.ws.length cw) = #[.string t.n, .int .i64 t.k, .int .i64 t.lo, .int .i64 t.hi, .string ⟨#[]⟩, .bool false, .slice none 0 0, .slice none 0 0, .slice none 0 0]) := by show _ = _; unfold onc usN usR usF usC usW; simp [h1]
    have g1 : (t.k == 1) = false := beq_eq_false_iff_ne.2 (by omega)
    have g2 : (t.k == 2) = true := by rw [beq_iff_eq]; omega
    clear h0 h1
    go_enter Tryz.func84, Tryz.ntmps84
    go_wp2_with fail
    exact bodyPost_ret (results_cell_row rfl _ _ _ _ _ _ _ rfl (blk3 w _ _ _) Tryz.underlying45 rfl infoTp) rfl ⟨by rw [HE.out], bel3 w _ _ _⟩
  by_cases h2 : t.k = 3
  · have HE : Hid (onc t (.slice af t.fs.length cf) (.slice ac t.cs.length cc) (.slice aw t.ws.length cw) = #[.string t.n, .int .i64 t.k, .int .i64 t.lo, .int .i64 t.hi, .string t.r.n, .bool t.r.z, .slice none 0 0, .slice none 0 0, .slice none 0 0]) := by show _ = _; unfold onc usN usR usF usC usW; simp [h2]
    have g1 : (t.k == 1) = false := beq_eq_false_iff_ne.2 (by omega)
    have g2 : (t.k == 2) = false := beq_eq_false_iff_ne.2 (by omega)
    have g3 : (t.k == 3) = true := by rw [beq_iff_eq]; omega
    clear h0 h1 h2
    go_enter Tryz.func84, Tryz.ntmps84
    go_wp2_with fail
    exact bodyPost_ret (results_cell_row rfl _ _ _ _ _ _ _ rfl (blk3 w _ _ _) Tryz.underlying45 rfl infoTp) rfl ⟨by rw [HE.out], bel3 w _ _ _⟩
  by_cases h3 : t.k = 4
  · have HE : Hid (onc t (.slice af t.fs.length cf) (.slice ac t.cs.length cc) (.slice aw t.ws.length cw) = #[.string t.n, .int .i64 t.k, .int .i64 t.lo, .int .i64 t.hi, .string t.r.n, .bool t.r.z, .slice none 0 0, .slice none 0 0, .slice none 0 0]) := by show _ = _; unfold onc usN usR usF usC usW; simp [h3]
    have g1 : (t.k == 1) = false := beq_eq_false_iff_ne.2 (by omega)
    have g2 : (t.k == 2) = false := beq_eq_false_iff_ne.2 (by omega)
    have g3 : (t.k == 3) = false := beq_eq_false_iff_ne.2 (by omega)
    have g4 : (t.k == 4) = true := by rw [beq_iff_eq]; omega
    clear h0 h1 h2 h3
    go_enter Tryz.func84, Tryz.ntmps84
    go_wp2_with fail
    exact bodyPost_ret (results_cell_row rfl _ _ _ _ _ _ _ rfl (blk3 w _ _ _) Tryz.underlying45 rfl infoTp) rfl ⟨by rw [HE.out], bel3 w _ _ _⟩
  by_cases h4 : t.k = 5
  · have HE : Hid (onc t (.slice af t.fs.length cf) (.slice ac t.cs.length cc) (.slice aw t.ws.length cw) = #[.string t.n, .int .i64 t.k, .int .i64 0, .int .i64 0, .string ⟨#[]⟩, .bool false, .slice af t.fs.length cf, .slice none 0 0, .slice none 0 0]) := by show _ = _; unfold onc usN usR usF usC usW; simp [h4]
    have g1 : (t.k == 1) = false := beq_eq_false_iff_ne.2 (by omega)
    have g2 : (t.k == 2) = false := beq_eq_false_iff_ne.2 (by omega)
    have g3 : (t.k == 3) = false := beq_eq_false_iff_ne.2 (by omega)
    have g4 : (t.k == 4) = false := beq_eq_false_iff_ne.2 (by omega)
    have g5 : (t.k == 5) = true := by rw [beq_iff_eq]; omega
    clear h0 h1 h2 h3 h4
    go_enter Tryz.func84, Tryz.ntmps84
    go_wp2_with fail
    exact bodyPost_ret (results_cell_row rfl _ _ _ _ _ _ _ rfl (blk3 w _ _ _) Tryz.underlying45 rfl infoTp) rfl ⟨by rw [HE.out], bel3 w _ _ _⟩
  by_cases h5 : t.k = 6
  · have HE : Hid (onc t (.slice af t.fs.length cf) (.slice ac t.cs.length cc) (.slice aw t.ws.length cw) = #[.string t.n, .int .i64 t.k, .int .i64 0, .int .i64 0, .string ⟨#[]⟩, .bool false, .slice af t.fs.length cf, .slice none 0 0, .slice none 0 0]) := by show _ = _; unfold onc usN usR usF usC usW; simp [h5]
    have g1 : (t.k == 1) = false := beq_eq_false_iff_ne.2 (by omega)
    have g2 : (t.k == 2) = false := beq_eq_false_iff_ne.2 (by omega)
    have g3 : (t.k == 3) = false := beq_eq_false_iff_ne.2 (by omega)
    have g4 : (t.k == 4) = false := beq_eq_false_iff_ne.2 (by omega)
    have g5 : (t.k == 5) = false := beq_eq_false_iff_ne.2 (by omega)
    have g6 : (t.k == 6) = true := by rw [beq_iff_eq]; omega
    clear h0 h1 h2 h3 h4 h5
    go_enter Tryz.func84, Tryz.ntmps84
    go_wp2_with fail
    exact bodyPost_ret (results_cell_row rfl _ _ _ _ _ _ _ rfl (blk3 w _ _ _) Tryz.underlying45 rfl infoTp) rfl ⟨by rw [HE.out], bel3 w _ _ _⟩
  by_cases h6 : t.k = 7
  · have HE : Hid (onc t (.slice af t.fs.length cf) (.slice ac t.cs.length cc) (.slice aw t.ws.length cw) = #[.string t.n, .int .i64 t.k, .int .i64 0, .int .i64 0, .string ⟨#[]⟩, .bool false, .slice none 0 0, .slice ac t.cs.length cc, .slice none 0 0]) := by show _ = _; unfold onc usN usR usF usC usW; simp [h6]
    have g1 : (t.k == 1) = false := beq_eq_false_iff_ne.2 (by omega)
    have g2 : (t.k == 2) = false := beq_eq_false_iff_ne.2 (by omega)
    have g3 : (t.k == 3) = false := beq_eq_false_iff_ne.2 (by omega)
    have g4 : (t.k == 4) = false := beq_eq_false_iff_ne.2 (by omega)
    have g5 : (t.k == 5) = false := beq_eq_false_iff_ne.2 (by omega)
    have g6 : (t.k == 6) = false := beq_eq_false_iff_ne.2 (by omega)
    have g7 : (t.k == 7) = true := by rw [beq_iff_eq]; omega
    clear h0 h1 h2 h3 h4 h5 h6
    go_enter Tryz.func84, Tryz.ntmps84
    go_wp2_with fail
    exact bodyPost_ret (results_cell_row rfl _ _ _ _ _ _ _ rfl (blk3 w _ _ _) Tryz.underlying45 rfl infoTp) rfl ⟨by rw [HE.out], bel3 w _ _ _⟩
  by_cases h7 : t.k = 8
  · have HE : Hid (onc t (.slice af t.fs.length cf) (.slice ac t.cs.length cc) (.slice aw t.ws.length cw) = #[.string t.n, .int .i64 t.k, .int .i64 0, .int .i64 0, .string ⟨#[]⟩, .bool false, .slice none 0 0, .slice ac t.cs.length cc, .slice none 0 0]) := by show _ = _; unfold onc usN usR usF usC usW; simp [h7]
    have g1 : (t.k == 1) = false := beq_eq_false_iff_ne.2 (by omega)
    have g2 : (t.k == 2) = false := beq_eq_false_iff_ne.2 (by omega)
    have g3 : (t.k == 3) = false := beq_eq_false_iff_ne.2 (by omega)
    have g4 : (t.k == 4) = false := beq_eq_false_iff_ne.2 (by omega)
    have g5 : (t.k == 5) = false := beq_eq_false_iff_ne.2 (by omega)
    have g6 : (t.k == 6) = false := beq_eq_false_iff_ne.2 (by omega)
    have g7 : (t.k == 7) = false := beq_eq_false_iff_ne.2 (by omega)
    have g8 : (t.k == 8) = true := by rw [beq_iff_eq]; omega
    clear h0 h1 h2 h3 h4 h5 h6 h7
    go_enter Tryz.func84, Tryz.ntmps84
    go_wp2_with fail
    exact bodyPost_ret (results_cell_row rfl _ _ _ _ _ _ _ rfl (blk3 w _ _ _) Tryz.underlying45 rfl infoTp) rfl ⟨by rw [HE.out], bel3 w _ _ _⟩
  by_cases h8 : t.k = 9
  · have HE : Hid (onc t (.slice af t.fs.length cf) (.slice ac t.cs.length cc) (.slice aw t.ws.length cw) = #[.string t.n, .int .i64 t.k, .int .i64 0, .int .i64 0, .string ⟨#[]⟩, .bool false, .slice none 0 0, .slice none 0 0, .slice aw t.ws.length cw]) := by show _ = _; unfold onc usN usR usF usC usW; simp [h8]
    have g1 : (t.k == 1) = false := beq_eq_false_iff_ne.2 (by omega)
    have g2 : (t.k == 2) = false := beq_eq_false_iff_ne.2 (by omega)
    have g3 : (t.k == 3) = false := beq_eq_false_iff_ne.2 (by omega)
    have g4 : (t.k == 4) = false := beq_eq_false_iff_ne.2 (by omega)
    have g5 : (t.k == 5) = false := beq_eq_false_iff_ne.2 (by omega)
    have g6 : (t.k == 6) = false := beq_eq_false_iff_ne.2 (by omega)
    have g7 : (t.k == 7) = false := beq_eq_false_iff_ne.2 (by omega)
    have g8 : (t.k == 8) = false := beq_eq_false_iff_ne.2 (by omega)
    have g9 : (t.k == 9) = true := by rw [beq_iff_eq]; omega
    clear h0 h1 h2 h3 h4 h5 h6 h7 h8
    go_enter Tryz.func84, Tryz.ntmps84
    go_wp2_with fail
    exact bodyPost_ret (results_cell_row rfl _ _ _ _ _ _ _ rfl (blk3 w _ _ _) Tryz.underlying45 rfl infoTp) rfl ⟨by rw [HE.out], bel3 w _ _ _⟩
  have HE : Hid (onc t (.slice af t.fs.length cf) (.slice ac t.cs.length cc) (.slice aw t.ws.length cw) = #[.string t.n, .int .i64 t.k, .int .i64 0, .int .i64 0, .string ⟨#[]⟩, .bool false, .slice none 0 0, .slice none 0 0, .slice none 0 0]) := by show _ = _; unfold onc usN usR usF usC usW; simp [h0, h1, h2, h3, h4, h5, h6, h7, h8]
  have g1 : (t.k == 1) = false := beq_eq_false_iff_ne.2 (by omega)
  have g2 : (t.k == 2) = false := beq_eq_false_iff_ne.2 (by omega)
  have g3 : (t.k == 3) = false := beq_eq_false_iff_ne.2 (by omega)
  have g4 : (t.k == 4) = false := beq_eq_false_iff_ne.2 (by omega)
  have g5 : (t.k == 5) = false := beq_eq_false_iff_ne.2 (by omega)
  have g6 : (t.k == 6) = false := beq_eq_false_iff_ne.2 (by omega)
  have g7 : (t.k == 7) = false := beq_eq_false_iff_ne.2 (by omega)
  have g8 : (t.k == 8) = false := beq_eq_false_iff_ne.2 (by omega)
  have g9 : (t.k == 9) = false := beq_eq_false_iff_ne.2 (by omega)
  clear h0 h1 h2 h3 h4 h5 h6 h7 h8
  go_enter Tryz.func84, Tryz.ntmps84
  go_wp2_with fail
  exact bodyPost_ret (results_cell_row rfl _ _ _ _ _ _ _ rfl (blk3 w _ _ _) Tryz.underlying45 rfl infoTp) rfl ⟨by rw [HE.out], bel3 w _ _ _⟩
end
section
open Go.RowKit Go
/-! ### lean, the reference's -/
theorem eqrf (w : World) (s t : ByteArray) (x y : Bool) : (Op.equalIn 10000 40 (.agg #[.string s, .bool x]) (.agg #[.string t, .bool y])).run Tryz.prog w = .ok (decide (s = t) && (x == y)) w := by
  have u4 := Tryz.underlying4
  have u9 := Tryz.underlying9
  have a4 := Tryz.isAgg4
  have a9 := Tryz.isAgg9
  have z4 := Tryz.sizeOf4
  have z9 := Tryz.sizeOf9
  have hS : Tryz.prog.underlying 40 = some (.struct (Tryz.prog.fieldsOf 40)) := by kernel_rfl
  have hp : Tryz.prog.stoodInHeld 40 = false := by kernel_rfl
  have hs := strB s t
  rw [show (10000 : Nat) = 9999 + 1 from rfl, run_equalIn_agg w 9999 40 _ _ hS hp]
  simp only [Program.fieldsOf, Tryz.underlying40]
  go_simp
  by_cases h : s = t <;> cases x <;> cases y <;> simp [h]
theorem eqgR : Tryz.prog.eqGuardType Tryz.prog.depth 40 = false := by kernel_rfl
theorem wpList_eqrf {ops : Array Oper} {rest : List Oper} {o : Oper} {a : Act} {Q : Exit → Act → World → Prop} {w : World} {x y : Operand} {T2 : TypeId} (hgd : Region.wanted o (yielded ops a.tmps) = true) (ho : o.op = .binOp .eql 40 x y T2) (s t : ByteArray) (p q : Bool) (r : Bool)
    (hx : a.eval x = .agg #[.string s, .bool p]) (hy : a.eval y = .agg #[.string t, .bool q]) (hr : (decide (s = t) && (p == q)) = r) (h : wpList Tryz.prog ops Q rest (a.put o.dst (.bool r)) w) : wpList Tryz.prog ops Q (o :: rest) a w := by
  refine wpList_ex hgd ?_ h
  unfold execOp
  simp only [ho, Sem.run_bind, hx, hy, run_eqGuard_agg w _ 40 x y _ _ eqgR, run_eql_struct, eqrf w s t p q, hr, Result.andThen_ok]
  rfl
/-- Are the fields that a type's kind does not use zero? -/
def len11 (t : Tp) : Bool := (usN t.k || decide (t.lo = 0)) && ((usN t.k || decide (t.hi = 0)) && ((usR t.k || (decide (t.r.n = ⟨#[]⟩) && (t.r.z == false))) && ((usF t.k || decide (t.fs.length = 0)) && ((usC t.k || decide (t.cs.length = 0)) && (usW t.k || decide (t.ws.length = 0))))))
theorem slice_if (b : Bool) (a : Option Addr) (n c : Nat) : ∃ a1 n1 c1, (if b then Value.slice a n c else .slice none 0 0) = .slice a1 n1 c1 ∧ decide (n = n1) = (b || decide (n = 0)) := by
  cases b
  · exact ⟨none, 0, 0, rfl, by simp⟩
  · exact ⟨a, n, c, rfl, by simp⟩
set_option maxRecDepth 1000000 in
set_option maxHeartbeats 2000000 in
theorem lean11_any (w : World) (t : Tp) (af ac aw : Option Addr) (cf cc cw : Nat) : Calls Tryz.prog 51 #[.agg #[.string t.n, .int .i64 t.k, .int .i64 t.lo, .int .i64 t.hi, .string t.r.n, .bool t.r.z, .slice af t.fs.length cf, .slice ac t.cs.length cc, .slice aw t.ws.length cw]] w fun e w' => e = .returned (.bool (len11 t)) ∧ Below w.heap.size w w' := by
  have h1 : decide (t.lo = if usN t.k then t.lo else 0) = (usN t.k || decide (t.lo = 0)) := by cases usN t.k <;> simp
  have h2 : decide (t.hi = if usN t.k then t.hi else 0) = (usN t.k || decide (t.hi = 0)) := by cases usN t.k <;> simp
  have h3 : (decide (t.r.n = if usR t.k then t.r.n else ⟨#[]⟩) && (t.r.z == (if usR t.k then t.r.z else false))) = (usR t.k || (decide (t.r.n = ⟨#[]⟩) && (t.r.z == false))) := by cases usR t.k <;> simp
  obtain ⟨a1, n1, c1, e4, h4⟩ := slice_if (usF t.k) af t.fs.length cf
  obtain ⟨a2, n2, c2, e5, h5⟩ := slice_if (usC t.k) ac t.cs.length cc
  obtain ⟨a3, n3, c3, e6, h6⟩ := slice_if (usW t.k) aw t.ws.length cw
  have HON := hide (only11_any (w.alloc (.cells #[.string t.n, .int .i64 t.k, .int .i64 t.lo, .int .i64 t.hi, .string t.r.n, .bool t.r.z, .slice af t.fs.length cf, .slice ac t.cs.length cc, .slice aw t.ws.length cw] 45)) t af ac aw cf cc cw)
  unfold onc at HON
  rw [e4, e5, e6] at HON
  have HLE : Hid (len11 t = (decide (t.lo = if usN t.k then t.lo else 0) && (decide (t.hi = if usN t.k then t.hi else 0) && ((decide (t.r.n = if usR t.k then t.r.n else ⟨#[]⟩) && (t.r.z == (if usR t.k then t.r.z else false))) && (decide (t.fs.length = n1) && (decide (t.cs.length = n2) && decide (t.ws.length = n3))))))) := by show _ = _; rw [h1, h2, h3, h4, h5, h6]; rfl
  generalize (if usN t.k then t.lo else 0) = L2 at *
  generalize (if usN t.k then t.hi else 0) = H2 at *
  generalize (if usR t.k then t.r.n else (⟨#[]⟩ : ByteArray)) = RN at *
  generalize (if usR t.k then t.r.z else false) = RZ at *
  clear h1 h2 h3 h4 h5 h6 e4 e5 e6
  have HB0 := hide (below_alloc4 w (.cells #[.string t.n, .int .i64 t.k, .int .i64 t.lo, .int .i64 t.hi, .string t.r.n, .bool t.r.z, .slice af t.fs.length cf, .slice ac t.cs.length cc, .slice aw t.ws.length cw] 45))
  have HT : Hid ((w.alloc (.cells #[.string t.n, .int .i64 t.k, .int .i64 t.lo, .int .i64 t.hi, .string t.r.n, .bool t.r.z, .slice af t.fs.length cf, .slice ac t.cs.length cc, .slice aw t.ws.length cw] 45)).heap[w.heap.size]? = some (.cells #[.string t.n, .int .i64 t.k, .int .i64 t.lo, .int .i64 t.hi, .string t.r.n, .bool t.r.z, .slice af t.fs.length cf, .slice ac t.cs.length cc, .slice aw t.ws.length cw] 45 (0, 0))) := heap_alloc_new w _
  have HIT := hide infoTp
  have HAT : Hid (∀ w, (isAgg 45).run Tryz.prog w = .ok true w) := aggTp
  go_enter Tryz.func51, Tryz.ntmps51
  go_upto_region 1 with fail
  generalize w.alloc (.cells #[.string t.n, .int .i64 t.k, .int .i64 t.lo, .int .i64 t.hi, .string t.r.n, .bool t.r.z, .slice af t.fs.length cf, .slice ac t.cs.length cc, .slice aw t.ws.length cw] 45) = w0 at *
  have HCL : Hid (∀ j u, (#[.string t.n, .int .i64 t.k, .int .i64 t.lo, .int .i64 t.hi, .string t.r.n, .bool t.r.z, .slice af t.fs.length cf, .slice ac t.cs.length cc, .slice aw t.ws.length cw] : Array Value)[j]? = some u → w0.cell? ⟨w.heap.size, 0 + j, none⟩ = some u) := fun j u hj => by rw [Nat.zero_add]; exact blk_cell HT.out hj
  go_upto_region 2 with (first
    | (refine wpList_aggAt rfl rfl HIT.out HAT.out w.heap.size 0 #[.string t.n, .int .i64 t.k, .int .i64 t.lo, .int .i64 t.hi, .string t.r.n, .bool t.r.z, .slice af t.fs.length cf, .slice ac t.cs.length cc, .slice aw t.ws.length cw] rfl rfl HCL.out ?_)
    | (go_at_call 84; refine HON.out.mono ?_; rintro e w1 ⟨rfl, hb1⟩))
  have HT2 : Hid ((w1.alloc (.cells #[.string t.n, .int .i64 t.k, .int .i64 L2, .int .i64 H2, .string RN, .bool RZ, .slice a1 n1 c1, .slice a2 n2 c2, .slice a3 n3 c3] 45)).heap[w.heap.size]? = some (.cells #[.string t.n, .int .i64 t.k, .int .i64 t.lo, .int .i64 t.hi, .string t.r.n, .bool t.r.z, .slice af t.fs.length cf, .slice ac t.cs.length cc, .slice aw t.ws.length cw] 45 (0, 0))) := blk_alloc _ ((hb1.block _ (blk_lt HT.out)).trans HT.out)
  have HY2 : Hid ((w1.alloc (.cells #[.string t.n, .int .i64 t.k, .int .i64 L2, .int .i64 H2, .string RN, .bool RZ, .slice a1 n1 c1, .slice a2 n2 c2, .slice a3 n3 c3] 45)).heap[w1.heap.size]? = some (.cells #[.string t.n, .int .i64 t.k, .int .i64 L2, .int .i64 H2, .string RN, .bool RZ, .slice a1 n1 c1, .slice a2 n2 c2, .slice a3 n3 c3] 45 (0, 0))) := heap_alloc_new w1 _
  have HB2 : Hid (Below w.heap.size w (w1.alloc (.cells #[.string t.n, .int .i64 t.k, .int .i64 L2, .int .i64 H2, .string RN, .bool RZ, .slice a1 n1 c1, .slice a2 n2 c2, .slice a3 n3 c3] 45))) := (HB0.out.trans (hb1.mono HB0.out.size)).trans ((below_alloc4 w1 _).mono (HB0.out.trans (hb1.mono HB0.out.size)).size)
  clear hb1 HT HB0 HCL HON
  generalize w1.alloc (.cells #[.string t.n, .int .i64 t.k, .int .i64 L2, .int .i64 H2, .string RN, .bool RZ, .slice a1 n1 c1, .slice a2 n2 c2, .slice a3 n3 c3] 45) = w2 at *
  have x2 : w2.cell? ⟨w.heap.size, 2, none⟩ = some (.int .i64 t.lo) := blk_cell (j := 2) HT2.out rfl
  have x3 : w2.cell? ⟨w.heap.size, 3, none⟩ = some (.int .i64 t.hi) := blk_cell (j := 3) HT2.out rfl
  have x4 : w2.cell? ⟨w.heap.size, 4, none⟩ = some (.string t.r.n) := blk_cell (j := 4) HT2.out rfl
  have x5 : w2.cell? ⟨w.heap.size, 5, none⟩ = some (.bool t.r.z) := blk_cell (j := 5) HT2.out rfl
  have x6 : w2.cell? ⟨w.heap.size, 6, none⟩ = some (.slice af t.fs.length cf) := blk_cell (j := 6) HT2.out rfl
  have x7 : w2.cell? ⟨w.heap.size, 7, none⟩ = some (.slice ac t.cs.length cc) := blk_cell (j := 7) HT2.out rfl
  have x8 : w2.cell? ⟨w.heap.size, 8, none⟩ = some (.slice aw t.ws.length cw) := blk_cell (j := 8) HT2.out rfl
  have y2 : w2.cell? ⟨w1.heap.size, 2, none⟩ = some (.int .i64 L2) := blk_cell (j := 2) HY2.out rfl
  have y3 : w2.cell? ⟨w1.heap.size, 3, none⟩ = some (.int .i64 H2) := blk_cell (j := 3) HY2.out rfl
  have y4 : w2.cell? ⟨w1.heap.size, 4, none⟩ = some (.string RN) := blk_cell (j := 4) HY2.out rfl
  have y5 : w2.cell? ⟨w1.heap.size, 5, none⟩ = some (.bool RZ) := blk_cell (j := 5) HY2.out rfl
  have y6 : w2.cell? ⟨w1.heap.size, 6, none⟩ = some (.slice a1 n1 c1) := blk_cell (j := 6) HY2.out rfl
  have y7 : w2.cell? ⟨w1.heap.size, 7, none⟩ = some (.slice a2 n2 c2) := blk_cell (j := 7) HY2.out rfl
  have y8 : w2.cell? ⟨w1.heap.size, 8, none⟩ = some (.slice a3 n3 c3) := blk_cell (j := 8) HY2.out rfl
  clear HT2 HY2
  obtain ⟨b3, hb3⟩ : ∃ b, (decide (t.r.n = RN) && (t.r.z == RZ)) = b := ⟨_, rfl⟩
  have HG3 := hide hb3
  rw [hb3] at HLE
  clear hb3
  go_cut [4] from 5 to 53 (fun a wx => a = .bool (decide (t.lo = L2) && (decide (t.hi = H2) && b3)) ∧ wx = w2)
  case first =>
    by_cases z0 : t.lo = L2
    case neg => as_aux_lemma =>
      have g1 : (t.lo == L2) = false := beq_eq_false_iff_ne.2 z0
      have HZ := hide (decide_eq_false z0)
      clear z0
      go_wp2_with fail
      go_meet
      exact ⟨by rw [HZ.out]; rfl, rfl⟩
    have g1 : (t.lo == L2) = true := by rw [beq_iff_eq]; exact z0
    have HZ0 := hide (decide_eq_true z0)
    clear z0
    by_cases z1 : t.hi = H2
    case neg => as_aux_lemma =>
      have g2 : (t.hi == H2) = false := beq_eq_false_iff_ne.2 z1
      have HZ := hide (decide_eq_false z1)
      clear z1
      go_wp2_with fail
      go_meet
      exact ⟨by rw [HZ0.out, HZ.out]; rfl, rfl⟩
    have g2 : (t.hi == H2) = true := by rw [beq_iff_eq]; exact z1
    have HZ1 := hide (decide_eq_true z1)
    clear z1
    as_aux_lemma =>
      go_wp2_with (with_reducible refine wpList_eqrf (w := w2) rfl rfl t.r.n RN t.r.z RZ b3 rfl rfl HG3.out ?_)
      go_meet
      exact ⟨by rw [HZ0.out, HZ1.out]; rfl, rfl⟩
  case rest =>
    obtain ⟨rfl, hww⟩ := hcut
    have hww := hww.symm
    subst hww
    rw [show (decide (t.lo = L2) && (decide (t.hi = H2) && (b3 && (decide (t.fs.length = n1) && (decide (t.cs.length = n2) && decide (t.ws.length = n3)))))) = ((decide (t.lo = L2) && (decide (t.hi = H2) && b3)) && (decide (t.fs.length = n1) && (decide (t.cs.length = n2) && decide (t.ws.length = n3)))) by simp only [Bool.and_assoc]] at HLE
    generalize (decide (t.lo = L2) && (decide (t.hi = H2) && b3)) = B at *
    clear x2 x3 x4 x5 y2 y3 y4 y5 HG3
    cases B
    · have HE : Hid (len11 t = false) := by show _ = _; rw [HLE.out]; rfl
      go_wp2_with fail
      go_ret
      exact ⟨by rw [HE.out]; rfl, HB2.out⟩
    by_cases z3 : t.fs.length = n1
    case neg =>
      have g4 : (((t.fs.length : Nat) : Int) == ((n1 : Nat) : Int)) = false := beq_eq_false_iff_ne.2 (by omega)
      have HE : Hid (len11 t = false) := by show _ = _; rw [HLE.out, decide_eq_false z3]; rfl
      clear HLE z3
      go_wp2_with fail
      go_ret
      exact ⟨by rw [HE.out]; rfl, HB2.out⟩
    have g4 : (((t.fs.length : Nat) : Int) == ((n1 : Nat) : Int)) = true := by rw [beq_iff_eq]; omega
    by_cases z4 : t.cs.length = n2
    case neg =>
      have g5 : (((t.cs.length : Nat) : Int) == ((n2 : Nat) : Int)) = false := beq_eq_false_iff_ne.2 (by omega)
      have HE : Hid (len11 t = false) := by show _ = _; rw [HLE.out, decide_eq_false z4, Bool.false_and, Bool.and_false, Bool.and_false]
      clear HLE z3 z4
      go_wp2_with fail
      go_ret
      exact ⟨by rw [HE.out]; rfl, HB2.out⟩
    have g5 : (((t.cs.length : Nat) : Int) == ((n2 : Nat) : Int)) = true := by rw [beq_iff_eq]; omega
    by_cases z5 : t.ws.length = n3
    case neg =>
      have g6 : (((t.ws.length : Nat) : Int) == ((n3 : Nat) : Int)) = false := beq_eq_false_iff_ne.2 (by omega)
      have HE : Hid (len11 t = false) := by show _ = _; rw [HLE.out, decide_eq_false z5, Bool.and_false, Bool.and_false, Bool.and_false]
      clear HLE z3 z4 z5
      go_wp2_with fail
      go_ret
      exact ⟨by rw [HE.out]; rfl, HB2.out⟩
    have g6 : (((t.ws.length : Nat) : Int) == ((n3 : Nat) : Int)) = true := by rw [beq_iff_eq]; omega
    have HE : Hid (len11 t = true) := by show _ = _; rw [HLE.out, decide_eq_true z3, decide_eq_true z4, decide_eq_true z5]; rfl
    clear HLE z3 z4 z5
    go_wp2_with fail
    go_ret
    exact ⟨by rw [HE.out]; rfl, HB2.out⟩
end
section
open Go.RowKit Go
/-! ### Good UTF-8 by code points -/
theorem emp_l11 : (ByteArray.mk #[]).toList = [] := by rw [ByteArray.toList_eq]
def cv (c : Nat) (l : List Nat) : Nat := l.foldl (fun c x => 64 * c + x - 128) c
theorem cv_app (c : Nat) (l : List Nat) (x : Nat) : cv c (l ++ [x]) = 64 * cv c l + x - 128 := by simp [cv]
/-- A first byte: how many follow, the least number, what it gives. -/
def gld (c n least c0 : Nat) : Prop := (194 ≤ c ∧ c < 224 ∧ n = 1 ∧ least = 128 ∧ c0 = c - 192) ∨ (224 ≤ c ∧ c < 240 ∧ n = 2 ∧ least = 2048 ∧ c0 = c - 224) ∨ (240 ≤ c ∧ c < 245 ∧ n = 3 ∧ least = 65536 ∧ c0 = c - 240)
set_option maxRecDepth 1000000 in
theorem gld_un {c n least c0 : Nat} (h : gld c n least c0) : un c = n + 1 ∧ 128 ≤ c := by
  unfold un
  rcases h with ⟨h1, h2, rfl, rfl, rfl⟩ | ⟨h1, h2, rfl, rfl, rfl⟩ | ⟨h1, h2, rfl, rfl, rfl⟩
  · rw [if_pos (by omega)]; omega
  · rw [if_neg (by omega), if_pos (by omega)]; omega
  · rw [if_neg (by omega), if_neg (by omega), if_pos (by omega)]; omega
theorem ulo_b (c : Nat) : 128 ≤ ulo c := by unfold ulo; split <;> (try split) <;> omega
theorem uhi_b (c : Nat) : uhi c ≤ 191 := by unfold uhi; split <;> (try split) <;> omega
theorem g_none {c : Nat} {r : List Nat} (h0 : 128 ≤ c) (h : c < 194 ∨ 245 ≤ c) : uone (c :: r) = 0 := by
  rw [uone_lead _ _ h0, if_pos]
  refine .inl ?_
  unfold un
  rw [if_neg (by omega), if_neg (by omega), if_neg (by omega)]
theorem g_bad {c n least c0 k : Nat} {r : List Nat} (h : gld c n least c0) (hk : k < n) (hb : r.length ≤ k ∨ r.getD k 0 < 128 ∨ 191 < r.getD k 0) : uone (c :: r) = 0 := by
  obtain ⟨hu, h0⟩ := gld_un h
  rw [uone_lead _ _ h0, hu]
  by_cases hl : (c :: r).length < n + 1
  · rw [if_pos (.inr (.inl hl))]
  have hl2 : n ≤ r.length := by simp at hl; omega
  rcases k with _ | k
  · refine if_pos ?_
    have := ulo_b c
    have := uhi_b c
    refine .inr (.inr ?_)
    rcases hb with hb | hb | hb <;> omega
  · by_cases hc : n + 1 = 0 ∨ (c :: r).length < n + 1 ∨ r.getD 0 0 < ulo c ∨ uhi c < r.getD 0 0
    · rw [if_pos hc]
    rw [if_neg hc, if_neg]
    intro hall
    have hm : r.getD (k + 1) 0 ∈ ((c :: r).take (n + 1)).drop 2 := by
      have := mem_take_drop2 (B := c :: r) (i := k + 2) (n := n + 1) (by omega) (by omega) (by simp; omega)
      rwa [List.getD_cons_succ] at this
    have h1 := List.all_eq_true.1 hall _ hm
    simp at h1
    rcases hb with hb | hb | hb
    · omega
    · simp at hb; omega
    · simp at hb; omega
set_option maxRecDepth 1000000 in
theorem g_fin {c n least c0 : Nat} {r : List Nat} (h : gld c n least c0) (hl : n ≤ r.length) (ha : ∀ k, k < n → 128 ≤ r.getD k 0 ∧ r.getD k 0 ≤ 191) : uone (c :: r) = if cv c0 (r.take n) < least ∨ 1114111 < cv c0 (r.take n) ∨ (55296 ≤ cv c0 (r.take n) ∧ cv c0 (r.take n) ≤ 57343) then 0 else n + 1 := by
  obtain ⟨hu, h128⟩ := gld_un h
  rw [uone_lead _ _ h128, hu]
  rcases h with ⟨h1, h2, rfl, rfl, rfl⟩ | ⟨h1, h2, rfl, rfl, rfl⟩ | ⟨h1, h2, rfl, rfl, rfl⟩
  · rcases r with _ | ⟨a, r⟩
    · simp at hl
    have h0 := ha 0 (by omega)
    have e : cv (c - 192) ((a :: r).take 1) = 64 * (c - 192) + a - 128 := rfl
    have hlo : ulo c = 128 := by unfold ulo; rw [if_neg (by omega), if_neg (by omega)]
    have hhi : uhi c = 191 := by unfold uhi; rw [if_neg (by omega), if_neg (by omega)]
    simp only [List.getD_cons_zero] at h0
    rw [e, hlo, hhi, List.getD_cons_zero, if_neg (by simp; omega), if_pos (by simp), if_neg (by omega)]
  · rcases r with _ | ⟨a, _ | ⟨b, r⟩⟩
    · simp at hl
    · simp at hl
    have h0 := ha 0 (by omega)
    have h3 := ha 1 (by omega)
    have e : cv (c - 224) ((a :: b :: r).take 2) = 64 * (64 * (c - 224) + a - 128) + b - 128 := rfl
    simp only [List.getD_cons_zero] at h0
    simp only [List.getD_cons_succ, List.getD_cons_zero] at h3
    have hal : (((c :: a :: b :: r).take (2 + 1)).drop 2).all (fun x => decide (128 ≤ x) && decide (x ≤ 191)) = true := by simp; omega
    rw [e, List.getD_cons_zero, hal]
    have hlen : ¬ (c :: a :: b :: r).length < 2 + 1 := by simp
    generalize (c :: a :: b :: r).length = N at *
    by_cases c1 : c = 224
    · subst c1
      rw [show ulo 224 = 160 from rfl, show uhi 224 = 191 from rfl]
      by_cases hx : a < 160
      · rw [if_pos (by omega), if_pos (by omega)]
      · rw [if_neg (by omega), if_pos rfl, if_neg (by omega)]
    · by_cases c2 : c = 237
      · subst c2
        rw [show ulo 237 = 128 from rfl, show uhi 237 = 159 from rfl]
        by_cases hx : 159 < a
        · rw [if_pos (by omega), if_pos (by omega)]
        · rw [if_neg (by omega), if_pos rfl, if_neg (by omega)]
      · have hlo : ulo c = 128 := by unfold ulo; rw [if_neg (by omega), if_neg (by omega)]
        have hhi : uhi c = 191 := by unfold uhi; rw [if_neg (by omega), if_neg (by omega)]
        rw [hlo, hhi, if_neg (by omega), if_pos rfl, if_neg (by omega)]
  · rcases r with _ | ⟨a, _ | ⟨b, _ | ⟨d, r⟩⟩⟩
    · simp at hl
    · simp at hl
    · simp at hl
    have h0 := ha 0 (by omega)
    have h3 := ha 1 (by omega)
    have h4 := ha 2 (by omega)
    have e : cv (c - 240) ((a :: b :: d :: r).take 3) = 64 * (64 * (64 * (c - 240) + a - 128) + b - 128) + d - 128 := rfl
    simp only [List.getD_cons_zero] at h0
    simp only [List.getD_cons_succ, List.getD_cons_zero] at h3 h4
    have hal : (((c :: a :: b :: d :: r).take (3 + 1)).drop 2).all (fun x => decide (128 ≤ x) && decide (x ≤ 191)) = true := by simp; omega
    rw [e, List.getD_cons_zero, hal]
    have hlen : ¬ (c :: a :: b :: d :: r).length < 3 + 1 := by simp
    generalize (c :: a :: b :: d :: r).length = N at *
    by_cases c1 : c = 240
    · subst c1
      rw [show ulo 240 = 144 from rfl, show uhi 240 = 191 from rfl]
      by_cases hx : a < 144
      · rw [if_pos (by omega), if_pos (by omega)]
      · rw [if_neg (by omega), if_pos rfl, if_neg (by omega)]
    · by_cases c2 : c = 244
      · subst c2
        rw [show ulo 244 = 128 from rfl, show uhi 244 = 143 from rfl]
        by_cases hx : 143 < a
        · rw [if_pos (by omega), if_pos (by omega)]
        · rw [if_neg (by omega), if_pos rfl, if_neg (by omega)]
      · have hlo : ulo c = 128 := by unfold ulo; rw [if_neg (by omega), if_neg (by omega)]
        have hhi : uhi c = 191 := by unfold uhi; rw [if_neg (by omega), if_neg (by omega)]
        rw [hlo, hhi, if_neg (by omega), if_pos rfl, if_neg (by omega)]
/-- Letters alone are good. -/
theorem ugood_low : ∀ (n : Nat) (l : List Nat), l.length ≤ n → (∀ c ∈ l, c < 128) → ugood l = true := by
  intro n
  induction n with
  | zero => intro l hl _; rw [List.eq_nil_of_length_eq_zero (Nat.le_zero.1 hl)]; exact ugood_nil
  | succ n ih =>
    intro l hl ha
    rcases l with _ | ⟨c, r⟩
    · exact ugood_nil
    · have h1 := uone_ascii c r (ha c (List.mem_cons_self ..))
      rw [ugood_step (by simp) (by rw [h1]; decide), h1]
      exact ih r (by simp at hl; omega) (fun x hx => ha x (List.mem_cons_of_mem _ hx))
theorem nby_low {c : Nat} (h : nby c = true) : c < 128 := by
  unfold nby at h
  simp only [Bool.or_eq_true, decide_eq_true_eq] at h
  omega
theorem nbl_good {s : ByteArray} (h : nbl s = true) : badb s = false := by
  unfold nbl at h
  simp only [Bool.and_eq_true] at h
  rw [bad_good, ugood_low _ _ (Nat.le_refl _) (fun c hc => by
    unfold sl at hc
    obtain ⟨x, hx, rfl⟩ := List.mem_map.1 hc
    exact nby_low (List.all_eq_true.1 h.2 x hx))]
  rfl
end
section
open Go.RowKit Go
/-! ### What the first look leaves -/
theorem aln_0 {l : List Tp} {i : Nat} {t : Tp} (h : aln l i t = 0) : (!nbl t.n || (ownK t.n).isSome || decide ((plc l t.n).getD 0 < i)) = false ∧ tdy t = true ∧ ((rfs t).any fun r => !(fnd l r.n).2) = false := by
  unfold aln at h
  split at h
  · exact absurd h (by decide)
  · rename_i h1
    split at h
    · exact absurd h (by decide)
    · rename_i h2
      split at h
      · exact absurd h (by decide)
      · split at h
        · exact absurd h (by decide)
        · rename_i h4
          exact ⟨Bool.eq_false_iff.2 h1, by simpa using h2, Bool.eq_false_iff.2 h4⟩
structure Fst (l : List Tp) : Prop where
  own : ∀ t ∈ l, ownK t.n = none
  nam : ∀ t ∈ l, nbl t.n = true
  tdy : ∀ t ∈ l, tdy t = true
  ref : ∀ t ∈ l, ∀ r ∈ rfs t, (fnd l r.n).2 = true
theorem aln_fst {l : List Tp} (h : ∀ i t, l[i]? = some t → aln l i t = 0) : Fst l := by
  have key : ∀ t ∈ l, ∃ i, l[i]? = some t := fun t ht => by
    obtain ⟨i, hi, e⟩ := List.getElem_of_mem ht
    exact ⟨i, by rw [List.getElem?_eq_getElem hi, e]⟩
  refine ⟨fun t ht => ?_, fun t ht => ?_, fun t ht => ?_, fun t ht r hr => ?_⟩
  · obtain ⟨i, hi⟩ := key t ht
    have h1 := (aln_0 (h i t hi)).1
    rw [Bool.or_eq_false_iff, Bool.or_eq_false_iff] at h1
    have h2 := h1.1.2
    cases hk : ownK t.n with
    | none => rfl
    | some k => rw [hk] at h2; cases h2
  · obtain ⟨i, hi⟩ := key t ht
    have h1 := (aln_0 (h i t hi)).1
    rw [Bool.or_eq_false_iff, Bool.or_eq_false_iff] at h1
    simpa using h1.1.1
  · obtain ⟨i, hi⟩ := key t ht
    exact (aln_0 (h i t hi)).2.1
  · obtain ⟨i, hi⟩ := key t ht
    have h1 := (aln_0 (h i t hi)).2.2
    rw [← Bool.not_eq_true, List.any_eq_true] at h1
    cases hk : (fnd l r.n).2 with
    | true => rfl
    | false => exact absurd ⟨r, hr, by rw [hk]; rfl⟩ h1
theorem own_ne {s : ByteArray} (h : ownK s = none) : s ≠ nAny ∧ s ≠ nNull := ⟨fun e => by subst e; exact absurd h (by decide), fun e => by subst e; exact absurd h (by decide)⟩
theorem fnd_some {l : List Tp} {s : ByteArray} {i : Nat} {t : Tp} (hp : plc l s = some i) (ht : l[i]? = some t) : fnd l s = (t, true) := by
  unfold fnd
  rw [hp]
  simp [List.getD, ht]
theorem fnd_none_k {l : List Tp} {s : ByteArray} (hp : plc l s = none) : (fnd l s).1.k = 0 := by
  unfold fnd
  rw [hp]
  simp only
  split <;> rfl
theorem fnd_none_2 {l : List Tp} {s : ByteArray} (hp : plc l s = none) : (fnd l s).2 = (ownK s).isSome := by
  unfold fnd
  rw [hp]
  simp only
  split
  · rename_i h; exact h.symm
  · rename_i h; exact (Bool.eq_false_iff.2 h).symm
theorem fnd_none_1 {l : List Tp} {s : ByteArray} (hp : plc l s = none) (h : (ownK s).isSome = true) : (fnd l s).1 = otp s := by
  unfold fnd
  rw [hp]
  simp only
  rw [if_pos h]
/-! ### Follow -/
theorem fwr_flw {l : List Tp} (h : ∀ t ∈ l, ownK t.n = none) : ∀ (k : Nat) (s : ByteArray) (z : Bool), flw l k s z = ((fwr l k s z).1, (fwr l k s z).2.1)
  | 0, _, _ => rfl
  | k + 1, s, z => by
    cases hp : plc l s with
    | none =>
      rw [fwr_none hp, flw, fnd_none_k hp, if_pos (by decide), Bool.or_assoc]
    | some i =>
      obtain ⟨t, ht, hn⟩ := plc_lt hp
      rw [flw, fnd_some hp ht]
      by_cases hk : t.k = 1
      · rw [fwr_on hp ht hk, if_neg (fun e => e hk)]
        exact fwr_flw h k _ _
      · rw [fwr_end hp ht hk, if_pos hk]
        obtain ⟨h1, h2⟩ := own_ne (h t (List.mem_of_getElem? ht))
        rw [hn] at h1 h2
        rw [decide_eq_false h1, decide_eq_false h2, Bool.or_false, Bool.or_false]
theorem flo_flr {l : List Tp} (h : Fst l) (s : ByteArray) : flo l s = ((flr l s).1, (flr l s).2.1) := fwr_flw h.own _ _ _
theorem fwr_no {l : List Tp} : ∀ (k : Nat) (s : ByteArray) (z : Bool), (fwr l k s z).2.2 = false → fwr l k s z = (⟨#[]⟩, false, false)
  | 0, _, _, _ => rfl
  | k + 1, s, z, h => by
    cases hp : plc l s with
    | none => rw [fwr_none hp] at h; cases h
    | some i =>
      obtain ⟨t, ht, hn⟩ := plc_lt hp
      by_cases hk : t.k = 1
      · rw [fwr_on hp ht hk] at h ⊢
        exact fwr_no k _ _ h
      · rw [fwr_end hp ht hk] at h
        cases h
/-- What a name comes to. -/
structure Fen (l : List Tp) (s : ByteArray) (z : Bool) : Prop where
  known : (fnd l s).2 = true
  kind : (fnd l s).1.k ≠ 1
  null : plc l s = none → z = false → s ≠ nAny ∧ s ≠ nNull
theorem fwr_fen {l : List Tp} (hr : ∀ t ∈ l, t.k = 1 → (fnd l t.r.n).2 = true) : ∀ (k : Nat) (s : ByteArray) (z : Bool), (fnd l s).2 = true → (fwr l k s z).2.2 = true → Fen l (fwr l k s z).1 (fwr l k s z).2.1
  | 0, _, _, _, h => by cases h
  | k + 1, s, z, hs, h => by
    cases hp : plc l s with
    | none =>
      rw [fwr_none hp]
      refine ⟨hs, by rw [fnd_none_k hp]; decide, fun _ hz => ?_⟩
      rw [Bool.or_eq_false_iff, Bool.or_eq_false_iff] at hz
      exact ⟨of_decide_eq_false hz.2.1, of_decide_eq_false hz.2.2⟩
    | some i =>
      obtain ⟨t, ht, hn⟩ := plc_lt hp
      by_cases hk : t.k = 1
      · rw [fwr_on hp ht hk] at h ⊢
        exact fwr_fen hr k _ _ (hr t (List.mem_of_getElem? ht) hk) h
      · rw [fwr_end hp ht hk]
        exact ⟨hs, by rw [fnd_some hp ht]; exact hk, fun h2 => by rw [hp] at h2; cases h2⟩
theorem Fst.name {l : List Tp} (h : Fst l) : ∀ t ∈ l, t.k = 1 → (fnd l t.r.n).2 = true := fun t ht hk => h.ref t ht t.r (by unfold rfs; rw [if_pos (.inl hk)]; simp)
theorem flr_fen {l : List Tp} (h : Fst l) {s : ByteArray} (hs : (fnd l s).2 = true) (he : (flr l s).2.2 = true) : Fen l (flr l s).1 (flr l s).2.1 := fwr_fen h.name _ _ _ hs he
theorem fnd_own {l : List Tp} {i : Nat} {t : Tp} (ht : l[i]? = some t) : (fnd l t.n).2 = true := by
  cases hp : plc l t.n with
  | none =>
    exfalso
    have : ∀ (l : List Tp) (i : Nat), l[i]? = some t → plc l t.n ≠ none := by
      intro l
      induction l with
      | nil => intro i h; cases h
      | cons u r ih =>
        intro i h
        unfold plc
        split
        · simp
        · rename_i hu
          rcases i with _ | i
          · have e : u = t := by simpa using h
            exact absurd (by rw [e]) hu
          · have := ih i (by simpa using h)
            simpa using this
    exact this l i ht hp
  | some j =>
    obtain ⟨u, hu, _⟩ := plc_lt hp
    rw [fnd_some hp hu]
theorem fnd_empty {l : List Tp} (h : Fst l) : (fnd l ⟨#[]⟩).2 = false := by
  cases hp : plc l ⟨#[]⟩ with
  | none => rw [fnd_none_2 hp]; decide
  | some i =>
    obtain ⟨t, ht, hn⟩ := plc_lt hp
    have := h.nam t (List.mem_of_getElem? ht)
    rw [hn] at this
    exact absurd this (by decide)
theorem rng_flr {l : List Tp} (h : Fst l) {i : Nat} {t : Tp} (ht : l[i]? = some t) : rng l t = if (flr l t.n).2.2 then 0 else 117 := by
  unfold rng
  rw [flo_flr h]
  cases he : (flr l t.n).2.2 with
  | false =>
    have := fwr_no _ _ _ he
    rw [show flr l t.n = (⟨#[]⟩, false, false) from this]
    rw [if_pos rfl]
    rfl
  | true =>
    rw [if_neg, if_pos rfl]
    intro e
    have h1 := (flr_fen h (fnd_own ht) he).known
    have e1 : (flr l t.n).1 = ⟨#[]⟩ := (Prod.mk.inj e).1
    rw [e1, fnd_empty h] at h1
    cases h1
/-! ### The kinds of cases -/
theorem owns_kinds : owns.all (fun p => decide (p.1 = nAny) || decide (p.1 = nNull) || (decide (2 ≤ p.2) && decide (p.2 ≤ 7))) = true := by decide
theorem ownK_kind {s : ByteArray} {k : Nat} (h : ownK s = some k) (h1 : s ≠ nAny) (h2 : s ≠ nNull) : 2 ≤ k ∧ k ≤ 7 := by
  unfold ownK at h
  obtain ⟨p, hp, rfl⟩ := Option.map_eq_some_iff.1 h
  have hm := List.mem_of_find?_eq_some hp
  have he : p.1 = s := by simpa using List.find?_some hp
  have := List.all_eq_true.1 owns_kinds p hm
  rw [he, decide_eq_false h1, decide_eq_false h2, Bool.false_or, Bool.false_or, Bool.and_eq_true] at this
  exact ⟨of_decide_eq_true this.1, of_decide_eq_true this.2⟩
/-- The kind of a case's trees. -/
def ckd (l : List Tp) (s : ByteArray) : Nat := knd (fnd l (flo l s).1).1
/-- A case that may be: no null, and of one kind. -/
structure Cok (l : List Tp) (s : ByteArray) : Prop where
  ends : (flr l s).2.2 = true
  fen : Fen l (flr l s).1 (flr l s).2.1
  null : (flr l s).2.1 = false
  one : (fnd l (flr l s).1).1.k ≠ 8
theorem Cok.kind {l : List Tp} (h : Fst l) {s : ByteArray} (c : Cok l s) : 2 ≤ ckd l s ∧ ckd l s ≤ 9 := by
  unfold ckd
  rw [flo_flr h]
  obtain ⟨-, f, hz, h8⟩ := c
  generalize (flr l s).1 = e at *
  cases hp : plc l e with
  | none =>
    have h1 := fnd_none_2 hp
    rw [f.known] at h1
    obtain ⟨k, hk⟩ := Option.isSome_iff_exists.1 h1.symm
    rw [fnd_none_1 hp h1.symm]
    obtain ⟨n1, n2⟩ := f.null hp hz
    have := ownK_kind hk n1 n2
    have e : knd (otp e) = k := by unfold knd otp; simp [hk]
    omega
  | some i =>
    obtain ⟨t, ht, hn⟩ := plc_lt hp
    have h1 := f.kind
    rw [fnd_some hp ht] at h1 h8 ⊢
    have hd := h.tdy t (List.mem_of_getElem? ht)
    unfold tdy at hd
    simp only [Bool.and_eq_true, decide_eq_true_eq] at hd
    obtain ⟨⟨⟨⟨⟨hd, _⟩, _⟩, _⟩, _⟩, _⟩ := hd
    unfold knd
    simp only at h1 h8 ⊢
    split
    · omega
    · split
      · omega
      · split
        · omega
        · split
          · omega
          · omega
theorem ckd_8 {l : List Tp} (h : Fst l) {s : ByteArray} {i : Nat} {t : Tp} (hp : plc l (flr l s).1 = some i) (ht : l[i]? = some t) (h8 : t.k = 8) : ckd l s = 0 := by
  unfold ckd
  rw [flo_flr h]
  simp only
  rw [fnd_some hp ht]
  unfold knd
  simp only
  rw [if_neg (by omega), if_neg (by omega), if_neg (by omega), if_neg (by omega), h.own t (List.mem_of_getElem? ht)]
  rfl
theorem kap_bad {l : List Tp} (h : Fst l) {seen : List Nat} {c : Cz} {r : List Cz} (hb : (flr l c.n).2.1 = true ∨ ckd l c.n = 0 ∨ ckd l c.n ∈ seen) : kap l seen (c :: r) = false := by
  unfold kap
  simp only
  rw [if_pos]
  rw [Bool.or_eq_true, Bool.or_eq_true, decide_eq_true_eq, List.contains_iff_mem]
  rcases hb with hb | hb | hb
  · refine .inl (.inl ?_)
    rw [flo_flr h]
    exact hb
  · exact .inl (.inr hb)
  · exact .inr hb
theorem kap_next {l : List Tp} (h : Fst l) {seen : List Nat} {c : Cz} {r : List Cz} (hc : Cok l c.n) (hs : ckd l c.n ∉ seen) : kap l seen (c :: r) = kap l (ckd l c.n :: seen) r := by
  have hk := hc.kind h
  conv => lhs; unfold kap
  simp only
  rw [if_neg]
  · rfl
  rw [Bool.or_eq_true, Bool.or_eq_true, decide_eq_true_eq, List.contains_iff_mem]
  rintro ((hb | hb) | hb)
  · rw [flo_flr h] at hb
    simp only at hb
    rw [hc.null] at hb
    cases hb
  · have : ckd l c.n = 0 := hb
    omega
  · exact hs hb
/-! ### Rows of texts -/
theorem stray_eq (pre : List ByteArray) (s : ByteArray) : stray pre.reverse s = (memb pre s || badb s) := by
  unfold stray
  congr 1
  rw [Bool.eq_iff_iff, memb_iff, memb_iff, List.mem_reverse]
theorem goodT_no {pre : List ByteArray} {s : ByteArray} {r : List ByteArray} (h : (memb pre s || badb s) = true) : goodT pre.reverse (s :: r) = false := by
  rw [goodT, stray_eq, h]
  rfl
theorem goodT_yes {pre : List ByteArray} {s : ByteArray} {r : List ByteArray} (h1 : memb pre s = false) (h2 : badb s = false) : goodT pre.reverse (s :: r) = goodT (pre ++ [s]).reverse r := by
  rw [goodT, stray_eq, h1, h2, List.reverse_append]
  rfl
/-! ### Fields -/
def mbP : List Fd → Bool
  | [] => false
  | [g] => g.m
  | _ :: r => mbP r
theorem mbP_app : ∀ (pre : List Fd) (f : Fd), mbP (pre ++ [f]) = f.m
  | [], _ => rfl
  | [_], _ => rfl
  | _ :: b :: r, f => by
    show mbP (b :: r ++ [f]) = f.m
    exact mbP_app (b :: r) f
theorem mbP_mem : ∀ {pre : List Fd}, mbP pre = true → ∃ g ∈ pre, g.m = true
  | [], h => by cases h
  | [g], h => ⟨g, by simp, h⟩
  | a :: b :: r, h => by
    obtain ⟨g, hg, e⟩ := mbP_mem (pre := b :: r) h
    exact ⟨g, List.mem_cons_of_mem _ hg, e⟩
/-- One field ahead of another. -/
def fpr (k : Int) (f g : Fd) : Bool := decide (g.n = f.n) || (decide (k = 5) && decide (g.k = f.k) || decide (k = 6) && (g.m && !f.m))
/-- A field by itself. -/
def fon (k : Int) (f : Fd) : Bool := nbl f.n && (!(decide (k = 5) && badb f.k) && !(decide (k = 6) && !decide (f.k = ⟨#[]⟩)))
def fok (k : Int) (pre : List Fd) (f : Fd) : Bool := fon k f && pre.all (fun g => !fpr k f g)
def ksP (k : Int) (pre : List Fd) : List ByteArray := if k = 5 then (pre.map (·.k)).reverse else []
def Mon (k : Int) (pre : List Fd) : Prop := k = 6 → ∀ g ∈ pre, g.m = true → mbP pre = true
theorem ksP_app (k : Int) (pre : List Fd) (f : Fd) : ksP k (pre ++ [f]) = if k = 5 then f.k :: ksP k pre else ksP k pre := by
  unfold ksP
  split
  · rw [List.map_append, List.reverse_append]; rfl
  · rfl
theorem ffs_no {k : Int} {pre : List Fd} {f : Fd} {r : List Fd} (hM : Mon k pre) (h : fok k pre f = false) : ffs k (pre.map (·.n)).reverse (ksP k pre) (mbP pre) (f :: r) = false := by
  rw [ffs]
  split
  · rfl
  · rename_i a1
    split
    · rfl
    · rename_i a2
      split
      · rfl
      · rename_i a3
        exfalso
        rw [stray_eq, Bool.not_eq_true, Bool.or_eq_false_iff, Bool.or_eq_false_iff] at a1
        obtain ⟨b1, b2, _⟩ := a1
        have b1 : nbl f.n = true := by simpa using b1
        unfold fok at h
        rw [Bool.and_eq_false_iff] at h
        rcases h with h | h
        · unfold fon at h
          rw [b1, Bool.true_and, Bool.and_eq_false_iff] at h
          rcases h with h | h
          · rw [Bool.not_eq_false', Bool.and_eq_true] at h
            refine a2 ?_
            rw [h.1, Bool.true_and]
            unfold stray
            rw [h.2, Bool.or_true]
          · rw [Bool.not_eq_false', Bool.and_eq_true] at h
            refine a3 ?_
            rw [h.1, Bool.true_and]
            have : f.k ≠ ⟨#[]⟩ := by simpa using h.2
            rw [decide_eq_true this, Bool.true_or]
        · rw [List.all_eq_false] at h
          obtain ⟨g, hg, e⟩ := h
          have e : fpr k f g = true := by simpa using e
          unfold fpr at e
          rw [Bool.or_eq_true, Bool.or_eq_true, Bool.and_eq_true, Bool.and_eq_true, Bool.and_eq_true, decide_eq_true_eq, decide_eq_true_eq, decide_eq_true_eq, decide_eq_true_eq] at e
          rcases e with e | ⟨e1, e2⟩ | ⟨e1, e2, e3⟩
          · have : memb (pre.map (·.n)) f.n = true := memb_iff.2 (List.mem_map.2 ⟨g, hg, e⟩)
            rw [b2] at this
            cases this
          · refine a2 ?_
            rw [decide_eq_true e1, Bool.true_and]
            unfold ksP
            rw [if_pos e1, stray_eq, memb_iff.2 (List.mem_map.2 ⟨g, hg, e2⟩), Bool.true_or]
          · refine a3 ?_
            rw [decide_eq_true e1, Bool.true_and, hM e1 g hg e2, e3, Bool.and_true, Bool.or_true]
theorem ffs_yes {k : Int} {pre : List Fd} {f : Fd} {r : List Fd} (h : fok k pre f = true) : ffs k (pre.map (·.n)).reverse (ksP k pre) (mbP pre) (f :: r) = ffs k ((pre ++ [f]).map (·.n)).reverse (ksP k (pre ++ [f])) (mbP (pre ++ [f])) r := by
  unfold fok fon at h
  rw [Bool.and_eq_true, Bool.and_eq_true, Bool.and_eq_true] at h
  obtain ⟨⟨h1, h2, h3⟩, h4⟩ := h
  have h4 : ∀ g ∈ pre, fpr k f g = false := fun g hg => by simpa using List.all_eq_true.1 h4 g hg
  have hn : memb (pre.map (·.n)) f.n = false := by
    rw [← Bool.not_eq_true, memb_iff]
    intro hm
    obtain ⟨g, hg, e⟩ := List.mem_map.1 hm
    have := h4 g hg
    unfold fpr at this
    rw [decide_eq_true e, Bool.true_or] at this
    cases this
  have hs : stray (pre.map (·.n)).reverse f.n = false := by rw [stray_eq, hn, nbl_good h1]; rfl
  have hk : (decide (k = 5) && stray (ksP k pre) f.k) = false := by
    by_cases h5 : k = 5
    · rw [decide_eq_true h5, Bool.true_and]
      unfold ksP
      rw [if_pos h5, stray_eq]
      have hb : badb f.k = false := by rw [decide_eq_true h5, Bool.true_and] at h2; simpa using h2
      have hm : memb (pre.map (·.k)) f.k = false := by
        rw [← Bool.not_eq_true, memb_iff]
        intro hm
        obtain ⟨g, hg, e⟩ := List.mem_map.1 hm
        have := h4 g hg
        unfold fpr at this
        rw [decide_eq_true h5, decide_eq_true e, Bool.true_and, Bool.true_or, Bool.or_true] at this
        cases this
      rw [hm, hb]
      rfl
    · rw [decide_eq_false h5, Bool.false_and]
  have hm : (decide (k = 6) && (decide (f.k ≠ ⟨#[]⟩) || mbP pre && !f.m)) = false := by
    by_cases h6 : k = 6
    · rw [decide_eq_true h6, Bool.true_and] at h3 ⊢
      have e : f.k = ⟨#[]⟩ := by simpa using h3
      rw [decide_eq_false (fun h => h e), Bool.false_or]
      cases hb : mbP pre with
      | false => rfl
      | true =>
        obtain ⟨g, hg, eg⟩ := mbP_mem hb
        have := h4 g hg
        unfold fpr at this
        rw [decide_eq_true h6, eg, Bool.true_and, Bool.true_and, Bool.or_eq_false_iff, Bool.or_eq_false_iff] at this
        rw [Bool.true_and]
        exact this.2.2
    · rw [decide_eq_false h6, Bool.false_and]
  rw [ffs, h1, hs, hk, hm, if_neg (by decide), if_neg (by decide), if_neg (by decide), mbP_app, ksP_app, List.map_append, List.reverse_append]
  rfl
theorem mon_app {k : Int} {pre : List Fd} {f : Fd} (_ : Mon k pre) (h : fok k pre f = true) : Mon k (pre ++ [f]) := by
  intro h6 g hg hm
  rw [mbP_app]
  rcases List.mem_append.1 hg with hg | hg
  · unfold fok at h
    rw [Bool.and_eq_true] at h
    have : fpr k f g = false := by simpa using List.all_eq_true.1 h.2 g hg
    unfold fpr at this
    rw [decide_eq_true h6, hm, Bool.true_and, Bool.true_and, Bool.or_eq_false_iff, Bool.or_eq_false_iff] at this
    simpa using this.2.2
  · rw [List.mem_singleton.1 hg] at hm
    exact hm
/-! ### One type by itself -/
theorem tdy_len (t : Tp) : tdy t = (decide (1 ≤ t.k ∧ t.k ≤ 9) && len11 t) := by
  unfold tdy len11 usN usR usF usC usW
  simp only
  rw [Bool.eq_iff_iff]
  simp only [Bool.and_eq_true, Bool.or_eq_true, decide_eq_true_eq, List.isEmpty_iff, List.length_eq_zero_iff, beq_iff_eq]
  constructor
  · rintro ⟨⟨⟨⟨⟨h1, h2⟩, h3⟩, h4⟩, h5⟩, h6⟩
    exact ⟨h1, h2.imp_right And.left, h2.imp_right And.right, h3, h4, h5, h6⟩
  · rintro ⟨h1, h2, h2', h3, h4, h5, h6⟩
    refine ⟨⟨⟨⟨⟨h1, ?_⟩, h3⟩, h4⟩, h5⟩, h6⟩
    rcases h2 with h2 | h2
    · exact .inl h2
    · rcases h2' with h2' | h2'
      · exact .inl h2'
      · exact .inr ⟨h2, h2'⟩
/-- The range, as the reference asks it. -/
def rgb (t : Tp) : Bool := (decide (t.k = 2) && decide (t.hi < t.lo)) || ((decide (t.k = 3) || decide (t.k = 4)) && (decide (t.lo < 0) || decide (t.hi < t.lo)))
theorem rgb_eq {t : Tp} (h : tdy t = true) : rgb t = decide (t.lo > t.hi ∨ (t.lo < 0 ∧ t.k ≠ 2)) := by
  rw [tdy_len, Bool.and_eq_true] at h
  obtain ⟨_, h⟩ := h
  unfold len11 at h
  rw [Bool.and_eq_true, Bool.and_eq_true] at h
  obtain ⟨h1, h2, _⟩ := h
  unfold usN at h1 h2
  rw [Bool.or_eq_true, decide_eq_true_eq, decide_eq_true_eq] at h1 h2
  unfold rgb
  rw [Bool.eq_iff_iff]
  simp only [Bool.or_eq_true, Bool.and_eq_true, decide_eq_true_eq]
  omega
theorem fft_other {t : Tp} (h : tdy t = true) (hk : ¬ (t.k = 5 ∨ t.k = 6)) : fft t = true := by
  unfold tdy at h
  simp only [Bool.and_eq_true, Bool.or_eq_true, decide_eq_true_eq, List.isEmpty_iff] at h
  obtain ⟨⟨⟨_, h4⟩, _⟩, _⟩ := h
  have e := h4.resolve_left hk
  unfold fft
  rw [e]
  rfl
theorem cft_other {t : Tp} (hk : t.k < 7) : cft t = true := by
  unfold cft
  rw [if_neg (by omega), if_neg (by omega), if_neg (by omega)]
theorem fnd_pli (l : List Tp) (s : ByteArray) : (!(fnd l s).2) = (decide (pli l s < 0) && !memb bltn s) := by
  unfold pli
  rw [memb_bltn]
  cases hp : plc l s with
  | none => rw [fnd_none_2 hp]; rfl
  | some i =>
    obtain ⟨t, ht, _⟩ := plc_lt hp
    rw [fnd_some hp ht, decide_eq_false (by simp only; omega)]
    rfl
end
section
open Go.RowKit Go
/-! ### Takes, the reference's -/
def nBool : ByteArray := ⟨#[98, 111, 111, 108]⟩
def nInt : ByteArray := ⟨#[105, 110, 116]⟩
def nFloat : ByteArray := ⟨#[102, 108, 111, 97, 116]⟩
def nSingle : ByteArray := ⟨#[115, 105, 110, 103, 108, 101]⟩
def nText : ByteArray := ⟨#[116, 101, 120, 116]⟩
def nBytes : ByteArray := ⟨#[98, 121, 116, 101, 115]⟩
theorem bool_l : nBool.toList = [98, 111, 111, 108] := by rw [ByteArray.toList_eq]; rfl
theorem int_l : nInt.toList = [105, 110, 116] := by rw [ByteArray.toList_eq]; rfl
theorem float_l : nFloat.toList = [102, 108, 111, 97, 116] := by rw [ByteArray.toList_eq]; rfl
theorem single_l : nSingle.toList = [115, 105, 110, 103, 108, 101] := by rw [ByteArray.toList_eq]; rfl
theorem text_l : nText.toList = [116, 101, 120, 116] := by rw [ByteArray.toList_eq]; rfl
theorem bytes_l : nBytes.toList = [98, 121, 116, 101, 115] := by rw [ByteArray.toList_eq]; rfl
theorem own_last {s : ByteArray} (h : (ownK s).isSome = true) (h1 : s ≠ nAny) (h2 : s ≠ nNull) (h3 : s ≠ nBool) (h4 : s ≠ nInt) (h5 : s ≠ nFloat) (h6 : s ≠ nSingle) (h7 : s ≠ nText) (h8 : s ≠ nBytes) : ownK s = some 7 := by
  obtain ⟨k, hk⟩ := Option.isSome_iff_exists.1 h
  have hk2 := hk
  unfold ownK at hk
  obtain ⟨p, hp, rfl⟩ := Option.map_eq_some_iff.1 hk
  have hm := List.mem_of_find?_eq_some hp
  have he : p.1 = s := by simpa using List.find?_some hp
  simp only [owns, List.mem_cons, List.not_mem_nil, or_false] at hm
  rcases hm with rfl | rfl | rfl | rfl | rfl | rfl | rfl | rfl | rfl
  · exact absurd he.symm h1
  · exact absurd he.symm h2
  · exact absurd he.symm h3
  · exact absurd he.symm h4
  · exact absurd he.symm h5
  · exact absurd he.symm h6
  · exact absurd he.symm h7
  · exact absurd he.symm h8
  · exact hk2
theorem ckd_own {l : List Tp} (F : Fst l) {s : ByteArray} {k : Nat} (hp : plc l (flr l s).1 = none) (hk : ownK (flr l s).1 = some k) : ckd l s = k := by
  unfold ckd
  rw [flo_flr F]
  simp only
  rw [fnd_none_1 hp (by rw [hk]; rfl)]
  unfold knd otp
  simp [hk]
theorem ckd_typ {l : List Tp} (F : Fst l) {s : ByteArray} {i : Nat} {t : Tp} (hp : plc l (flr l s).1 = some i) (ht : l[i]? = some t) : ckd l s = knd t := by
  unfold ckd
  rw [flo_flr F]
  simp only
  rw [fnd_some hp ht]
theorem dec_eq {a k c : Nat} (h : a = c) : ((k : Int) == (c : Int)) = decide (a = k) := by
  rw [Bool.eq_iff_iff, beq_iff_eq, decide_eq_true_eq]
  omega
set_option maxRecDepth 1000000 in
set_option maxHeartbeats 2000000 in
theorem takes11_any (w : World) (v : Value) (l : List Tp) (hv : TSl w v l) (F : Fst l) (s : ByteArray) (hs : Cok l s) (k : Nat) : Calls Tryz.prog 88 #[v, .string s, .int .i64 (k : Nat)] w fun e w' => e = .returned (.bool (decide (ckd l s = k))) ∧ w' = w := by
  have hmax := hv.max
  have HFO := hide (follow11_any w v l hv s)
  rw [hs.ends, hs.null] at HFO
  have HPL := hide (place11_any w v l hv (flr l s).1)
  obtain ⟨⟨a, cap, rfl, hn, hc⟩, _⟩ := hv
  have HC := hide hc
  have HF := hide F
  have HS := hide hs
  clear hc hn F hs
  obtain ⟨D, hD⟩ : ∃ D, decide (ckd l s = k) = D := ⟨_, rfl⟩
  rw [hD]
  have HD := hide hD
  clear hD
  obtain ⟨E, hE⟩ : ∃ E, (flr l s).1 = E := ⟨_, rfl⟩
  rw [hE] at HFO HPL
  have HE := hide hE
  clear hE
  obtain ⟨b1, hb1⟩ : ∃ b, ((k : Int) == 1) = b := ⟨_, rfl⟩
  go_enter Tryz.func88, Tryz.ntmps88
  go_upto_region 2 with (go_at_call 23; refine HFO.out.mono ?_; rintro e wq ⟨rfl, hwq⟩; have hwq := hwq.symm; subst hwq)
  go_cut [23] from 19 to 24 (fun v wx => v = .bool false ∧ wx = w)
  case first =>
    cases b1 <;> (
      go_wp2_with fail
      go_meet
      case rel => exact ⟨rfl, rfl⟩)
  obtain ⟨rfl, hww⟩ := hcut
  have hww := hww.symm
  subst hww
  clear hb1
  cases hp : plc l E with
  | none =>
    have HPE : Hid (pli l E = -1) := by show _ = _; unfold pli; rw [hp]
    rw [HPE.out] at HPL
    have HP : Hid (plc l (flr l s).1 = none) := by show _ = _; rw [HE.out]; exact hp
    obtain ⟨n1, n2⟩ := HS.out.fen.null HP.out HS.out.null
    have hio : (ownK E).isSome = true := by
      have h1 := HS.out.fen.known
      rw [fnd_none_2 HP.out, HE.out] at h1
      exact h1
    rw [HE.out] at n1 n2
    have HCK : Hid (∀ c, ownK E = some c → ((k : Int) == (c : Int)) = D) := fun c hc => by
      rw [← HD.out]
      exact dec_eq (ckd_own HF.out HP.out (by rw [HE.out]; exact hc))
    have HIO := hide hio
    clear hp hio
    have e1 : (E.toList == [97, 110, 121]) = false := by have := str_no n1; rw [any_list] at this; exact this
    have e2 : (E.toList == [110, 117, 108, 108]) = false := by have := str_no n2; rw [null_list] at this; exact this
    by_cases n3 : E = nBool
    · as_aux_lemma =>
      have e3 : (E.toList == [98, 111, 111, 108]) = true := by rw [n3, bool_l]; rfl
      have gk := HCK.out 2 (by rw [n3]; decide)
      clear n1 n2 n3
      go_wp2_with (go_at_call 50; refine HPL.out.mono ?_; rintro e wq ⟨rfl, hwq⟩; have hwq := hwq.symm; subst hwq)
      go_ret
      exact ⟨by rw [← gk] <;> rfl, rfl⟩
    have e3 : (E.toList == [98, 111, 111, 108]) = false := by have := str_no n3; rw [bool_l] at this; exact this
    by_cases n4 : E = nInt
    · as_aux_lemma =>
      have e4 : (E.toList == [105, 110, 116]) = true := by rw [n4, int_l]; rfl
      have gk := HCK.out 3 (by rw [n4]; decide)
      clear n1 n2 n3 n4
      go_wp2_with (go_at_call 50; refine HPL.out.mono ?_; rintro e wq ⟨rfl, hwq⟩; have hwq := hwq.symm; subst hwq)
      go_ret
      exact ⟨by rw [← gk] <;> rfl, rfl⟩
    have e4 : (E.toList == [105, 110, 116]) = false := by have := str_no n4; rw [int_l] at this; exact this
    by_cases n5 : E = nFloat
    · as_aux_lemma =>
      have e5 : (E.toList == [102, 108, 111, 97, 116]) = true := by rw [n5, float_l]; rfl
      have gk := HCK.out 4 (by rw [n5]; decide)
      clear n1 n2 n3 n4 n5
      go_wp2_with (go_at_call 50; refine HPL.out.mono ?_; rintro e wq ⟨rfl, hwq⟩; have hwq := hwq.symm; subst hwq)
      go_ret
      exact ⟨by rw [← gk] <;> rfl, rfl⟩
    have e5 : (E.toList == [102, 108, 111, 97, 116]) = false := by have := str_no n5; rw [float_l] at this; exact this
    by_cases n6 : E = nSingle
    · as_aux_lemma =>
      have e6 : (E.toList == [115, 105, 110, 103, 108, 101]) = true := by rw [n6, single_l]; rfl
      have gk := HCK.out 4 (by rw [n6]; decide)
      clear n1 n2 n3 n4 n5 n6
      go_wp2_with (go_at_call 50; refine HPL.out.mono ?_; rintro e wq ⟨rfl, hwq⟩; have hwq := hwq.symm; subst hwq)
      go_ret
      exact ⟨by rw [← gk] <;> rfl, rfl⟩
    have e6 : (E.toList == [115, 105, 110, 103, 108, 101]) = false := by have := str_no n6; rw [single_l] at this; exact this
    by_cases n7 : E = nText
    · as_aux_lemma =>
      have e7 : (E.toList == [116, 101, 120, 116]) = true := by rw [n7, text_l]; rfl
      have gk := HCK.out 5 (by rw [n7]; decide)
      clear n1 n2 n3 n4 n5 n6 n7
      go_wp2_with (go_at_call 50; refine HPL.out.mono ?_; rintro e wq ⟨rfl, hwq⟩; have hwq := hwq.symm; subst hwq)
      go_ret
      exact ⟨by rw [← gk] <;> rfl, rfl⟩
    have e7 : (E.toList == [116, 101, 120, 116]) = false := by have := str_no n7; rw [text_l] at this; exact this
    by_cases n8 : E = nBytes
    · as_aux_lemma =>
      have e8 : (E.toList == [98, 121, 116, 101, 115]) = true := by rw [n8, bytes_l]; rfl
      have gk := HCK.out 6 (by rw [n8]; decide)
      clear n1 n2 n3 n4 n5 n6 n7 n8
      go_wp2_with (go_at_call 50; refine HPL.out.mono ?_; rintro e wq ⟨rfl, hwq⟩; have hwq := hwq.symm; subst hwq)
      go_ret
      exact ⟨by rw [← gk] <;> rfl, rfl⟩
    as_aux_lemma =>
      have e8 : (E.toList == [98, 121, 116, 101, 115]) = false := by have := str_no n8; rw [bytes_l] at this; exact this
      have gk := HCK.out 7 (own_last HIO.out n1 n2 n3 n4 n5 n6 n7 n8)
      clear n1 n2 n3 n4 n5 n6 n7 n8
      go_wp2_with (go_at_call 50; refine HPL.out.mono ?_; rintro e wq ⟨rfl, hwq⟩; have hwq := hwq.symm; subst hwq)
      go_ret
      exact ⟨by rw [← gk] <;> rfl, rfl⟩
  | some j =>
    have HPE : Hid (pli l E = (j : Nat)) := by show _ = _; unfold pli; rw [hp]
    rw [HPE.out] at HPL
    have HP : Hid (plc l (flr l s).1 = some j) := by show _ = _; rw [HE.out]; exact hp
    obtain ⟨t, ht, htn⟩ := plc_lt hp
    have hjl : j < l.length := (List.getElem?_eq_some_iff.1 ht).1
    have g2 : (j : Int) < (l.length : Int) := by omega
    have g3 : ¬ (j : Int) < 0 := by omega
    obtain ⟨b, off, rfl, hcc⟩ := HC.out.resolve_left (fun h => by rw [h] at hjl; simp at hjl)
    obtain ⟨c, ⟨⟨vf, vc, vw, rfl, _⟩, _⟩, hcell⟩ := hcc j t ht
    have q1 := hcell 1 (.int .i64 t.k) rfl
    have hk1 : t.k ≠ 1 := by have h1 := HS.out.fen.kind; rw [fnd_some HP.out ht] at h1; exact h1
    have hk8 : t.k ≠ 8 := by have h1 := HS.out.one; rw [fnd_some HP.out ht] at h1; exact h1
    have htd := HF.out.tdy t (List.mem_of_getElem? ht)
    rw [tdy_len, Bool.and_eq_true, decide_eq_true_eq] at htd
    have HCK : Hid (∀ c, knd t = c → ((k : Int) == (c : Int)) = D) := fun c hc => by
      rw [← HD.out]
      exact dec_eq ((ckd_typ HF.out HP.out ht).trans hc)
    obtain ⟨hkr, _⟩ := htd
    clear hp ht htn hcc hcell
    by_cases k2 : t.k = 2
    · as_aux_lemma =>
      have g4 : (t.k == 2) = true := beq_iff_eq.2 k2
      have gk := HCK.out 3 (by unfold knd; rw [if_pos k2])
      clear hk1 hk8 hkr k2
      go_wp2_with (go_at_call 50; refine HPL.out.mono ?_; rintro e wq ⟨rfl, hwq⟩; have hwq := hwq.symm; subst hwq)
      go_ret
      exact ⟨by rw [← gk] <;> rfl, rfl⟩
    have g4 : (t.k == 2) = false := beq_eq_false_iff_ne.2 k2
    by_cases k3 : t.k = 3
    · as_aux_lemma =>
      have g5 : (t.k == 3) = true := beq_iff_eq.2 k3
      have gk := HCK.out 8 (by unfold knd; rw [if_neg k2, if_pos (.inl k3)])
      clear hk1 hk8 hkr k2 k3
      go_wp2_with (go_at_call 50; refine HPL.out.mono ?_; rintro e wq ⟨rfl, hwq⟩; have hwq := hwq.symm; subst hwq)
      go_ret
      exact ⟨by rw [← gk] <;> rfl, rfl⟩
    have g5 : (t.k == 3) = false := beq_eq_false_iff_ne.2 k3
    by_cases k6 : t.k = 6
    · as_aux_lemma =>
      have g6 : (t.k == 6) = true := beq_iff_eq.2 k6
      have gk := HCK.out 8 (by unfold knd; rw [if_neg k2, if_pos (.inr k6)])
      clear hk1 hk8 hkr k2 k3 k6
      go_wp2_with (go_at_call 50; refine HPL.out.mono ?_; rintro e wq ⟨rfl, hwq⟩; have hwq := hwq.symm; subst hwq)
      go_ret
      exact ⟨by rw [← gk] <;> rfl, rfl⟩
    have g6 : (t.k == 6) = false := beq_eq_false_iff_ne.2 k6
    by_cases k9 : t.k = 9
    · as_aux_lemma =>
      have g9 : (t.k == 9) = true := beq_iff_eq.2 k9
      have gk := HCK.out 5 (by unfold knd; rw [if_neg k2, if_neg (fun h => h.elim k3 k6), if_neg (by omega), if_pos k9])
      clear hk1 hk8 hkr k2 k3 k6 k9
      go_wp2_with (go_at_call 50; refine HPL.out.mono ?_; rintro e wq ⟨rfl, hwq⟩; have hwq := hwq.symm; subst hwq)
      go_ret
      exact ⟨by rw [← gk] <;> rfl, rfl⟩
    as_aux_lemma =>
      have g9 : (t.k == 9) = false := beq_eq_false_iff_ne.2 k9
      have g8 : (t.k == 8) = false := beq_eq_false_iff_ne.2 hk8
      have gk := HCK.out 9 (by unfold knd; rw [if_neg k2, if_neg (fun h => h.elim k3 k6), if_pos (by omega)])
      clear hk1 hk8 hkr k2 k3 k6 k9
      go_wp2_with (go_at_call 50; refine HPL.out.mono ?_; rintro e wq ⟨rfl, hwq⟩; have hwq := hwq.symm; subst hwq)
      go_ret
      exact ⟨by rw [← gk] <;> rfl, rfl⟩
end
end Go.Proofs.YtcmfgambfgebfaaGreatDoor
