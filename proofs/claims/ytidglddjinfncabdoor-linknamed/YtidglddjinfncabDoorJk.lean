import Derived.Test.YtidglddjinfncabDoorJj
import Derived.Laws.MakeOwn
namespace Go.Proofs.YtidglddjinfncabDoor
section
open Go.RowKit Go
/-- Which digit each byte is, counted from 1, by the first k digits. -/
def plt (t : List Nat) : Nat → List Nat
  | 0 => List.replicate 256 0
  | k + 1 => (plt t k).set (t.getD k 0) (k + 1)
theorem plt_len (t : List Nat) : ∀ k, (plt t k).length = 256
  | 0 => List.length_replicate
  | k + 1 => by rw [plt, List.length_set, plt_len t k]
theorem bv_set (l : List Nat) (i x : Nat) : (bv l).toArray.setIfInBounds i (.int .u8 ((x : Nat) : Int)) = (bv (l.set i x)).toArray := by
  simp [bv, List.map_set]
set_option maxRecDepth 100000 in
def Tryd.zeroCells95 : Array Value := #[.int .u8 0, .int .u8 0, .int .u8 0, .int .u8 0, .int .u8 0, .int .u8 0, .int .u8 0, .int .u8 0, .int .u8 0, .int .u8 0, .int .u8 0, .int .u8 0, .int .u8 0, .int .u8 0, .int .u8 0, .int .u8 0, .int .u8 0, .int .u8 0, .int .u8 0, .int .u8 0, .int .u8 0, .int .u8 0, .int .u8 0, .int .u8 0, .int .u8 0, .int .u8 0, .int .u8 0, .int .u8 0, .int .u8 0, .int .u8 0, .int .u8 0, .int .u8 0, .int .u8 0, .int .u8 0, .int .u8 0, .int .u8 0, .int .u8 0, .int .u8 0, .int .u8 0, .int .u8 0, .int .u8 0, .int .u8 0, .int .u8 0, .int .u8 0, .int .u8 0, .int .u8 0, .int .u8 0, .int .u8 0, .int .u8 0, .int .u8 0, .int .u8 0, .int .u8 0, .int .u8 0, .int .u8 0, .int .u8 0, .int .u8 0, .int .u8 0, .int .u8 0, .int .u8 0, .int .u8 0, .int .u8 0, .int .u8 0, .int .u8 0, .int .u8 0, .int .u8 0, .int .u8 0, .int .u8 0, .int .u8 0, .int .u8 0, .int .u8 0, .int .u8 0, .int .u8 0, .int .u8 0, .int .u8 0, .int .u8 0, .int .u8 0, .int .u8 0, .int .u8 0, .int .u8 0, .int .u8 0, .int .u8 0, .int .u8 0, .int .u8 0, .int .u8 0, .int .u8 0, .int .u8 0, .int .u8 0, .int .u8 0, .int .u8 0, .int .u8 0, .int .u8 0, .int .u8 0, .int .u8 0, .int .u8 0, .int .u8 0, .int .u8 0, .int .u8 0, .int .u8 0, .int .u8 0, .int .u8 0, .int .u8 0, .int .u8 0, .int .u8 0, .int .u8 0, .int .u8 0, .int .u8 0, .int .u8 0, .int .u8 0, .int .u8 0, .int .u8 0, .int .u8 0, .int .u8 0, .int .u8 0, .int .u8 0, .int .u8 0, .int .u8 0, .int .u8 0, .int .u8 0, .int .u8 0, .int .u8 0, .int .u8 0, .int .u8 0, .int .u8 0, .int .u8 0, .int .u8 0, .int .u8 0, .int .u8 0, .int .u8 0, .int .u8 0, .int .u8 0, .int .u8 0, .int .u8 0, .int .u8 0, .int .u8 0, .int .u8 0, .int .u8 0, .int .u8 0, .int .u8 0, .int .u8 0, .int .u8 0, .int .u8 0, .int .u8 0, .int .u8 0, .int .u8 0, .int .u8 0, .int .u8 0, .int .u8 0, .int .u8 0, .int .u8 0, .int .u8 0, .int .u8 0, .int .u8 0, .int .u8 0, .int .u8 0, .int .u8 0, .int .u8 0, .int .u8 0, .int .u8 0, .int .u8 0, .int .u8 0, .int .u8 0, .int .u8 0, .int .u8 0, .int .u8 0, .int .u8 0, .int .u8 0, .int .u8 0, .int .u8 0, .int .u8 0, .int .u8 0, .int .u8 0, .int .u8 0, .int .u8 0, .int .u8 0, .int .u8 0, .int .u8 0, .int .u8 0, .int .u8 0, .int .u8 0, .int .u8 0, .int .u8 0, .int .u8 0, .int .u8 0, .int .u8 0, .int .u8 0, .int .u8 0, .int .u8 0, .int .u8 0, .int .u8 0, .int .u8 0, .int .u8 0, .int .u8 0, .int .u8 0, .int .u8 0, .int .u8 0, .int .u8 0, .int .u8 0, .int .u8 0, .int .u8 0, .int .u8 0, .int .u8 0, .int .u8 0, .int .u8 0, .int .u8 0, .int .u8 0, .int .u8 0, .int .u8 0, .int .u8 0, .int .u8 0, .int .u8 0, .int .u8 0, .int .u8 0, .int .u8 0, .int .u8 0, .int .u8 0, .int .u8 0, .int .u8 0, .int .u8 0, .int .u8 0, .int .u8 0, .int .u8 0, .int .u8 0, .int .u8 0, .int .u8 0, .int .u8 0, .int .u8 0, .int .u8 0, .int .u8 0, .int .u8 0, .int .u8 0, .int .u8 0, .int .u8 0, .int .u8 0, .int .u8 0, .int .u8 0, .int .u8 0, .int .u8 0, .int .u8 0, .int .u8 0, .int .u8 0, .int .u8 0, .int .u8 0, .int .u8 0, .int .u8 0, .int .u8 0, .int .u8 0, .int .u8 0, .int .u8 0, .int .u8 0, .int .u8 0, .int .u8 0, .int .u8 0, .int .u8 0, .int .u8 0, .int .u8 0, .int .u8 0]
@[simp] theorem zero256_run (w : World) : Sem.run Tryd.prog (zeroValue 95) w = .ok (.agg Tryd.zeroCells95) w := by kernel_rfl
@[simp] theorem zero256_size : Tryd.zeroCells95.size = 256 := by kernel_rfl
@[simp] theorem zero256_ne : Tryd.zeroCells95 ≠ #[] := fun h => by have := congrArg Array.size h; simp at this
theorem zero256 : Tryd.zeroCells95 = (bv (List.replicate 256 0)).toArray := by kernel_rfl
theorem info256 : (Tryd.prog.info? 95).map (·.size) = some 256 := by kernel_rfl
/-- How a function ends whose result is an array. -/
theorem end_a1 {fn : Func} {p : Tmp} {T e : TypeId} {m n : Nat} {wx : World} {R : Nat} {cs : Array Value} {tmps : Array Value} (hf : fn.results = #[.cell p T]) (hu : Tryd.prog.underlying T = some (.array m e)) (hi : (Tryd.prog.info? T).map (·.size) = some n) (hn : cs.size = n)
    (hr : wx.heap[R]? = some (.cells cs T (0, 0))) (hp : tmps.getD p undef = .pointer (some ⟨R, 0, none⟩)) : (results fn tmps).run Tryd.prog wx = .ok (.agg cs) wx := by
  refine (results_one hf _ _ _).trans ?_
  rw [hp]
  have h1 := run_loadVar_row (P := Tryd.prog) wx R T T cs (0, 0) _ hr hu rfl (by rw [hn]; exact hi)
  simp [asAddr, h1, Result.andThen]
theorem sl_at (D : ByteArray) (k : Nat) (h : k < D.size) : (sl D).getD k 0 = D[k].toNat := by
  rw [sl_get]
  congr 1
  have h2 : k < D.data.toList.length := by rw [Array.length_toList]; exact h
  rw [List.getD_eq_getElem?_getD, List.getElem?_eq_getElem h2]
  rfl
/-- What places has in hand. -/
structure Plw (w wx : World) (L D : ByteArray) (n : Int) (k : Nat) : Prop where
  r : wx.heap[w.heap.size]? = some (.cells #[.string L, .string D, .int .i64 n] 63 (0, 0))
  z : wx.heap[w.heap.size + 1]? = some (.cells (bv (List.replicate 256 0)).toArray 95 (0, 0))
  o : wx.heap[w.heap.size + 1 + 1]? = some (.cells (bv (plt (sl D) k)).toArray 95 (0, 0))
  b : Below w.heap.size w wx
set_option maxRecDepth 1000000 in
set_option maxHeartbeats 1000000 in
theorem places_any (w : World) (L D : ByteArray) (n : Int) (hD : D.size ≤ 58) :
    Calls Tryd.prog 47 #[.agg #[.string L, .string D, .int .i64 n]] w fun e w' => e = .returned (.agg (bv (plt (sl D) D.size)).toArray) ∧ Below w.heap.size w w' := by
  have HP : Hid (Plw w (((w.alloc (.cells #[.string L, .string D, .int .i64 n] 63)).alloc (.cells Tryd.zeroCells95 95)).alloc (.cells Tryd.zeroCells95 95)) L D n 0) := by
    rw [zero256]
    refine ⟨blk_alloc _ (blk_alloc _ (heap_alloc_new w _)), blk_alloc _ (alloc2_new w _ _), ?_, (below_alloc4 w _).trans (((below_alloc4 _ _).trans ((below_alloc4 _ _).mono (by simp))).mono (by simp))⟩
    have h := heap_alloc_new ((w.alloc (.cells #[.string L, .string D, .int .i64 n] 63)).alloc (.cells (bv (List.replicate 256 0)).toArray 95)) (.cells (bv (List.replicate 256 0)).toArray 95)
    have e : ((w.alloc (.cells #[.string L, .string D, .int .i64 n] 63)).alloc (.cells (bv (List.replicate 256 0)).toArray 95)).heap.size = w.heap.size + 1 + 1 := by simp
    rw [e] at h
    exact h
  go_enter Tryd.func47, Tryd.ntmps47
  go_wp2_with fail
  generalize ((w.alloc (.cells #[.string L, .string D, .int .i64 n] 63)).alloc (.cells Tryd.zeroCells95 95)).alloc (.cells Tryd.zeroCells95 95) = w0 at *
  go_loopw [8] (fun ii wx => ∃ k : Nat, k ≤ D.size ∧ ii = .int .i64 (k : Nat) ∧ Hid (Plw w wx L D n k)) (fun ii _ => D.size - (intOf ii).toNat)
  case atStart => exact ⟨0, by omega, rfl, HP⟩
  case round =>
    obtain ⟨k, hk, rfl, HI⟩ := hrel
    clear HP
    by_cases hlt : k < D.size
    · have g1 : (k : Int) < (D.size : Int) := by omega
      have q1 : wr.cell? ⟨w.heap.size, 1, none⟩ = some (.string D) := blk_cell HI.out.r rfl
      have HK := hide hk
      have HX := hide (sl_at D k hlt)
      have hx256 : (D[k].toNat : Int) < 256 := by have := (D[k]).toNat_lt; omega
      have HX2 : Hid (D[k].toNat < 256) := (D[k]).toNat_lt
      have q2 : wr.cell? ⟨w.heap.size + 1 + 1, D[k].toNat, none⟩ = some (.int .u8 (((plt (sl D) k).getD D[k].toNat 0 : Nat) : Int)) := blk_cell HI.out.o (by rw [List.getElem?_toArray]; exact bv_get (by rw [plt_len]; exact HX2.out))
      have f2 : wr.frozen? ⟨w.heap.size + 1 + 1, D[k].toNat, none⟩ = false := blk_frozen _ HI.out.o
      have HS : Hid (Plw w (wr.setCell ⟨w.heap.size + 1 + 1, D[k].toNat, none⟩ (.int .u8 ((k + 1 : Nat) : Int))) L D n (k + 1)) := by
        have hk2 : Kp (fun q => q = w.heap.size + 1 + 1) wr (wr.setCell ⟨w.heap.size + 1 + 1, D[k].toNat, none⟩ (.int .u8 ((k + 1 : Nat) : Int))) := (Kp.refl _ _).setCell _ _ (fun _ => rfl)
        refine ⟨(hk2.block _ (blk_lt HI.out.r) (by omega)).trans HI.out.r, (hk2.block _ (blk_lt HI.out.z) (by omega)).trans HI.out.z, ?_, HI.out.b.trans (hk2.below HI.out.b.size (fun q e => by omega))⟩
        rw [plt, HX.out, ← bv_set]
        exact blk_set _ _ HI.out.o
      have hk58 : (k : Int) + 1 < 256 := by omega
      have HKE : Hid (((k + 1 : Nat) : Int) = (k : Int) + 1) := by show _ = _; omega
      rw [HKE.out] at HS
      clear hk HI HX HX2 hD
      go_wp2_with fail
      go_roundw
      case rel => exact ⟨k + 1, by omega, by go_num, HS⟩
      case measure => simp [intOf]; omega
    · have hkd : k = D.size := by omega
      have g1 : ¬ (k : Int) < (D.size : Int) := by omega
      have HO := hide HI.out.o
      have HZ := hide HI.out.z
      have HB := hide HI.out.b
      have H56 : Hid ((bv (plt (sl D) k)).toArray.size = 256) := by show _ = _; rw [List.size_toArray, bv_len, plt_len]
      have HI6 : Hid ((Tryd.prog.info? 95).map (·.size) = some (bv (plt (sl D) k)).toArray.size) := by show _ = _; rw [H56.out]; exact info256
      have HON : Hid ((bv (plt (sl D) k)).toArray.all (·.oneCell') = true) := by
        show _ = _
        rw [List.all_toArray, List.all_eq_true]
        exact bv_one _
      have HDK : Hid (k = D.size) := hkd
      clear hk hkd HI hlt
      go_wp2_with (first
        | (refine wpList_loadRow rfl rfl (w.heap.size + 1 + 1) 256 (bv (plt (sl D) k)).toArray 95 rfl HO.out Tryd.underlying95 HI6.out ?_)
        | (refine wpList_storeRow rfl rfl (w.heap.size + 1) _ (bv (plt (sl D) k)).toArray 95 rfl rfl HZ.out HI6.out (by rw [H56.out]; simp [bv]) HON.out ?_))
      have HL := hide (row_same HZ.out (cs := (bv (plt (sl D) k)).toArray))
      have HBL := hide (HB.out.trans ((row_kp wr (w.heap.size + 1) (bv (plt (sl D) k)).toArray).below HB.out.size (fun q e => by omega)))
      exact bodyPost_ret (end_a1 rfl Tryd.underlying95 info256 H56.out HL.out rfl) rfl ⟨by rw [← HDK.out], HBL.out⟩
end
section
open Go.RowKit Go
/-- Digits that the table tells. -/
def tells (t : List Nat) : Prop := ∀ c, c < 256 → (plt t t.length).getD c 0 = (match look t c with | some i => i + 1 | none => 0)
theorem tells16 : tells d16 := by unfold tells; decide +kernel
theorem tells32 : tells d32 := by unfold tells; decide +kernel
theorem tells58 : tells d58 := by unfold tells; decide +kernel
theorem looks_snoc (t : List Nat) : ∀ (s : List Nat) (c : Nat), looks t (s ++ [c]) = (looks t s).bind fun l => (look t c).map fun i => l ++ [i]
  | [], c => by
    simp only [List.nil_append, looks]
    cases look t c <;> rfl
  | x :: s, c => by
    simp only [List.cons_append, looks, looks_snoc t s c]
    cases look t x with
    | none => rfl
    | some i =>
      cases looks t s with
      | none => rfl
      | some l => cases look t c <;> rfl
theorem looks_len {t : List Nat} : ∀ {s l : List Nat}, looks t s = some l → l.length = s.length
  | [], l, h => by simp [looks] at h; subst h; rfl
  | x :: s, l, h => by
    unfold looks at h
    obtain ⟨i, _, h⟩ := Option.bind_eq_some_iff.1 h
    obtain ⟨m, hm, rfl⟩ := Option.map_eq_some_iff.1 h
    simp [looks_len hm]
theorem looks_none {t : List Nat} {s r : List Nat} (h : looks t s = none) : looks t (s ++ r) = none := by
  induction s with
  | nil => simp [looks] at h
  | cons x s ih =>
    unfold looks at h
    rw [List.cons_append, looks]
    cases hx : look t x with
    | none => rfl
    | some i =>
      rw [hx] at h
      simp only [Option.bind_some, Option.map_eq_none_iff] at h ⊢
      exact ih h
theorem bv_setL (l : List Nat) (i x : Nat) : (bv l).set i (.int .u8 ((x : Nat) : Int)) = bv (l.set i x) := by
  simp [bv, List.map_set]
theorem set_fill (ds : List Nat) (m x : Nat) (hm : 0 < m) : (ds ++ List.replicate m 0).set ds.length x = (ds ++ [x]) ++ List.replicate (m - 1) 0 := by
  obtain ⟨k, rfl⟩ : ∃ k, m = k + 1 := ⟨m - 1, by omega⟩
  rw [List.replicate_succ, List.set_append_right _ _ (Nat.le_refl _), Nat.sub_self, List.set_cons_zero]
  simp
theorem get_fill (ds : List Nat) (m : Nat) (hm : 0 < m) : (bv (ds ++ List.replicate m 0))[ds.length]? = some (.int .u8 0) := by
  obtain ⟨k, rfl⟩ : ∃ k, m = k + 1 := ⟨m - 1, by omega⟩
  simp [bv, List.replicate_succ]
theorem looks_lt {t s l : List Nat} (h : looks t s = some l) : ∀ i ∈ l, i < t.length := (looks_back h).2
theorem made_bv (c : Nat) : madeCells (Value.int .u8 0).cells c = (bv (List.replicate c 0)).toArray := by
  apply Array.ext'
  simp only [madeCells, Value.cells, bv, List.map_replicate]
  apply List.ext_getElem
  · simp
  · intro j h1 h2
    simp [Nat.mod_one]
/-- make([]byte, l, c). -/

theorem mk_bytes (w : World) (l c : Nat) (h : l ≤ c) (hc : c ≤ 1000000) : (Instr.makeSlice 30 (.int .i64 (l : Nat)) (.int .i64 (c : Nat))).run Tryd.prog w = .ok (.slice (some ⟨w.heap.size, 0, none⟩) l c) (w.alloc (.cells (bv (List.replicate c 0)).toArray 5)) := by
  obtain ⟨i5, hi, hz0, hz1, hz2⟩ := info5_ex
  have hr := run_make (P := Tryd.prog) w 30 5 i5 (.int .u8 0) Tryd.underlying30 hi hz0 .i64 .i64 l c (by omega) (by omega) (by rw [hz2]; omega) (by omega)
  simp only [Int.toNat_natCast, hz1, Nat.mul_one, made_bv] at hr
  exact hr
theorem mk_own (w : World) (B l c : Nat) (h : l ≤ c) (hc : c ≤ 1000000) (hB : B ≤ w.heap.size) : (w.alloc (.cells (bv (List.replicate c 0)).toArray 5)).ownsRow B 5 1 (.slice (some ⟨w.heap.size, 0, none⟩) l c) l (bv (List.replicate l 0)) := by
  refine ⟨by simp [bv], .inr ⟨w.heap.size, c, _, rfl, hB, heap_alloc_new w _, h, by unfold maxLen; omega, by simp [bv], ?_⟩⟩
  simp [bv, List.take_replicate, Nat.min_eq_left h]
/-- What numbers has in hand. -/
structure Nmw (w wx : World) (B : Nat) (tb : List Nat) (v : Value) (n : Nat) (ds : List Nat) : Prop where
  p : wx.heap[B]? = some (.cells (bv tb).toArray 95 (0, 0))
  o : wx.ownsRow w.heap.size 5 1 v n (bv (ds ++ List.replicate (n - ds.length) 0))
  b : Below w.heap.size w wx
set_option maxRecDepth 1000000 in
set_option maxHeartbeats 1000000 in
theorem numbers_any (w : World) (L D s : ByteArray) (m : Int) (hD : D.size ≤ 58) (hT : tells (sl D)) (hs : s.size ≤ 1000) :
    Calls Tryd.prog 40 #[.agg #[.string L, .string D, .int .i64 m], .string s] w fun e w' => ∃ v, e = .returned (.tuple #[v, .bool (looks (sl D) (sl s)).isSome]) ∧ w'.ownsRow w.heap.size 5 1 v ((looks (sl D) (sl s)).getD []).length (bv ((looks (sl D) (sl s)).getD [])) ∧ Below w.heap.size w w' := by
  have HT := hide hT
  have HD := hide hD
  have HB0 := hide (below_alloc4 w (.cells #[.string L, .string D, .int .i64 m] 63))
  clear hT hD
  go_enter Tryd.func40, Tryd.ntmps40
  go_wp2_with fail
  generalize w.alloc (.cells #[.string L, .string D, .int .i64 m] 63) = w0 at *
  refine (places_any w0 L D m HD.out).mono ?_
  rintro e w1 ⟨rfl, hb1⟩
  have HTB : Hid (∀ c, c < 256 → (plt (sl D) D.size).getD c 0 = (match look (sl D) c with | some i => i + 1 | none => 0)) := by
    have h := HT.out
    unfold tells at h
    rw [sl_len] at h
    exact h
  have HPL := hide (plt_len (sl D) D.size)
  have HB1 : Hid (Below w.heap.size w w1) := HB0.out.trans (hb1.mono HB0.out.size)
  clear hb1 HB0
  generalize plt (sl D) D.size = tb at *
  have H56 : Hid ((bv tb).toArray.size = 256) := by show _ = _; rw [List.size_toArray, bv_len, HPL.out]
  have HI6 : Hid ((Tryd.prog.info? 95).map (·.size) = some (bv tb).toArray.size) := by show _ = _; rw [H56.out]; exact info256
  have HON : Hid ((bv tb).toArray.all (·.oneCell') = true) := by
    show _ = _
    rw [List.all_toArray, List.all_eq_true]
    exact bv_one _
  have HP2 : Hid ((w1.alloc (.cells (bv tb).toArray 95)).heap[w1.heap.size]? = some (.cells (bv tb).toArray 95 (0, 0))) := heap_alloc_new w1 _
  have HB2 : Hid (Below w.heap.size w (w1.alloc (.cells (bv tb).toArray 95))) := HB1.out.trans ((below_alloc4 w1 _).mono HB1.out.size)
  have hmk := mk_bytes (w1.alloc (.cells (bv tb).toArray 95)) s.size s.size (Nat.le_refl _) (by omega)
  have HNW : Hid (Nmw w ((w1.alloc (.cells (bv tb).toArray 95)).alloc (.cells (bv (List.replicate s.size 0)).toArray 5)) w1.heap.size tb (.slice (some ⟨(w1.alloc (.cells (bv tb).toArray 95)).heap.size, 0, none⟩) s.size s.size) s.size []) :=
    ⟨blk_alloc _ HP2.out, mk_own _ _ _ _ (Nat.le_refl _) (by omega) HB2.out.size, HB2.out.trans ((below_alloc4 _ _).mono HB2.out.size)⟩
  have hz2 : (w1.alloc (.cells (bv tb).toArray 95)).heap.size = w1.heap.size + 1 := by simp
  rw [hz2] at hmk HNW
  clear HB1 HB2 HP2 hz2
  go_wp2_with (first
    | (refine wpList_storeRow rfl rfl w1.heap.size _ (bv tb).toArray 95 rfl rfl (heap_alloc_new w1 _) HI6.out (by rw [H56.out, zero256]; simp [bv]) HON.out ?_; rw [World.setRow_alloc_new]))
  clear hmk
  generalize (w1.alloc (.cells (bv tb).toArray 95)).alloc (.cells (bv (List.replicate s.size 0)).toArray 5) = w4 at *
  generalize w1.heap.size = B at *
  go_loopw [17] (fun ii wx => ∃ (k : Nat) (ds : List Nat), k ≤ s.size ∧ ii = .int .i64 (k : Nat) ∧ Hid (looks (sl D) ((sl s).take k) = some ds) ∧ Hid (Nmw w wx B tb (.slice (some ⟨B + 1, 0, none⟩) s.size s.size) s.size ds)) (fun ii _ => s.size - (intOf ii).toNat)
  case atStart => exact ⟨0, [], by omega, rfl, rfl, HNW⟩
  case round =>
    obtain ⟨k, ds, hk, rfl, HLK, HI⟩ := hrel
    clear HNW
    by_cases hlt : k < s.size
    · have g1 : (k : Int) < (s.size : Int) := by omega
      have HX := hide (sl_at s k hlt)
      have hx256 : (s[k].toNat : Int) < 256 := by have := (s[k]).toNat_lt; omega
      have HX2 : Hid (s[k].toNat < 256) := (s[k]).toNat_lt
      have q2 : wr.cell? ⟨B, s[k].toNat, none⟩ = some (.int .u8 ((tb.getD s[k].toNat 0 : Nat) : Int)) := blk_cell HI.out.p (by rw [List.getElem?_toArray]; exact bv_get (by rw [HPL.out]; exact HX2.out))
      have HSN : Hid ((sl s).take (k + 1) = (sl s).take k ++ [s[k].toNat]) := by
        show _ = _
        have h1 : k < (sl s).length := by rw [sl_len]; exact hlt
        rw [List.take_succ_eq_append_getElem h1]
        have h2 := HX.out
        rw [List.getD_eq_getElem?_getD, List.getElem?_eq_getElem h1] at h2
        simp at h2
        rw [h2]
      have HDL : Hid (ds.length = k) := by
        have h := looks_len HLK.out
        rw [List.length_take, sl_len] at h
        show _ = _
        omega
      have hTB := HTB.out s[k].toNat HX2.out
      cases hlo : look (sl D) s[k].toNat with
      | none =>
        as_aux_lemma =>
        rw [hlo] at hTB
        simp only at hTB
        rw [hTB] at q2
        have HN : Hid (looks (sl D) (sl s) = none) := by
          have h1 : looks (sl D) ((sl s).take (k + 1)) = none := by rw [HSN.out, looks_snoc, HLK.out, hlo]; rfl
          have h2 := looks_none (r := (sl s).drop (k + 1)) h1
          rw [List.take_append_drop] at h2
          exact h2
        have HB := hide HI.out.b
        clear hlo hTB
        go_wp2_with fail
        go_ret2
        exact ⟨_, by rw [HN.out]; rfl, by rw [HN.out]; exact World.ownsRow_nil _ _ _ _, HB.out⟩
      | some i =>
        as_aux_lemma =>
        rw [hlo] at hTB
        simp only at hTB
        rw [hTB] at q2
        have HLK2 : Hid (looks (sl D) ((sl s).take (k + 1)) = some (ds ++ [i])) := by show _ = _; rw [HSN.out, looks_snoc, HLK.out, hlo]; rfl
        have hi58 : i < 58 := by
          have h1 := looks_lt HLK2.out i (by simp)
          rw [sl_len] at h1
          have := HD.out
          omega
        have hcf := own_cell HI.out.o (get_fill ds (s.size - ds.length) (by have := HDL.out; omega))
        rw [HDL.out] at hcf
        obtain ⟨c3, f3⟩ := hcf
        have HS : Hid (Nmw w (wr.setCell ⟨B + 1, k, none⟩ (.int .u8 ((i : Nat) : Int))) B tb (.slice (some ⟨B + 1, 0, none⟩) s.size s.size) s.size (ds ++ [i])) := by
          have hk2 : Kp (fun q => q = B + 1) wr (wr.setCell ⟨B + 1, k, none⟩ (.int .u8 ((i : Nat) : Int))) := (Kp.refl _ _).setCell _ _ (fun _ => rfl)
          have ho := own_set (j := k) (.int .u8 ((i : Nat) : Int)) HI.out.o
          have hge := (HI.out.o.lt (B + 1) rfl).1
          refine ⟨(hk2.block _ (blk_lt HI.out.p) (by omega)).trans HI.out.p, ?_, HI.out.b.trans (hk2.below HI.out.b.size (fun q e => by omega))⟩
          rw [bv_setL] at ho
          have hsf := set_fill ds (s.size - ds.length) i (by have := HDL.out; omega)
          rw [HDL.out] at hsf
          rw [HDL.out, hsf] at ho
          rw [List.length_append, HDL.out, List.length_singleton]
          have e : s.size - (k + 1) = s.size - k - 1 := by omega
          rw [e]
          exact ho
        have g5 : (((i + 1 : Nat) : Int) == 0) = false := beq_eq_false_iff_ne.2 (by omega)
        have g6 : ((i + 1 : Nat) : Int) - 1 = (i : Int) := by omega
        have g7 : ((i + 1 : Nat) : Int) < 256 := by omega
        clear hlo hTB HI HLK HX HX2 HSN HDL
        generalize ((i + 1 : Nat) : Int) = i1 at *
        go_wp2_with fail
        go_roundw
        case rel => exact ⟨k + 1, ds ++ [i], by omega, by go_num, HLK2, HS⟩
        case measure => simp [intOf]; omega
    · have hks : k = s.size := by omega
      have g1 : ¬ (k : Int) < (s.size : Int) := by omega
      have HLA : Hid (looks (sl D) (sl s) = some ds) := by
        have h := HLK.out
        rw [List.take_of_length_le (by rw [sl_len]; omega)] at h
        exact h
      have HDL : Hid (ds.length = s.size) := by
        have h := looks_len HLA.out
        rw [sl_len] at h
        exact h
      have HO : Hid (wr.ownsRow w.heap.size 5 1 (.slice (some ⟨B + 1, 0, none⟩) s.size s.size) ds.length (bv ds)) := by
        have h := HI.out.o
        rw [HDL.out, Nat.sub_self, List.replicate_zero, List.append_nil] at h
        show World.ownsRow _ _ _ _ _ _ _
        rw [HDL.out]
        exact h
      have HB := hide HI.out.b
      clear hk hks HI HLK hlt
      go_wp2_with fail
      go_ret2
      exact ⟨_, by rw [HLA.out]; rfl, by rw [HLA.out]; exact HO.out, HB.out⟩
end
section
open Go.RowKit Go
/-- Turned from both ends so far. -/
def revd (xs : List Nat) (k : Nat) : List Nat := (List.range xs.length).map fun j => if j < k ∨ xs.length - k ≤ j then xs.getD (xs.length - 1 - j) 0 else xs.getD j 0
theorem revd_len (xs : List Nat) (k : Nat) : (revd xs k).length = xs.length := by simp [revd]
theorem revd_get (xs : List Nat) (k j : Nat) (h : j < xs.length) : (revd xs k).getD j 0 = if j < k ∨ xs.length - k ≤ j then xs.getD (xs.length - 1 - j) 0 else xs.getD j 0 := by
  simp [revd, List.getD, h]
theorem ext_getD {xs ys : List Nat} (hl : xs.length = ys.length) (h : ∀ j, j < xs.length → xs.getD j 0 = ys.getD j 0) : xs = ys := by
  apply List.ext_getElem hl
  intro j h1 h2
  have := h j h1
  simpa [List.getD, h1, h2] using this
theorem getD_set (xs : List Nat) (i j x : Nat) (h : j < xs.length) : (xs.set i x).getD j 0 = if i = j then x else xs.getD j 0 := by
  simp only [List.getD, List.getElem?_set]
  by_cases e : i = j
  · subst e
    simp [h]
  · simp [e]
theorem revd_zero (xs : List Nat) : revd xs 0 = xs := ext_getD (revd_len _ _) (fun j hj => by
  rw [revd_len] at hj
  rw [revd_get xs 0 j hj, if_neg (by omega)])
theorem revd_end (xs : List Nat) {k : Nat} (h : xs.length ≤ 2 * k + 1) : revd xs k = xs.reverse := ext_getD (by rw [revd_len, List.length_reverse]) (fun j hj => by
  rw [revd_len] at hj
  have hr : xs.reverse.getD j 0 = xs.getD (xs.length - 1 - j) 0 := by
    rw [List.getD_eq_getElem?_getD, List.getElem?_reverse hj, List.getD_eq_getElem?_getD]
  rw [revd_get xs k j hj, hr]
  split
  · rfl
  · have : xs.length - 1 - j = j := by omega
    rw [this])
theorem revd_step (xs : List Nat) {k : Nat} (h : 2 * k + 1 < xs.length) : ((revd xs k).set k ((revd xs k).getD (xs.length - 1 - k) 0)).set (xs.length - 1 - k) ((revd xs k).getD k 0) = revd xs (k + 1) := ext_getD (by simp [revd_len]) (fun j hj => by
  rw [List.length_set, List.length_set, revd_len] at hj
  rw [getD_set _ _ _ _ (by rw [List.length_set, revd_len]; exact hj), getD_set _ _ _ _ (by rw [revd_len]; exact hj), revd_get xs k k (by omega), revd_get xs k (xs.length - 1 - k) (by omega), revd_get xs k j hj, revd_get xs (k + 1) j hj]
  by_cases h1 : xs.length - 1 - k = j
  · subst h1
    rw [if_pos rfl, if_neg (by omega), if_pos (by omega)]
    congr 1
    omega
  · rw [if_neg h1]
    by_cases h2 : k = j
    · subst h2
      rw [if_pos rfl, if_neg (by omega), if_pos (by omega)]
    · rw [if_neg h2]
      by_cases h3 : j < k ∨ xs.length - k ≤ j
      · rw [if_pos h3, if_pos (by omega)]
      · rw [if_neg h3, if_neg (by omega)])
set_option maxRecDepth 1000000 in
set_option maxHeartbeats 1000000 in
/-- slices.Reverse. -/
theorem reverse_any {w : World} {B : Nat} {v : Value} {xs : List Nat} (h : w.ownsRow B 5 1 v xs.length (bv xs)) (hl : xs.length ≤ 100000) :
    Calls Tryd.prog 48 #[v] w fun e w' => e = .returned (.tuple #[]) ∧ w'.ownsRow B 5 1 v xs.length (bv xs.reverse) ∧ Kp (fun k => v.ownBlock = some k) w w' := by
  have HH := hide h
  obtain ⟨a, cap, rfl, _, _, ha⟩ := own_form h
  have HA := hide ha
  clear h ha
  go_enter Tryd.func48, Tryd.ntmps48
  go_wp2_with fail
  go_loopw [2, 3] (fun ii jj wx => ∃ k : Nat, 2 * k ≤ xs.length ∧ ii = .int .i64 (k : Nat) ∧ jj = .int .i64 ((xs.length : Int) - 1 - (k : Nat)) ∧ Hid (wx.ownsRow B 5 1 (.slice a xs.length cap) xs.length (bv (revd xs k))) ∧ Hid (Kp (fun q => (Value.slice a xs.length cap).ownBlock = some q) w wx)) (fun ii _ _ => xs.length - (intOf ii).toNat)
  case atStart => exact ⟨0, by omega, rfl, by simp, by rw [revd_zero]; exact HH, Kp.refl _ _⟩
  case round =>
    obtain ⟨k, hk, rfl, rfl, HO, HK⟩ := hrel
    by_cases hlt : 2 * k + 1 < xs.length
    · have g1 : (k : Int) < (xs.length : Int) - 1 - (k : Int) := by omega
      obtain ⟨g, rfl, _⟩ := HA.out 0 _ (bv_get (by omega))
      have ek : ((xs.length : Int) - 1 - (k : Int)) = ((xs.length - 1 - k : Nat) : Int) := by omega
      obtain ⟨c1, f1⟩ := own_cell HO.out (bv_get (xs := revd xs k) (j := k) (by rw [revd_len]; omega))
      obtain ⟨c2, f2⟩ := own_cell HO.out (bv_get (xs := revd xs k) (j := xs.length - 1 - k) (by rw [revd_len]; omega))
      have HS := hide (revd_step xs hlt)
      have hne : ¬ k = xs.length - 1 - k := by omega
      have hj1 : xs.length - 1 - k < xs.length := by omega
      rw [ek] at g1 ⊢
      generalize (revd xs k).getD k 0 = x1 at *
      generalize (revd xs k).getD (xs.length - 1 - k) 0 = x2 at *
      have HO2 : Hid (((wr.setCell ⟨g, k, none⟩ (.int .u8 (x2 : Nat))).setCell ⟨g, xs.length - 1 - k, none⟩ (.int .u8 (x1 : Nat))).ownsRow B 5 1 (.slice (some ⟨g, 0, none⟩) xs.length cap) xs.length (bv (revd xs (k + 1)))) := by
        have h1 := own_set (j := k) (.int .u8 ((x2 : Nat) : Int)) HO.out
        have h2 := own_set (j := xs.length - 1 - k) (.int .u8 ((x1 : Nat) : Int)) h1
        rw [bv_setL, bv_setL, HS.out] at h2
        exact h2
      have hjj : ((xs.length - 1 - k : Nat) : Int) < (xs.length : Int) := by omega
      have hkk : (k : Int) < (xs.length : Int) := by omega
      have HJ : Hid ((xs.length : Int) - 1 - ((k + 1 : Nat) : Int) = ((xs.length - 1 - k : Nat) : Int) - 1) := by show _ = _; omega
      clear hne HS ek
      have hkj : k < xs.length - 1 - k := by omega
      generalize hjn : xs.length - 1 - k = j at *
      clear hjn
      have hne2 : ¬ k = j := by omega
      have hne3 : ¬ j = k := by omega
      generalize hLL : xs.length = LL at *
      clear HO HH HA
      go_wp2_with fail
      go_region
      go_wp2_with fail
      go_roundw
      case rel => exact ⟨k + 1, by omega, by go_num, by rw [HJ.out], HO2.out, ((HK.out.setCell ⟨g, k, none⟩ _ (fun _ => rfl)).setCell ⟨g, j, none⟩ _ (fun _ => rfl)).drew⟩
      case measure => simp [intOf]; omega
    · have g1 : ¬ (k : Int) < (xs.length : Int) - 1 - (k : Int) := by omega
      have HE := hide (revd_end xs (k := k) (by omega))
      go_wp2_with fail
      go_end0
      exact ⟨rfl, by rw [← HE.out]; exact HO.out, HK.out⟩
end
section
open Go.RowKit Go
theorem take_at (xs : List Nat) (k : Nat) (h : k < xs.length) : xs.take (k + 1) = xs.take k ++ [xs.getD k 0] := by
  rw [List.take_succ_eq_append_getElem h, List.getD_eq_getElem?_getD, List.getElem?_eq_getElem h]
  rfl
theorem i64_or_nat (a b : Nat) (ha : a < 4294967296) (hb : b < 4294967296) : bits .or .i64 (a : Int) (b : Int) = ((a ||| b : Nat) : Int) := by
  have hx : a ||| b < 2 ^ 32 := Nat.or_lt_two_pow (by omega) (by omega)
  show IntKind.i64.wrap ((BitVec.ofInt 64 (a : Int) ||| BitVec.ofInt 64 (b : Int)).toNat : Int) = _
  rw [BitVec.toNat_or, ofInt_u64 a (by omega), ofInt_u64 b (by omega), IntKind.wrap_i64]
  omega
theorem i64_and_nat (a b : Nat) (ha : a < 4294967296) (hb : b < 4294967296) : bits .and .i64 (a : Int) (b : Int) = ((a &&& b : Nat) : Int) := by
  have hx : a &&& b < 2 ^ 32 := Nat.and_lt_two_pow _ (by omega)
  show IntKind.i64.wrap ((BitVec.ofInt 64 (a : Int) &&& BitVec.ofInt 64 (b : Int)).toNat : Int) = _
  rw [BitVec.toNat_and, ofInt_u64 a (by omega), ofInt_u64 b (by omega), IntKind.wrap_i64]
  omega
theorem pow_le8 {f : Nat} (h : f ≤ 8) : 2 ^ f ≤ 256 := Nat.pow_le_pow_right (n := 2) (by decide) h
theorem rg_small {R : List Nat} (h : ∀ x ∈ R, x < 2) {t : Nat} (hl : R.length < t) (ht : t ≤ 8) : valB 2 R < 128 := by
  have h1 := valB_lt (b := 2) (by decide) h
  have h2 : 2 ^ R.length ≤ 2 ^ 7 := Nat.pow_le_pow_right (by decide) (by omega)
  omega
theorem or_more {R : List Nat} {f x t : Nat} (h : ∀ y ∈ R, y < 2) (hl : R.length < t) (ht : t ≤ 8) (hf : f ≤ 8) (hx : x < 2 ^ f) : bits .or .i64 (wrap64 ((valB 2 R : Nat) * 2 ^ f)) (wrap64 (x : Int)) = ((valB 2 (R ++ bitsW f x) : Nat) : Int) := by
  have h1 := rg_small h hl ht
  have h2 := pow_le8 hf
  have h3 : valB 2 R * 2 ^ f ≤ 128 * 256 := Nat.mul_le_mul (by omega) h2
  have e1 : ((valB 2 R : Nat) : Int) * 2 ^ f = ((valB 2 R * 2 ^ f : Nat) : Int) := by rw [Int.natCast_mul, Int.natCast_pow]; rfl
  rw [e1]
  have e2 : wrap64 ((valB 2 R * 2 ^ f : Nat) : Int) = ((valB 2 R * 2 ^ f : Nat) : Int) := by unfold wrap64; omega
  have e3 : wrap64 (x : Int) = (x : Int) := by unfold wrap64; omega
  rw [e2, e3, i64_or_nat _ _ (by omega) (by omega), nat_join f _ x (Nat.mul_mod_left _ _) hx, rest_more hx]
theorem and_left {V m : Nat} (hV : V < 65536) (hm : m ≤ 16) : bits .and .i64 (V : Int) (wrap64 (wrap64 (2 ^ m) - 1)) = ((V % 2 ^ m : Nat) : Int) := by
  have h1 : 2 ^ m ≤ 2 ^ 16 := Nat.pow_le_pow_right (by decide) hm
  have h0 : 0 < 2 ^ m := Nat.pow_pos (by decide)
  have e1 : (2 : Int) ^ m = ((2 ^ m : Nat) : Int) := by rw [Int.natCast_pow]; rfl
  have e2 : wrap64 (wrap64 (2 ^ m) - 1) = ((2 ^ m - 1 : Nat) : Int) := by
    rw [e1]
    unfold wrap64
    omega
  rw [e2, i64_and_nat _ _ (by omega) (by omega), Nat.and_two_pow_sub_one_eq_mod]
theorem Rg.len {tt : Nat} {B out R : List Nat} (h : Rg tt B out R) : out.length * tt + R.length = B.length := by
  have := congrArg List.length h.e
  rw [List.length_append, flat_len] at this
  omega
/-- What regroup has in hand. -/
structure Rgw (w wx : World) (f t : Nat) (xs : List Nat) (k : Nat) (vo : Value) (out R : List Nat) : Prop where
  g : Rg t ((xs.take k).flatMap (bitsW f)) out R
  o : wx.ownsRow w.heap.size 5 1 vo out.length (bv out)
  b : Below w.heap.size w wx
set_option maxRecDepth 1000000 in
set_option maxHeartbeats 1000000 in
theorem regroup_any (w : World) (v : Value) (xs : List Nat) (f t : Nat) (hb : BSl w v xs) (hf : 0 < f) (hf8 : f ≤ 8) (ht : 0 < t) (ht8 : t ≤ 8) (hx : ∀ x ∈ xs, x < 2 ^ f) (hl : xs.length ≤ 1000) :
    Calls Tryd.prog 42 #[v, .int .i64 (f : Nat), .int .i64 (t : Nat)] w fun e w' => ∃ vo out R, e = .returned (.tuple #[vo, .int .i64 (valB 2 R : Nat), .int .i64 (R.length : Nat)]) ∧ Rg t (xs.flatMap (bitsW f)) out R ∧ R.length < t ∧ w'.ownsRow w.heap.size 5 1 vo out.length (bv out) ∧ Below w.heap.size w w' := by
  have HB := hide hb
  have HX := hide hx
  obtain ⟨⟨a, cap, rfl, hn, hc⟩, hmax, hby⟩ := hb
  have HC := hide hc
  clear hn hc hby hx
  go_enter Tryd.func42, Tryd.ntmps42
  go_wp2_with fail
  go_loopw [6, 7, 8, 13] (fun vo rr ll ii wx => ∃ (k : Nat) (out R : List Nat), k ≤ xs.length ∧ ii = .int .i64 (k : Nat) ∧ rr = .int .i64 (valB 2 R : Nat) ∧ ll = .int .i64 (R.length : Nat) ∧ R.length < t ∧ Hid (Rgw w wx f t xs k vo out R)) (fun _ _ _ ii _ => xs.length - (intOf ii).toNat)
  case atStart => exact ⟨0, [], [], by omega, rfl, rfl, rfl, ht, ⟨Rg.start t, World.ownsRow_nil _ _ _ _, Below.refl _ _⟩⟩
  case round =>
    obtain ⟨k, out, R, hk, rfl, rfl, rfl, hRt, HI⟩ := hrel
    by_cases hlt : k < xs.length
    · have g1 : (k : Int) < (xs.length : Int) := by omega
      obtain ⟨b, off, rfl, hcc⟩ := HC.out.resolve_left (by intro e; rw [e] at hlt; simp at hlt)
      have cx := keep_below HI.out.b _ _ (hcc k hlt)
      have HXK : Hid (xs.getD k 0 < 2 ^ f) := by
        refine HX.out _ ?_
        rw [List.getD_eq_getElem?_getD, List.getElem?_eq_getElem hlt]
        exact List.getElem_mem hlt
      have HTK := hide (take_at xs k hlt)
      generalize xs.getD k 0 = x at *
      have hor := or_more HI.out.g.r hRt ht8 hf8 HXK.out
      have HRR : Hid (∀ y ∈ R ++ bitsW f x, y < 2) := fun y hy => by
        rcases List.mem_append.1 hy with h | h
        · exact HI.out.g.r y h
        · exact bitsW_lt f x y h
      have HL16 : Hid ((R ++ bitsW f x).length = R.length + f) := by show _ = _; rw [List.length_append, bitsW_len]
      have HG0 : Hid (Rgw w wr f t xs (k + 1) u6 out (R ++ bitsW f x)) := ⟨by rw [HTK.out, List.flatMap_append, List.flatMap_singleton]; exact HI.out.g.more, HI.out.o, HI.out.b⟩
      clear HI HX hcc
      go_wp2_with fail
      have hle : ((R.length : Int) + (f : Int)) = (((R ++ bitsW f x).length : Nat) : Int) := by have := HL16.out; omega
      rw [hle]
      have hR16 : (R ++ bitsW f x).length < 16 := by have := HL16.out; omega
      clear hle hor
      generalize R ++ bitsW f x = R0 at *
      go_loopw [6, 7, 8] (fun vo rr ll wx => ∃ out2 R2 : List Nat, R2.length < 16 ∧ rr = .int .i64 (valB 2 R2 : Nat) ∧ ll = .int .i64 (R2.length : Nat) ∧ Hid (Rgw w wx f t xs (k + 1) vo out2 R2)) (fun _ _ ll _ => (intOf ll).toNat)
      case atStart => exact ⟨out, R0, hR16, rfl, rfl, HG0⟩
      case round => as_aux_lemma =>
        rename World => wz
        obtain ⟨out2, R2, hR2, rfl, rfl, HG⟩ := hrel
        by_cases hge : t ≤ R2.length
        · have g5 : (t : Int) ≤ (R2.length : Int) := by omega
          obtain ⟨a2, c2, hv2, _⟩ := own_form HG.out.o
          subst hv2
          have hsh := rest_shift (tt := t) HG.out.g.r
          have hdiv : ((valB 2 R2 : Nat) : Int) / 2 ^ (R2.length - t) % 256 = ((valB 2 (R2.take t) : Nat) : Int) := by
            have h1 := HG.out.g.take hge
            have h2 := h1.o (valB 2 (R2.take t)) (by simp)
            have h3 := pow_le8 ht8
            have e1 : ((valB 2 R2 : Nat) : Int) / 2 ^ (R2.length - t) = ((valB 2 R2 / 2 ^ (R2.length - t) : Nat) : Int) := by rw [Int.natCast_ediv, Int.natCast_pow]; rfl
            rw [e1, hsh.1]
            omega
          have HTL : Hid (valB 2 (R2.take t) < 256) := by
            have h1 := HG.out.g.take hge
            have h2 := h1.o (valB 2 (R2.take t)) (by simp)
            have h3 := pow_le8 ht8
            show _ < _
            omega
          have HGT := hide (HG.out.g.take hge)
          have HGL : Hid (out2.length * t + R2.length = (k + 1) * f) := by
            have h := HG.out.g.len
            rw [flat_len, List.length_take, Nat.min_eq_left (by omega)] at h
            exact h
          have HDL : Hid ((R2.drop t).length = R2.length - t) := List.length_drop
          have HV2 : Hid (valB 2 R2 < 65536) := by
            have h1 := valB_lt (b := 2) (by decide) HG.out.g.r
            have h2 : 2 ^ R2.length ≤ 2 ^ 16 := Nat.pow_le_pow_right (by decide) (by omega)
            show _ < _
            omega
          have HSH := hide hsh.2
          clear hsh
          generalize hTT : valB 2 (R2.take t) = T2 at *
          clear hTT
          have HL1 := hide (one_bsl wz T2 HTL.out)
          have HA1 := hide (HG.out.o.alloc (.cells #[.int .u8 ((T2 : Nat) : Int)] 5))
          have HZ1 : Hid (out2.length + ([T2] : List Nat).length ≤ 140737488355328) := by
            have h1 := HGL.out
            have h2 : out2.length * 1 ≤ out2.length * t := Nat.mul_le_mul_left _ ht
            have h3 : (k + 1) * f ≤ 1000 * 8 := Nat.mul_le_mul (by omega) hf8
            show _ ≤ _
            rw [List.length_singleton]
            omega
          have HBZ : Hid (w.heap.size ≤ (wz.alloc (.cells #[.int .u8 ((T2 : Nat) : Int)] 5)).heap.size) := by have := HG.out.b.size; show _ ≤ _; simp; omega
          have HBA : Hid (Below w.heap.size w (wz.alloc (.cells #[.int .u8 ((T2 : Nat) : Int)] 5))) := HG.out.b.alloc HG.out.b.size _
          go_wp2_with (at_builtin; refine append_bsl rfl _ _ rfl w.heap.size _ out2.length out2 rfl HA1.out _ [T2] rfl HL1.out HZ1.out HBZ.out ?_)
          intro v7 w7 ho7 hg7
          have HB7 : Hid (Below w.heap.size w w7) := HBA.out.grown hg7 HBZ.out (fun g hg => (HA1.out.lt g hg).1)
          have HO7 : Hid (w7.ownsRow w.heap.size 5 1 v7 (out2 ++ [T2]).length (bv (out2 ++ [T2]))) := by show World.ownsRow _ _ _ _ _ _ _; rw [List.length_append]; exact ho7
          obtain ⟨a7, c7, hv7, _⟩ := own_form ho7
          subst hv7
          have HAN : Hid (bits .and .i64 ((valB 2 R2 : Nat) : Int) (wrap64 (wrap64 (2 ^ (R2.length - t)) - 1)) = ((valB 2 (R2.drop t) : Nat) : Int)) := by
            show _ = _
            rw [and_left HV2.out (by omega), HSH.out]
          clear ho7 hg7 HA1 HL1 HBA HG hdiv
          go_wp2_with fail
          go_roundw
          case rel => exact ⟨out2 ++ [T2], R2.drop t, by have := HDL.out; omega, by rw [HAN.out], by have := HDL.out; congr 1; omega, ⟨HGT.out, HO7.out, HB7.out⟩⟩
          case measure => simp [intOf]; omega
        · have g5 : ¬ (t : Int) ≤ (R2.length : Int) := by omega
          obtain ⟨a2, c2, hv2, _⟩ := own_form HG.out.o
          subst hv2
          go_wp2_with fail
          go_roundw
          case rel => exact ⟨k + 1, out2, R2, by omega, by go_num, rfl, rfl, by omega, HG⟩
          case measure => simp [intOf]; omega
    · have hkx : k = xs.length := by omega
      have g1 : ¬ (k : Int) < (xs.length : Int) := by omega
      obtain ⟨a2, c2, hv2, _⟩ := own_form HI.out.o
      subst hv2
      have HTA : Hid (xs.take k = xs) := List.take_of_length_le (by omega)
      have HG : Hid (Rg t (xs.flatMap (bitsW f)) out R) := by
        have h := HI.out.g
        rw [HTA.out] at h
        exact h
      have HO := hide HI.out.o
      have HBW := hide HI.out.b
      clear hk hkx hlt HI
      go_wp2_with fail
      go_ret3
      exact ⟨_, out, R, rfl, HG.out, hRt, HO.out, HBW.out⟩
end
section
open Go.RowKit Go
/-- The digits so far, the lowest first, of the number that digits make. -/
structure Rcd (fr tt : Nat) (p L : List Nat) : Prop where
  v : valL tt L = valB fr p
  d : ∀ x ∈ L, x < tt
  n : L = [] ∨ tt ^ (L.length - 1) ≤ valL tt L
theorem Rcd.start (fr tt : Nat) : Rcd fr tt [] [] := ⟨rfl, by simp, .inl rfl⟩
/-- One round under way: the first i digits are new, the carry. -/
structure Rcm (fr tt n : Nat) (L M : List Nat) (i cy : Nat) : Prop where
  l : M.length = L.length
  q : i ≤ L.length
  r : M.drop i = L.drop i
  v : valL tt (M.take i) + tt ^ i * cy = n + fr * valL tt (L.take i)
  d : ∀ x ∈ M, x < tt
  c : cy < 65536
theorem Rcm.start {fr tt n : Nat} {L : List Nat} (hd : ∀ x ∈ L, x < tt) (hn : n < 256) : Rcm fr tt n L L 0 n := ⟨rfl, Nat.zero_le _, rfl, by simp [valL], hd, by omega⟩
theorem Rcm.step {fr tt n : Nat} {L M : List Nat} {i cy : Nat} (h : Rcm fr tt n L M i cy) (hi : i < L.length) (ht : 2 ≤ tt) (ht2 : tt ≤ 256) (hf2 : fr ≤ 256) :
    Rcm fr tt n L (M.set i ((cy + M.getD i 0 * fr) % tt)) (i + 1) ((cy + M.getD i 0 * fr) / tt) := by
  have hiM : i < M.length := by rw [h.l]; exact hi
  have hg : M.getD i 0 = L.getD i 0 := by
    have h1 := congrArg List.head? h.r
    rw [List.head?_drop, List.head?_drop] at h1
    rw [List.getD_eq_getElem?_getD, List.getD_eq_getElem?_getD, h1]
  have hx : M.getD i 0 < tt := by
    rw [List.getD_eq_getElem?_getD, List.getElem?_eq_getElem hiM]
    exact h.d _ (List.getElem_mem hiM)
  have hxf : M.getD i 0 * fr ≤ 255 * 256 := Nat.mul_le_mul (by omega) hf2
  have hs : cy + M.getD i 0 * fr < 131072 := by have := h.c; omega
  refine ⟨by rw [List.length_set]; exact h.l, hi, ?_, ?_, ?_, ?_⟩
  · rw [List.drop_set_of_lt (by omega)]
    have h1 := congrArg List.tail h.r
    rw [List.tail_drop, List.tail_drop] at h1
    exact h1
  · have e1 : (M.set i ((cy + M.getD i 0 * fr) % tt)).take (i + 1) = M.take i ++ [(cy + M.getD i 0 * fr) % tt] := by
      rw [List.take_succ_eq_append_getElem (by rw [List.length_set]; exact hiM), List.take_set_of_le (Nat.le_refl _)]
      simp
    have e2 : L.take (i + 1) = L.take i ++ [L.getD i 0] := take_at L i hi
    have l1 : (M.take i).length = i := by rw [List.length_take]; omega
    have l2 : (L.take i).length = i := by rw [List.length_take]; omega
    rw [e1, e2, valL_app, valL_app, l1, l2, ← hg]
    simp only [valL, Nat.mul_zero, Nat.add_zero]
    have hv := h.v
    have hdm := Nat.mod_add_div (cy + M.getD i 0 * fr) tt
    generalize (cy + M.getD i 0 * fr) % tt = a at *
    generalize (cy + M.getD i 0 * fr) / tt = b at *
    generalize M.getD i 0 = x at *
    have e3 : tt ^ i * a + tt ^ (i + 1) * b = tt ^ i * (cy + x * fr) := by rw [Nat.pow_succ, Nat.mul_assoc, ← Nat.mul_add, hdm]
    rw [Nat.mul_add] at e3
    have e4 : fr * (valL tt (L.take i) + tt ^ i * x) = fr * valL tt (L.take i) + tt ^ i * (x * fr) := by
      rw [Nat.mul_add]
      congr 1
      rw [Nat.mul_comm x fr]
      ac_rfl
    omega
  · intro y hy
    rcases List.mem_or_eq_of_mem_set hy with h1 | h1
    · exact h.d y h1
    · subst h1
      exact Nat.mod_lt _ (by omega)
  · have : (cy + M.getD i 0 * fr) / tt ≤ (cy + M.getD i 0 * fr) / 2 := Nat.div_le_div_left ht (by decide)
    omega
/-- The carry that is left is laid on. -/
structure Rce (tt N : Nat) (M : List Nat) (cy : Nat) : Prop where
  v : valL tt M + tt ^ M.length * cy = N
  d : ∀ x ∈ M, x < tt
  c : cy < 65536
  n : cy = 0 → M = [] ∨ tt ^ (M.length - 1) ≤ N
theorem Rce.step {tt N : Nat} {M : List Nat} {cy : Nat} (h : Rce tt N M cy) (hc : 0 < cy) (ht : 2 ≤ tt) : Rce tt N (M ++ [cy % tt]) (cy / tt) := by
  have hdm := Nat.mod_add_div cy tt
  refine ⟨?_, ?_, ?_, ?_⟩
  · rw [valL_app, List.length_append, List.length_singleton, Nat.pow_succ, Nat.mul_assoc]
    simp only [valL, Nat.mul_zero, Nat.add_zero]
    rw [Nat.add_assoc, ← Nat.mul_add, hdm]
    exact h.v
  · intro y hy
    rcases List.mem_append.1 hy with h1 | h1
    · exact h.d y h1
    · simp only [List.mem_singleton] at h1
      subst h1
      exact Nat.mod_lt _ (by omega)
  · have : cy / tt ≤ cy := Nat.div_le_self _ _
    have := h.c
    omega
  · intro _
    right
    rw [List.length_append, List.length_singleton, Nat.add_sub_cancel]
    have h1 := h.v
    have h2 : tt ^ M.length * 1 ≤ tt ^ M.length * cy := Nat.mul_le_mul_left _ hc
    omega
theorem Rce.done {fr tt : Nat} {p M : List Nat} (h : Rce tt (valB fr p) M 0) : Rcd fr tt p M := by
  have hv := h.v
  rw [Nat.mul_zero, Nat.add_zero] at hv
  exact ⟨hv, h.d, by rw [hv]; exact h.n rfl⟩
theorem Rcm.done {fr tt n : Nat} {p L M : List Nat} {cy : Nat} (hL : Rcd fr tt p L) (h : Rcm fr tt n L M L.length cy) (hf : 1 ≤ fr) : Rce tt (valB fr (p ++ [n])) M cy := by
  have hM : M.take L.length = M := List.take_of_length_le (by rw [h.l]; omega)
  have hv := h.v
  rw [hM, List.take_length, hL.v, ← h.l] at hv
  have hN : valB fr (p ++ [n]) = n + fr * valB fr p := by rw [valB_snoc, Nat.mul_comm]; omega
  refine ⟨by rw [hN]; exact hv, h.d, h.c, fun _ => ?_⟩
  rcases hL.n with h1 | h1
  · left
    have := h.l
    rw [h1] at this
    exact List.eq_nil_of_length_eq_zero this
  · right
    rw [hN, h.l]
    rw [hL.v] at h1
    have : 1 * valB fr p ≤ fr * valB fr p := Nat.mul_le_mul_right _ hf
    omega
/-- How many noughts stand at the front. -/
def nz (p : List Nat) : Nat := (p.takeWhile (· == 0)).length
theorem Rcd.nil {fr tt : Nat} {p L : List Nat} (h : Rcd fr tt p L) (ht : 2 ≤ tt) : L = [] ↔ valB fr p = 0 := by
  constructor
  · intro e
    rw [← h.v, e]
    rfl
  · intro e
    rcases h.n with h1 | h1
    · exact h1
    · exfalso
      have := Nat.pow_pos (n := L.length - 1) (show 0 < tt by omega)
      rw [h.v, e] at h1
      omega
theorem Rcd.zeros {fr tt : Nat} {p L : List Nat} {n : Nat} (h : Rcd fr tt (p ++ [n]) L) (ht : 2 ≤ tt) (hf : 0 < fr) : nz (p ++ [n]) = if L = [] then nz p + 1 else nz p := by
  unfold nz
  rw [tw_snoc hf]
  by_cases e : L = []
  · rw [if_pos e, if_pos ((h.nil ht).1 e)]
  · rw [if_neg e, if_neg (fun h0 => e ((h.nil ht).2 h0))]
theorem Rcd.conv {fr tt : Nat} {p L : List Nat} (h : Rcd fr tt p L) (ht : 2 ≤ tt) : conv fr tt p = List.replicate (nz p) 0 ++ L.reverse := by
  rw [conv_val, valL_digB ht h.d h.n, h.v]
  rfl
theorem nz_le (p : List Nat) : nz p ≤ p.length := (List.takeWhile_prefix _).length_le
end
section
open Go.RowKit Go
theorem val_pow {fr tt : Nat} {p : List Nat} (hp : ∀ x ∈ p, x < fr) (hf : 2 ≤ fr) (hf2 : fr ≤ 256) (ht : 2 ≤ tt) : valB fr p < tt ^ (8 * p.length) := by
  have h1 := valB_lt (b := fr) (by omega) hp
  have h2 : fr ^ p.length ≤ 256 ^ p.length := Nat.pow_le_pow_left hf2 _
  have h3 : 256 ^ p.length = 2 ^ (8 * p.length) := by rw [Nat.pow_mul]
  have h4 : 2 ^ (8 * p.length) ≤ tt ^ (8 * p.length) := Nat.pow_le_pow_left ht _
  omega
theorem Rcd.len {fr tt : Nat} {p L : List Nat} (h : Rcd fr tt p L) (hp : ∀ x ∈ p, x < fr) (hf : 2 ≤ fr) (hf2 : fr ≤ 256) (ht : 2 ≤ tt) : L.length ≤ 8 * p.length := by
  rcases h.n with h1 | h1
  · rw [h1]
    simp
  · have h2 := val_pow hp hf hf2 ht
    rw [h.v] at h1
    have := (Nat.pow_lt_pow_iff_right (a := tt) (by omega)).1 (Nat.lt_of_le_of_lt h1 h2)
    omega
theorem Rce.len {fr tt : Nat} {p M : List Nat} {cy : Nat} (h : Rce tt (valB fr p) M cy) (hc : 0 < cy) (hp : ∀ x ∈ p, x < fr) (hf : 2 ≤ fr) (hf2 : fr ≤ 256) (ht : 2 ≤ tt) : M.length < 8 * p.length := by
  have h1 := h.v
  have h2 := val_pow hp hf hf2 ht
  have h3 : tt ^ M.length * 1 ≤ tt ^ M.length * cy := Nat.mul_le_mul_left _ hc
  exact (Nat.pow_lt_pow_iff_right (a := tt) (by omega)).1 (by omega)
theorem rc_sum {cy d fr : Nat} (hc : cy < 65536) (hd : d < 256) (hf : fr ≤ 256) : wrap64 ((cy : Int) + wrap64 (wrap64 (d : Int) * (fr : Int))) = ((cy + d * fr : Nat) : Int) := by
  have h1 : d * fr ≤ 255 * 256 := Nat.mul_le_mul (by omega) hf
  have e1 : wrap64 (d : Int) = (d : Int) := by unfold wrap64; omega
  rw [e1, ← Int.natCast_mul]
  generalize d * fr = m at *
  unfold wrap64
  omega
theorem rc_lt {cy d fr : Nat} (hc : cy < 65536) (hd : d < 256) (hf : fr ≤ 256) : cy + d * fr < 131072 := by
  have h1 : d * fr ≤ 255 * 256 := Nat.mul_le_mul (by omega) hf
  omega
theorem rc_div {s tt : Nat} (hs : s < 131072) : wrap64 ((s : Int).tdiv (tt : Int)) = ((s / tt : Nat) : Int) := by
  have e : (s : Int).tdiv (tt : Int) = ((s / tt : Nat) : Int) := rfl
  have h : s / tt ≤ s := Nat.div_le_self _ _
  rw [e]
  generalize s / tt = q at *
  unfold wrap64
  omega
theorem rc_mod {s tt : Nat} (ht : 2 ≤ tt) (ht2 : tt ≤ 256) : (s : Int).tmod (tt : Int) % 256 = ((s % tt : Nat) : Int) := by
  have e : (s : Int).tmod (tt : Int) = ((s % tt : Nat) : Int) := rfl
  have h : s % tt < tt := Nat.mod_lt _ (by omega)
  rw [e]
  omega
/-- What recast has in hand. -/
structure Rcw (w wx : World) (vl : Value) (M : List Nat) : Prop where
  o : wx.ownsRow w.heap.size 5 1 vl M.length (bv M)
  b : Below w.heap.size w wx
set_option maxRecDepth 1000000 in
set_option maxHeartbeats 1000000 in
theorem recast_any (w : World) (v : Value) (xs : List Nat) (fr tt : Nat) (hb : BSl w v xs) (hf : 2 ≤ fr) (hf2 : fr ≤ 256) (ht : 2 ≤ tt) (ht2 : tt ≤ 256) (hx : ∀ x ∈ xs, x < fr) (hl : xs.length ≤ 1000) :
    Calls Tryd.prog 41 #[v, .int .i64 (fr : Nat), .int .i64 (tt : Nat)] w fun e w' => ∃ vo, e = .returned vo ∧ w'.ownsRow w.heap.size 5 1 vo (conv fr tt xs).length (bv (conv fr tt xs)) ∧ Below w.heap.size w w' := by
  have HB := hide hb
  have HX := hide hx
  obtain ⟨⟨a, cap, rfl, hn, hc⟩, hmax, hby⟩ := hb
  have HC := hide hc
  clear hn hc hby hx
  go_enter Tryd.func41, Tryd.ntmps41
  go_wp2_with fail
  go_loopw [7, 8, 16] (fun zz vl ii wx => ∃ (k : Nat) (L : List Nat), k ≤ xs.length ∧ ii = .int .i64 (k : Nat) ∧ zz = .int .i64 (nz (xs.take k) : Nat) ∧ Hid (Rcd fr tt (xs.take k) L) ∧ Hid (Rcw w wx vl L)) (fun _ _ ii _ => xs.length - (intOf ii).toNat)
  case atStart => exact ⟨0, [], by omega, rfl, rfl, Rcd.start fr tt, ⟨World.ownsRow_nil _ _ _ _, Below.refl _ _⟩⟩
  case round =>
    obtain ⟨k, L, hk, rfl, rfl, HR, HI⟩ := hrel
    have HPX : Hid (∀ x ∈ xs.take k, x < fr) := fun x hx => HX.out x (List.mem_of_mem_take hx)
    have HLL : Hid (L.length ≤ 8 * k) := by
      have h := HR.out.len HPX.out hf hf2 ht
      rw [List.length_take] at h
      show _ ≤ _
      omega
    obtain ⟨a2, c2, hv2, hcp, _⟩ := own_form HI.out.o
    subst hv2
    by_cases hlt : k < xs.length
    · have g1 : (k : Int) < (xs.length : Int) := by omega
      obtain ⟨b, off, rfl, hcc⟩ := HC.out.resolve_left (by intro e; rw [e] at hlt; simp at hlt)
      have cx := keep_below HI.out.b _ _ (hcc k hlt)
      have HXK : Hid (xs.getD k 0 < fr) := by
        refine HX.out _ ?_
        rw [List.getD_eq_getElem?_getD, List.getElem?_eq_getElem hlt]
        exact List.getElem_mem hlt
      have HTK := hide (take_at xs k hlt)
      have hLm : L.length ≤ 8000 := by have := HLL.out; omega
      have HP2 : Hid (∀ x ∈ xs.take (k + 1), x < fr) := fun x hx => HX.out x (List.mem_of_mem_take hx)
      have HL2 : Hid ((xs.take (k + 1)).length = k + 1) := by show _ = _; rw [List.length_take]; omega
      generalize xs.getD k 0 = x at *
      have hx256 : (x : Int) < 256 := by have := HXK.out; omega
      have hwx : wrap64 (x : Int) = (x : Int) := by unfold wrap64; omega
      clear hcc
      go_wp2_with fail
      go_loopw [11, 24] (fun cc jj wx => ∃ (i cy : Nat) (M : List Nat), jj = .int .i64 (i : Nat) ∧ cc = .int .i64 (cy : Nat) ∧ Hid (Rcm fr tt x L M i cy) ∧ Hid (Rcw w wx (.slice a2 L.length c2) M)) (fun _ jj _ => L.length - (intOf jj).toNat)
      case atStart => exact ⟨0, x, L, rfl, rfl, Rcm.start HR.out.d (by omega), HI⟩
      case round =>
        rename World => wz
        obtain ⟨i, cy, M, rfl, rfl, HM, HJ⟩ := hrel
        have hML := HM.out.l
        have hcy := HM.out.c
        by_cases hil : i < L.length
        · have g3 : (i : Int) < (L.length : Int) := by omega
          have ho := HJ.out.o
          obtain ⟨a3, c3, hv3, _, _, hcl⟩ := own_form ho
          injection hv3 with e1 e2 e3
          subst e1
          obtain ⟨g, rfl, _⟩ := hcl i _ (bv_get (by omega))
          rw [hML] at ho
          obtain ⟨q1, f1⟩ := own_cell ho (bv_get (xs := M) (j := i) (by omega))
          have HST := hide (HM.out.step hil ht ht2 hf2)
          have HMD : Hid (M.getD i 0 < tt) := by
            rw [List.getD_eq_getElem?_getD, List.getElem?_eq_getElem (by omega)]
            exact HM.out.d _ (List.getElem_mem (by omega))
          have HML := hide hML
          clear hcl e2 e3 hML
          generalize M.getD i 0 = d at *
          have HMD2 : Hid (d < 256) := Nat.lt_of_lt_of_le HMD.out ht2
          have hsum := rc_sum (cy := cy) (d := d) (fr := fr) hcy HMD2.out hf2
          have HSS : Hid (cy + d * fr < 131072) := rc_lt hcy HMD2.out hf2
          have hdv := rc_div (s := cy + d * fr) (tt := tt) HSS.out
          have hmd := rc_mod (s := cy + d * fr) ht ht2
          have HOS : Hid (Rcw w (wz.setCell ⟨g, i, none⟩ (.int .u8 (((cy + d * fr) % tt : Nat) : Int))) (.slice (some ⟨g, 0, none⟩) L.length c2) (M.set i ((cy + d * fr) % tt))) := by
            have h1 := own_set (j := i) (.int .u8 (((cy + d * fr) % tt : Nat) : Int)) ho
            rw [bv_setL] at h1
            have hge := (ho.lt g rfl).1
            exact ⟨by rw [List.length_set, HML.out]; exact h1, HJ.out.b.trans (((Kp.refl (fun q => q = g) wz).setCell _ _ (fun _ => rfl)).below HJ.out.b.size (fun q e => by omega))⟩
          have HS := hide hsum
          have HD := hide hdv
          have HMO := hide hmd
          clear ho hsum hdv hmd HI HJ HM
          generalize cy + d * fr = sm at *
          generalize sm % tt = m at *
          generalize sm / tt = q at *
          as_aux_lemma =>
          go_wp2_with fail
          go_roundw
          case rel => exact ⟨i + 1, q, M.set i m, by go_num, by rw [HS.out, HD.out], HST, by rw [HS.out, HMO.out]; exact HOS⟩
          case measure => simp [intOf]; omega
        · have hie : i = L.length := by have := HM.out.q; omega
          have g3 : ¬ (i : Int) < (L.length : Int) := by omega
          subst hie
          have HE0 : Hid (Rce tt (valB fr (xs.take (k + 1))) M cy) := by
            rw [HTK.out]
            exact HM.out.done HR.out (by omega)
          clear hML hcy HM
          go_wp2_with fail
          go_loopw [8, 11] (fun vl cc wx => ∃ (cy2 : Nat) (M2 : List Nat), cc = .int .i64 (cy2 : Nat) ∧ Hid (Rce tt (valB fr (xs.take (k + 1))) M2 cy2) ∧ Hid (Rcw w wx vl M2)) (fun _ cc _ => (intOf cc).toNat)
          case atStart => exact ⟨cy, M, rfl, HE0, HJ⟩
          case round => as_aux_lemma =>
            rename World => wv
            obtain ⟨cy2, M2, rfl, HE, HW⟩ := hrel
            clear HE0 HJ HI
            obtain ⟨a4, c4, hv4, _⟩ := own_form HW.out.o
            subst hv4
            have hcy2 := HE.out.c
            by_cases hp : 0 < cy2
            · have g7 : (0 : Int) < (cy2 : Int) := by omega
              have HLN := hide (HE.out.len hp HP2.out hf hf2 ht)
              rw [HL2.out] at HLN
              have HST := hide (HE.out.step hp ht)
              have hdv : (cy2 : Int) / (tt : Int) = ((cy2 / tt : Nat) : Int) := (Int.natCast_ediv cy2 tt).symm
              have hmd : (cy2 : Int) % (tt : Int) % 256 = ((cy2 % tt : Nat) : Int) := by
                have h := Nat.mod_lt cy2 (show 0 < tt by omega)
                rw [← Int.natCast_emod]
                omega
              have hm256 : cy2 % tt < 256 := by have := Nat.mod_lt cy2 (show 0 < tt by omega); omega
              have hdl : cy2 / tt < cy2 := Nat.div_lt_self hp (by omega)
              generalize cy2 % tt = m at *
              generalize cy2 / tt = q at *
              have HL1 := hide (one_bsl wv m hm256)
              have HA1 := hide (HW.out.o.alloc (.cells #[.int .u8 ((m : Nat) : Int)] 5))
              have HZ1 : Hid (M2.length + ([m] : List Nat).length ≤ 140737488355328) := by have := HLN.out; show _ ≤ _; rw [List.length_singleton]; omega
              have HBZ : Hid (w.heap.size ≤ (wv.alloc (.cells #[.int .u8 ((m : Nat) : Int)] 5)).heap.size) := by have := HW.out.b.size; show _ ≤ _; simp; omega
              have HBA : Hid (Below w.heap.size w (wv.alloc (.cells #[.int .u8 ((m : Nat) : Int)] 5))) := HW.out.b.alloc HW.out.b.size _
              go_wp2_with (at_builtin; refine append_bsl rfl _ _ rfl w.heap.size _ M2.length M2 rfl HA1.out _ [m] rfl HL1.out HZ1.out HBZ.out ?_)
              intro v7 w7 ho7 hg7
              have HB7 : Hid (Below w.heap.size w w7) := HBA.out.grown hg7 HBZ.out (fun g hg => (HA1.out.lt g hg).1)
              have HO7 : Hid (w7.ownsRow w.heap.size 5 1 v7 (M2 ++ [m]).length (bv (M2 ++ [m]))) := by show World.ownsRow _ _ _ _ _ _ _; rw [List.length_append]; exact ho7
              obtain ⟨a7, c7, hv7, _⟩ := own_form ho7
              subst hv7
              clear ho7 hg7 HA1 HL1 HBA HW
              go_wp2_with fail
              go_roundw
              case rel => exact ⟨q, M2 ++ [m], rfl, HST, ⟨HO7.out, HB7.out⟩⟩
              case measure => simp [intOf]; omega
            · have hz : cy2 = 0 := by omega
              subst hz
              have HRD : Hid (Rcd fr tt (xs.take (k + 1)) M2) := HE.out.done
              have HZR : Hid (nz (xs.take (k + 1)) = if M2 = [] then nz (xs.take k) + 1 else nz (xs.take k)) := by
                have h := HRD.out
                rw [HTK.out] at h
                show _ = _
                rw [HTK.out]
                exact h.zeros ht (by omega)
              have hnz : nz (xs.take k) ≤ 1000 := by have h := nz_le (xs.take k); rw [List.length_take] at h; omega
              clear HE hcy2
              by_cases hm : M2 = []
              · subst hm
                rw [if_pos rfl] at HZR
                simp only [List.length_nil] at HW ⊢
                go_wp2_with fail
                go_roundw
                case rel => exact ⟨k + 1, [], by omega, by go_num, by rw [HZR.out]; go_num, HRD, HW⟩
                case measure => simp [intOf]; omega
              · rw [if_neg hm] at HZR
                have g9 : ((M2.length : Int) == 0) = false := beq_eq_false_iff_ne.2 (by have := List.length_pos_iff.2 hm; omega)
                go_wp2_with fail
                go_roundw
                case rel => exact ⟨k + 1, M2, by omega, by go_num, by rw [HZR.out], HRD, HW⟩
                case measure => simp [intOf]; omega
    · have hkx : k = xs.length := by omega
      have g1 : ¬ (k : Int) < (xs.length : Int) := by omega
      have HTA : Hid (xs.take k = xs) := List.take_of_length_le (by omega)
      rw [HTA.out] at HR ⊢
      have HCV := hide (HR.out.conv ht)
      have HRD := hide HR.out.d
      have hLm : L.length ≤ 8000 := by have := HLL.out; omega
      have hzm : nz xs ≤ 1000 := by have := nz_le xs; omega
      clear HLL HPX hkx hlt HR hk HTA
      go_wp2_with fail
      refine (reverse_any HI.out.o (by omega)).mono ?_
      rintro e w1 ⟨rfl, ho1, hk1⟩
      have HO1 := hide ho1
      have HB1 : Hid (Below w.heap.size w w1) := HI.out.b.trans (hk1.below HI.out.b.size (fun q e => (HI.out.o.lt q e).1))
      have hmk := mk_bytes w1 (nz xs) (nz xs + L.length) (by omega) (by omega)
      have HM0 := hide (mk_own w1 w.heap.size (nz xs) (nz xs + L.length) (by omega) (by omega) HB1.out.size)
      have HB2 : Hid (Below w.heap.size w (w1.alloc (.cells (bv (List.replicate (nz xs + L.length) 0)).toArray 5))) := HB1.out.trans ((below_alloc4 w1 _).mono HB1.out.size)
      have HRB : Hid (∀ y ∈ L.reverse, y < 256) := fun y hy => by have := HRD.out y (List.mem_reverse.1 hy); omega
      have ho2 : w1.ownsRow w.heap.size 5 1 (.slice a2 L.length c2) L.reverse.length (bv L.reverse) := by rw [List.length_reverse]; exact HO1.out
      have HV2 := hide ((BSl.own ho2 HRB.out).move (keep_below (below_alloc4 w1 (.cells (bv (List.replicate (nz xs + L.length) 0)).toArray 5))))
      have HZ2 : Hid (nz xs + L.reverse.length ≤ 140737488355328) := by show _ ≤ _; rw [List.length_reverse]; omega
      have hcs : ((nz xs + L.length : Nat) : Int) = (nz xs : Int) + (L.length : Int) := by omega
      rw [hcs] at hmk
      clear ho1 hk1 ho2 hcs HO1 HI
      go_wp2_with (at_builtin; refine append_bsl rfl _ _ rfl w.heap.size _ (nz xs) (List.replicate (nz xs) 0) rfl HM0.out _ L.reverse rfl HV2.out HZ2.out HB2.out.size ?_)
      intro v7 w7 ho7 hg7
      have HB7 : Hid (Below w.heap.size w w7) := HB2.out.grown hg7 HB2.out.size (fun g hg => (HM0.out.lt g hg).1)
      have HO7 : Hid (w7.ownsRow w.heap.size 5 1 v7 (conv fr tt xs).length (bv (conv fr tt xs))) := by
        show World.ownsRow _ _ _ _ _ _ _
        rw [HCV.out, List.length_append, List.length_replicate]
        rw [List.length_reverse]
        exact ho7
      obtain ⟨a7, c7, hv7, _⟩ := own_form ho7
      subst hv7
      clear ho7 hg7 HM0 HV2
      go_wp2_with fail
      go_ret
      exact ⟨_, rfl, HO7.out, HB7.out⟩
end
section
open Go.RowKit Go
/-- A row's digits in a base. -/
def cutd (b : Bs) (xs : List Nat) : List Nat := if b.n = 0 then conv 256 b.t.size xs else encW b.n xs
/-- A base that may be. -/
structure Bok (b : Bs) : Prop where
  n : b.n ≤ 8
  t : 2 ≤ b.t.size
  t2 : b.t.size ≤ 58
  e : b.n ≠ 0 → 2 ^ b.n = b.t.size
  w : tells (sl b.t)
  z : b.l.size ≤ 8
theorem bok16 : Bok b16 := ⟨by decide, by decide, by decide, fun _ => by decide, by show tells (sl s16); rw [sl16]; exact tells16, by decide⟩
theorem bok32 : Bok b32 := ⟨by decide, by decide, by decide, fun _ => by decide, by show tells (sl s32); rw [sl32]; exact tells32, by decide⟩
theorem bok58 : Bok b58 := ⟨by decide, by decide, by decide, fun h => absurd rfl h, by show tells (sl s58); rw [sl58]; exact tells58, by decide⟩
theorem cutd_lt {b : Bs} (hb : Bok b) (xs : List Nat) : ∀ x ∈ cutd b xs, x < b.t.size := by
  unfold cutd
  split
  · exact conv_lt hb.t xs
  · rename_i h
    rw [← hb.e h]
    exact encW_lt (by omega) xs
theorem byte8 {xs : List Nat} (h : ∀ x ∈ xs, x < 256) : ∀ x ∈ xs, x < 2 ^ 8 := h
set_option maxRecDepth 1000000 in
set_option maxHeartbeats 1000000 in
theorem cut_any (w : World) (b : Bs) (v : Value) (xs : List Nat) (hb : Bok b) (hv : BSl w v xs) (hl : xs.length ≤ 1000) :
    Calls Tryd.prog 39 #[.agg b.cs, v] w fun e w' => ∃ vo, e = .returned vo ∧ w'.ownsRow w.heap.size 5 1 vo (cutd b xs).length (bv (cutd b xs)) ∧ Below w.heap.size w w' := by
  have HV := hide hv
  have HB := hide hb
  have HL := hide hl
  obtain ⟨⟨a, cap, rfl, hn, hc⟩, hmax, hby⟩ := hv
  have HBY := hide hby
  clear hn hc hby hb hl
  obtain ⟨bl, bt, bn⟩ := b
  have HT : Hid ((w.alloc (.cells #[.string bl, .string bt, .int .i64 (bn : Nat)] 63)).heap[w.heap.size]? = some (.cells #[.string bl, .string bt, .int .i64 (bn : Nat)] 63 (0, 0))) := heap_alloc_new w _
  have HB0 := hide (below_alloc4 w (.cells #[.string bl, .string bt, .int .i64 (bn : Nat)] 63))
  have HV0 := hide (HV.out.move (keep_below HB0.out))
  simp only [Bs.cs]
  by_cases h0 : bn = 0
  · subst h0
    have HCU : Hid (cutd ⟨bl, bt, 0⟩ xs = conv 256 bt.size xs) := rfl
    rw [HCU.out]
    go_enter Tryd.func39, Tryd.ntmps39
    go_wp2_with fail
    have HT0 : Hid ((w.alloc (.cells #[.string bl, .string bt, .int .i64 0] 63)).heap[w.heap.size]? = some (.cells #[.string bl, .string bt, .int .i64 0] 63 (0, 0))) := heap_alloc_new w _
    have HBX : Hid (Below w.heap.size w (w.alloc (.cells #[.string bl, .string bt, .int .i64 0] 63))) := below_alloc4 w _
    have HVX := hide (HV.out.move (keep_below HBX.out))
    clear HT HB0 HV0
    generalize w.alloc (.cells #[.string bl, .string bt, .int .i64 0] 63) = w0 at *
    have HRC : Calls Tryd.prog 41 #[.slice a xs.length cap, .int .i64 256, .int .i64 (bt.size : Nat)] w0 _ := recast_any w0 _ xs 256 bt.size HVX.out (by decide) (by decide) HB.out.t (Nat.le_trans HB.out.t2 (by decide)) HBY.out HL.out
    refine HRC.mono ?_
    rintro e w1 ⟨vo, rfl, ho, hb1⟩
    have HO := hide (own_mono4 ho HBX.out.size)
    have HB1 : Hid (Below w.heap.size w w1) := HBX.out.trans (hb1.mono HBX.out.size)
    obtain ⟨a2, c2, hv2, _⟩ := own_form ho
    subst hv2
    clear ho hb1
    go_wp2_with fail
    go_ret
    exact ⟨_, rfl, HO.out, HB1.out⟩
  · have HCU : Hid (cutd ⟨bl, bt, bn⟩ xs = encW bn xs) := by show _ = _; unfold cutd; rw [if_neg h0]
    rw [HCU.out]
    have g0 : ((bn : Int) == 0) = false := beq_eq_false_iff_ne.2 (by omega)
    have hn8 : bn ≤ 8 := HB.out.n
    have h0' : 0 < bn := by omega
    have q2 : (w.alloc (.cells #[.string bl, .string bt, .int .i64 (bn : Nat)] 63)).cell? ⟨w.heap.size, 2, none⟩ = some (.int .i64 (bn : Nat)) := blk_cell HT.out rfl
    clear h0
    go_enter Tryd.func39, Tryd.ntmps39
    go_wp2_with fail
    generalize w.alloc (.cells #[.string bl, .string bt, .int .i64 (bn : Nat)] 63) = w0 at *
    have HRC : Calls Tryd.prog 42 #[.slice a xs.length cap, .int .i64 8, .int .i64 (bn : Nat)] w0 _ := regroup_any w0 _ xs 8 bn HV0.out (by decide) (by decide) h0' hn8 (byte8 HBY.out) HL.out
    refine HRC.mono ?_
    rintro e w1 ⟨vo, out, R, rfl, hg, hR, ho, hb1⟩
    have HEN := hide (encW_rg h0' hg hR)
    have HRS : Hid (valB 2 R < 2 ^ R.length) := valB_lt (b := 2) (by decide) hg.r
    have HOL : Hid (out.length ≤ 8000) := by
      have h := hg.len
      rw [flat_len] at h
      have h2 : out.length * 1 ≤ out.length * bn := Nat.mul_le_mul_left _ h0'
      have := HL.out
      show _ ≤ _
      omega
    have HO := hide (own_mono4 ho HB0.out.size)
    have HB1 : Hid (Below w.heap.size w w1) := HB0.out.trans (hb1.mono HB0.out.size)
    have q3 : w1.cell? ⟨w.heap.size, 2, none⟩ = some (.int .i64 (bn : Nat)) := keep_below hb1 _ _ q2
    obtain ⟨a2, c2, hv2, _⟩ := own_form ho
    subst hv2
    clear ho hb1 hg q2 HV0 HT
    by_cases hR0 : R = []
    · as_aux_lemma =>
      rw [if_pos hR0, List.append_nil] at HEN
      subst hR0
      simp only [List.length_nil]
      go_wp2_with fail
      go_ret
      exact ⟨_, rfl, by rw [HEN.out]; exact HO.out, HB1.out⟩
    · as_aux_lemma =>
      rw [if_neg hR0] at HEN
      have hRp : 0 < R.length := List.length_pos_iff.2 hR0
      have g1 : (0 : Int) < (R.length : Int) := by omega
      have hV : valB 2 R * 2 ^ (bn - R.length) < 256 := by
        have h1 : (valB 2 R + 1) * 2 ^ (bn - R.length) ≤ 2 ^ R.length * 2 ^ (bn - R.length) := Nat.mul_le_mul_right _ HRS.out
        rw [← Nat.pow_add] at h1
        have e : R.length + (bn - R.length) = bn := by omega
        rw [e, Nat.add_mul, Nat.one_mul] at h1
        have h2 := pow_le8 hn8
        have h3 : 0 < 2 ^ (bn - R.length) := Nat.pow_pos (by decide)
        omega
      generalize hX : valB 2 R * 2 ^ (bn - R.length) = X at *
      have hXI : ((valB 2 R : Nat) : Int) * 2 ^ (bn - R.length) = (X : Int) := by rw [← hX, Int.natCast_mul, Int.natCast_pow]; rfl
      have HL1 := hide (one_bsl w1 X hV)
      have HA1 := hide (HO.out.alloc (.cells #[.int .u8 ((X : Nat) : Int)] 5))
      have HZ1 : Hid (out.length + ([X] : List Nat).length ≤ 140737488355328) := by have := HOL.out; show _ ≤ _; rw [List.length_singleton]; omega
      have HBZ : Hid (w.heap.size ≤ (w1.alloc (.cells #[.int .u8 ((X : Nat) : Int)] 5)).heap.size) := by have := HB1.out.size; show _ ≤ _; simp; omega
      have HBA : Hid (Below w.heap.size w (w1.alloc (.cells #[.int .u8 ((X : Nat) : Int)] 5))) := HB1.out.alloc HB1.out.size _
      clear hX hR0
      go_wp2_with (at_builtin; refine append_bsl rfl _ _ rfl w.heap.size _ out.length out rfl HA1.out _ [X] rfl HL1.out HZ1.out HBZ.out ?_)
      intro v7 w7 ho7 hg7
      have HB7 : Hid (Below w.heap.size w w7) := HBA.out.grown hg7 HBZ.out (fun g hg => (HA1.out.lt g hg).1)
      have HO7 : Hid (w7.ownsRow w.heap.size 5 1 v7 (out ++ [X]).length (bv (out ++ [X]))) := by show World.ownsRow _ _ _ _ _ _ _; rw [List.length_append]; exact ho7
      obtain ⟨a7, c7, hv7, _⟩ := own_form ho7
      subst hv7
      clear ho7 hg7 HA1 HL1 HBA
      go_wp2_with fail
      go_ret
      exact ⟨_, rfl, by rw [HEN.out]; exact HO7.out, HB7.out⟩
end
end Go.Proofs.YtidglddjinfncabDoor
