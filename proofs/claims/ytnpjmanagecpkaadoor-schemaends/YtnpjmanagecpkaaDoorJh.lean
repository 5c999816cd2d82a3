import Derived.Test.YtnpjmanagecpkaaDoorJg
import Derived.Test.YtnpjmanagecpkaaDoorJc
import Derived.Test.YtnpjmanagecpkaaDoorJe
namespace Go.Proofs.YtnpjmanagecpkaaDoor
section
open Go.RowKit Go
set_option maxRecDepth 1000000 in
set_option maxHeartbeats 1600000 in
theorem slow11_any (w : World) (b g : Nat) (vt : Value) (Bm : Nat) (l : List Tp) (m : Value) (hb : w.heap[b]? = some (.cells #[.pointer (some ⟨g, 0, none⟩)] 34 (0, 0))) (hg : w.heap[g]? = some (.cells #[vt, .map (some Bm), .int .u32 0, .int .i32 0, .int .u32 0, m] 75 (0, 0))) (hTk : ∀ wy, Kp (fun q => q = g) w wy → TSl wy vt l) (hOk : ∀ wy, Kp (fun q => q = g) w wy → Otb wy) (h64 : l.length ≤ 64) : Calls Tryd.prog 34 #[.pointer (some ⟨g, 2, none⟩), .func (.func 22) #[] #[.pointer (some ⟨b, 0, none⟩)]] w fun x w' => x = .returned (.tuple #[]) ∧ Hid (Fld w w' g w.heap.size l vt Bm (.int .u32 1) (.int .i32 0) (.int .u32 0)) := by
  have hbg : b ≠ g := fun e => by
    rw [e, hg] at hb
    injection hb with hb
    injection hb with hb
    have := congrArg Array.size hb
    simp at this
  have hk1 : Kp (fun q => q = g) w (w.setCell ⟨g, 3, none⟩ (.int .i32 1)) := (Kp.refl _ w).setCell _ _ (fun _ => rfl)
  have hg1 : (w.setCell ⟨g, 3, none⟩ (.int .i32 1)).heap[g]? = some (.cells #[vt, .map (some Bm), .int .u32 0, .int .i32 1, .int .u32 0, m] 75 (0, 0)) := blk_set 3 _ hg
  have hb1 : (w.setCell ⟨g, 3, none⟩ (.int .i32 1)).heap[b]? = some (.cells #[.pointer (some ⟨g, 0, none⟩)] 34 (0, 0)) := blk_other 3 _ hb hbg
  have HCA := hide (filledOf_any _ (hOk _ hk1) b g vt Bm l _ _ _ m hb1 hg1 (hTk _ hk1) h64)
  have c3 : w.cell? ⟨g, 3, none⟩ = some (.int .i32 0) := blk_cell (j := 3) hg rfl
  have f3 := blk_frozen 3 hg
  have d2 : (w.setCell ⟨g, 3, none⟩ (.int .i32 1)).cell? ⟨g, 2, none⟩ = some (.int .u32 0) := blk_cell (j := 2) hg1 rfl
  have hsz : (w.setCell ⟨g, 3, none⟩ (.int .i32 1)).heap.size = w.heap.size := by simp
  have HSZ := hide hsz
  have HK1 := hide hk1
  have hnot : ∀ (x : Bool) (w : World), (Op.unary .not (.bool x)).run Tryd.prog w = .ok (.bool (!x)) w := fun _ _ => rfl
  have HGL : Hid (g < w.heap.size) := blk_lt hg
  clear hb hg hTk hOk hbg hk1 hg1 hb1 hsz
  go_enter_defers Tryd.func34, Tryd.ntmps34
  go_wp2_with (first
    | (go_at_call 50; refine (lockFree ⟨g, 3, none⟩ _ c3 f3).mono ?_; rintro e w' ⟨rfl, rfl⟩)
    | (go_at_call 33; refine (done_any ⟨g, 2, none⟩ 0 _ d2).mono ?_; rintro e w' ⟨rfl, rfl⟩)
    | (go_at_call 22; refine HCA.out.mono ?_; rintro e w2 ⟨rfl, hP⟩))
  have hF := hP.out
  rw [HSZ.out] at hF
  have hr := hF.r
  have e2 : w2.cell? ⟨g, 2, none⟩ = some (.int .u32 0) := blk_cell (j := 2) hr rfl
  have z2 := blk_frozen 2 hr
  have hrd : w2.drew.heap[g]? = some (.cells #[vt, .map (some Bm), .int .u32 0, .int .i32 1, .int .u32 0, .map (some w.heap.size)] 75 (0, 0)) := hr
  have hr3 := blk_set 2 (.int .u32 1) hrd
  have e3 : (w2.drew.setCell ⟨g, 2, none⟩ (.int .u32 1)).cell? ⟨g, 3, none⟩ = some (.int .i32 1) := blk_cell (j := 3) hr3 rfl
  have z3 := blk_frozen 3 hr3
  have hr4 := blk_set 3 (.int .i32 0) hr3
  have hk4 : Kp (fun q => q = g) w2 ((w2.drew.setCell ⟨g, 2, none⟩ (.int .u32 1)).setCell ⟨g, 3, none⟩ (.int .i32 0)) := ((Kp.refl (fun q => q = g) w2).drew.setCell ⟨g, 2, none⟩ _ (fun _ => rfl)).setCell ⟨g, 3, none⟩ _ (fun _ => rfl)
  obtain ⟨n, k, hm, hle⟩ := hF.m
  have HF4 : Hid (Fld w ((w2.drew.setCell ⟨g, 2, none⟩ (.int .u32 1)).setCell ⟨g, 3, none⟩ (.int .i32 0)) g w.heap.size l vt Bm (.int .u32 1) (.int .i32 0) (.int .u32 0)) := ⟨hr4, ⟨n, k, hm.kp hk4 (fun e => by have e' : w.heap.size = g := e; have := HGL.out; omega), hle⟩, (HK1.out.trans hF.k (fun _ _ e => e)).trans hk4 (fun _ _ e => e), Nat.le_refl _⟩
  refine leaves_cons (f := 52) (args := #[.pointer (some ⟨g, 2, none⟩), .bool true]) (by simp) (by simp [go_sem]) ?_
  refine (storeLate ⟨g, 2, none⟩ (.int .u32 0) .returning _ e2 z2).mono ?_
  rintro e u' w'' ⟨rfl, rfl, rfl⟩
  refine leaves_cons (f := 51) (args := #[.pointer (some ⟨g, 3, none⟩)]) (by simp [settle]) (by simp [go_sem]) ?_
  refine (unlockLate ⟨g, 3, none⟩ _ _ e3 z3).mono ?_
  rintro e u' w'' ⟨rfl, rfl, rfl⟩
  simp [Leaves, settle, results, Tryd.results34]
  exact HF4.out
end
section
open Go.RowKit Go
set_option maxRecDepth 1000000 in
set_option maxHeartbeats 1600000 in
theorem onceFirst_any (w : World) (b g : Nat) (vt : Value) (Bm : Nat) (l : List Tp) (m : Value) (hb : w.heap[b]? = some (.cells #[.pointer (some ⟨g, 0, none⟩)] 34 (0, 0))) (hg : w.heap[g]? = some (.cells #[vt, .map (some Bm), .int .u32 0, .int .i32 0, .int .u32 0, m] 75 (0, 0))) (hTk : ∀ wy, Kp (fun q => q = g) w wy → TSl wy vt l) (hOk : ∀ wy, Kp (fun q => q = g) w wy → Otb wy) (h64 : l.length ≤ 64) : Calls Tryd.prog 21 #[.pointer (some ⟨g, 2, none⟩), .func (.func 22) #[] #[.pointer (some ⟨b, 0, none⟩)]] w fun x w' => x = .returned (.tuple #[]) ∧ Hid (Fld w w' g w.heap.size l vt Bm (.int .u32 1) (.int .i32 0) (.int .u32 0)) := by
  have HCA := hide (slow11_any w b g vt Bm l m hb hg hTk hOk h64)
  have d2 : w.cell? ⟨g, 2, none⟩ = some (.int .u32 0) := blk_cell (j := 2) hg rfl
  have hnot : ∀ (x : Bool) (w : World), (Op.unary .not (.bool x)).run Tryd.prog w = .ok (.bool (!x)) w := fun _ _ => rfl
  clear hb hg hTk hOk
  go_enter Tryd.func21, Tryd.ntmps21
  go_wp2_with (first
    | (go_at_call 33; refine (done_any ⟨g, 2, none⟩ 0 _ d2).mono ?_; rintro e w' ⟨rfl, rfl⟩)
    | (go_at_call 34; refine HCA.out.mono ?_; rintro e w2 ⟨rfl, hP⟩))
  go_end0
  exact ⟨rfl, hP⟩
set_option maxRecDepth 1000000 in
theorem onceDone_any (w : World) (g : Nat) (f : Value) (d : Int) (hd : d ≠ 0) (d2 : w.cell? ⟨g, 2, none⟩ = some (.int .u32 d)) : Calls Tryd.prog 21 #[.pointer (some ⟨g, 2, none⟩), f] w fun x w' => x = .returned (.tuple #[]) ∧ w' = w := by
  have hnot : ∀ (x : Bool) (w : World), (Op.unary .not (.bool x)).run Tryd.prog w = .ok (.bool (!x)) w := fun _ _ => rfl
  have hne : (d != 0) = true := by rw [bne_iff_ne]; exact hd
  go_enter Tryd.func21, Tryd.ntmps21
  go_wp2_with (first
    | (go_at_call 33; refine (done_any ⟨g, 2, none⟩ d _ d2).mono ?_; rintro e w' ⟨rfl, rfl⟩))
  go_end0
  exact ⟨rfl, rfl⟩
end
section
open Go.RowKit Go
set_option maxRecDepth 1000000 in
set_option maxHeartbeats 1600000 in
theorem tfilled_first (w : World) (g : Nat) (vt : Value) (Bm : Nat) (l : List Tp) (m : Value) (s : ByteArray) (hs : s.size ≤ 140737488351232) (hg : w.heap[g]? = some (.cells #[vt, .map (some Bm), .int .u32 0, .int .i32 0, .int .u32 0, m] 75 (0, 0))) (hTk : ∀ wy, Kp (fun q => q = g) w wy → TSl wy vt l) (hOk : ∀ wy, Kp (fun q => q = g) w wy → Otb wy) (h64 : l.length ≤ 64) : Calls Tryd.prog 10 #[.pointer (some ⟨g, 0, none⟩), .string s] w fun x w' => ∃ M k, x = .returned (.bool (memb (itr l (k + 1)) s)) ∧ Hid ((itr l (k + 1)).length ≤ (itr l k).length ∧ (∃ n, Mst w' M n (itr l (k + 1))) ∧ w'.heap[g]? = some (.cells #[vt, .map (some Bm), .int .u32 1, .int .i32 0, .int .u32 0, .map (some M)] 75 (0, 0)) ∧ Kp (fun q => q = g) w w' ∧ w.heap.size ≤ M) := by
  have hb0 := below_alloc4 w (.cells #[.pointer (some ⟨g, 0, none⟩)] 34)
  have hk0 : Kp (fun q => q = g) w (w.alloc (.cells #[.pointer (some ⟨g, 0, none⟩)] 34)) := Kp.mono (Kp.of_below (S := fun _ => False) hb0) (fun _ _ e => e.elim)
  have hbx := heap_alloc_new w (.cells #[.pointer (some ⟨g, 0, none⟩)] 34)
  have hg0 := (hb0.block _ (blk_lt hg)).trans hg
  have HCA := hide (onceFirst_any _ w.heap.size g vt Bm l m hbx hg0 (fun wy hk => hTk wy (hk0.trans hk (fun _ _ e => e))) (fun wy hk => hOk wy (hk0.trans hk (fun _ _ e => e))) h64)
  have q0 : (w.alloc (.cells #[.pointer (some ⟨g, 0, none⟩)] 34)).cell? ⟨w.heap.size, 0, none⟩ = some (.pointer (some ⟨g, 0, none⟩)) := blk_cell (j := 0) hbx rfl
  have HK0 := hide hk0
  have HBX := hide hbx
  have HS := hide hs
  have HSL : Hid (w.heap.size ≤ (w.alloc (.cells #[.pointer (some ⟨g, 0, none⟩)] 34)).heap.size) := hb0.size
  have HNG : Hid (w.heap.size ≠ g) := fun e => by have := blk_lt hg; omega
  clear hb0 hk0 hbx hg0 hg hTk hOk hs
  go_enter Tryd.func10, Tryd.ntmps10
  go_wp2_with fail
  refine HCA.out.mono ?_
  rintro e w2 ⟨rfl, hP⟩
  obtain ⟨n, k, hm, hle⟩ := hP.out.m
  have HM := hide hm
  have HLE := hide hle
  have HR := hide hP.out.r
  have HK2 : Hid (Kp (fun q => q = g) w w2) := HK0.out.trans hP.out.k (fun _ _ e => e)
  have HN2 := hide hP.out.n
  have t0 : w2.cell? ⟨w.heap.size, 0, none⟩ = some (.pointer (some ⟨g, 0, none⟩)) := blk_cell (j := 0) ((hP.out.k.block _ (blk_lt HBX.out) HNG.out).trans HBX.out) rfl
  have t5 : w2.cell? ⟨g, 5, none⟩ = some (.map (some (w.alloc (.cells #[.pointer (some ⟨g, 0, none⟩)] 34)).heap.size)) := blk_cell (j := 5) HR.out rfl
  generalize (w.alloc (.cells #[.pointer (some ⟨g, 0, none⟩)] 34)).heap.size = M at *
  clear hm hle hP HCA q0
  go_wp2_with (refine wpList_lookS rfl rfl rfl rfl HM.out HS.out ?_)
  go_ret
  have hb3 := below_alloc4 w2 (.cells #[] 61)
  exact ⟨M, k, rfl, HLE.out, ⟨n, HM.out.next hb3⟩, (hb3.block _ (blk_lt HR.out)).trans HR.out, HK2.out.trans (Kp.of_below (S := fun _ => False) hb3) (fun _ _ e => e.elim), HSL.out⟩
set_option maxRecDepth 1000000 in
set_option maxHeartbeats 1600000 in
theorem tfilled_again (w : World) (g : Nat) (vt : Value) (Bm M n : Nat) (L : List ByteArray) (s : ByteArray) (hs : s.size ≤ 140737488351232) (hg : w.heap[g]? = some (.cells #[vt, .map (some Bm), .int .u32 1, .int .i32 0, .int .u32 0, .map (some M)] 75 (0, 0))) (hm : Mst w M n L) : Calls Tryd.prog 10 #[.pointer (some ⟨g, 0, none⟩), .string s] w fun x w' => x = .returned (.bool (memb L s)) ∧ Below w.heap.size w w' := by
  have hb0 := below_alloc4 w (.cells #[.pointer (some ⟨g, 0, none⟩)] 34)
  have hbx := heap_alloc_new w (.cells #[.pointer (some ⟨g, 0, none⟩)] 34)
  have hg0 := (hb0.block _ (blk_lt hg)).trans hg
  have HCA := hide (fun f => onceDone_any (w.alloc (.cells #[.pointer (some ⟨g, 0, none⟩)] 34)) g f 1 (by decide) (blk_cell (j := 2) hg0 rfl))
  have q0 : (w.alloc (.cells #[.pointer (some ⟨g, 0, none⟩)] 34)).cell? ⟨w.heap.size, 0, none⟩ = some (.pointer (some ⟨g, 0, none⟩)) := blk_cell (j := 0) hbx rfl
  have t5 : (w.alloc (.cells #[.pointer (some ⟨g, 0, none⟩)] 34)).cell? ⟨g, 5, none⟩ = some (.map (some M)) := blk_cell (j := 5) hg0 rfl
  have HM := hide (hm.next hb0)
  have HS := hide hs
  have HB0 := hide hb0
  clear hb0 hbx hg0 hg hs hm
  go_enter Tryd.func10, Tryd.ntmps10
  go_wp2_with fail
  generalize w.alloc (.cells #[.pointer (some ⟨g, 0, none⟩)] 34) = w1 at *
  refine (HCA.out _).mono ?_
  rintro e w2 ⟨rfl, rfl⟩
  clear HCA
  go_wp2_with (refine wpList_lookS rfl rfl rfl rfl HM.out HS.out ?_)
  go_ret
  exact ⟨rfl, HB0.out.trans ((below_alloc4 _ _).mono HB0.out.size)⟩
end
section
open Go.RowKit Go
def tx (i : Nat) : ByteArray := nstr [116, 97 + i / 8, 97 + i % 8]
set_option maxRecDepth 1000000 in
set_option maxHeartbeats 400000 in
theorem text_any (i : Nat) (hi : i < 66) (w : World) : Calls Tryd.prog 14 #[.int .i64 (i : Nat)] w fun e w' => e = .returned (.string (tx i)) ∧ Below w.heap.size w w' := by
  have hb : ∀ x ∈ [116, 97 + i / 8, 97 + i % 8], x < 256 := by
    intro x hx
    simp only [List.mem_cons, List.not_mem_nil, or_false] at hx
    rcases hx with rfl | rfl | rfl <;> omega
  have tx : (convert 79 9 (.slice (some ⟨w.heap.size, 0, none⟩) 3 3)).run Tryd.prog (w.alloc (.cells #[.int .u8 116, .int .u8 ((97 + i / 8 : Nat) : Int), .int .u8 ((97 + i % 8 : Nat) : Int)] 5)) = .ok (.string (tx i)) (w.alloc (.cells #[.int .u8 116, .int .u8 ((97 + i / 8 : Nat) : Int), .int .u8 ((97 + i % 8 : Nat) : Int)] 5)) :=
    (bsl_block (xs := [116, 97 + i / 8, 97 + i % 8]) (heap_alloc_new w (.cells #[.int .u8 116, .int .u8 ((97 + i / 8 : Nat) : Int), .int .u8 ((97 + i % 8 : Nat) : Int)] 5)) hb (by simp)).text
  have HTX := hide tx
  have HBL := hide (below_alloc4 w (.cells #[.int .u8 116, .int .u8 ((97 + i / 8 : Nat) : Int), .int .u8 ((97 + i % 8 : Nat) : Int)] 5))
  obtain ⟨q, hq⟩ : ∃ q : Nat, q = 97 + i / 8 := ⟨_, rfl⟩
  obtain ⟨r, hr⟩ : ∃ r : Nat, r = 97 + i % 8 := ⟨_, rfl⟩
  rw [← hq, ← hr] at HTX HBL
  have q1 : IntKind.i64.wrap (97 + (i : Int) / 8) = (q : Int) := by rw [IntKind.wrap_i64]; omega
  have r1 : IntKind.i64.wrap (97 + (i : Int) % 8) = (r : Int) := by rw [IntKind.wrap_i64]; omega
  have q2 : IntKind.u8.wrap (q : Int) = (q : Int) := by rw [IntKind.wrap_u8]; omega
  have r2 : IntKind.u8.wrap (r : Int) = (r : Int) := by rw [IntKind.wrap_u8]; omega
  clear tx hb hq hr
  go_enter Tryd.func14, Tryd.ntmps14
  have tx := HTX.out
  go_wp2_with fail
  go_ret
  exact ⟨rfl, HBL.out⟩
end
section
open Go.RowKit Go
/-! ### begun: the list that it asks about -/
def pnm : ByteArray := ⟨#[112, 97, 105, 114]⟩
def lnm : ByteArray := ⟨#[108, 111, 111, 112]⟩
def nnm : ByteArray := ⟨#[110, 111, 110, 101]⟩
def pfs : List Fd := [⟨⟨#[108, 101, 102, 116]⟩, ⟨#[108]⟩, ⟨⟨#[105, 110, 116]⟩, false⟩, false⟩, ⟨⟨#[114, 105, 103, 104, 116]⟩, ⟨#[114]⟩, ⟨⟨#[112, 97, 105, 114]⟩, true⟩, false⟩]
def prT (nm : ByteArray) : List Tp := [⟨pnm, 5, 0, 0, zrf, pfs, [], []⟩, ⟨lnm, 3, 1, 2, ⟨nm, false⟩, [], [], []⟩]
theorem pr_chk : chk11 (prT lnm) = (0, 0) := by decide +kernel
theorem pr_bad : chk11 (prT nnm) = (114, 1) := by decide +kernel
theorem pr_fnd : fnd (prT lnm) pnm = (⟨pnm, 5, 0, 0, zrf, pfs, [], []⟩, true) := by
  have h : plc (prT lnm) pnm = some 0 := by decide +kernel
  unfold fnd
  rw [h]
  rfl
theorem pr_shrt (nm : ByteArray) : Shrt (prT nm) := by
  intro t ht
  unfold prT at ht
  rcases List.mem_cons.1 ht with rfl | ht
  · simp [pfs]
  · rw [List.mem_singleton.1 ht]
    simp
theorem pas1_memL {L : List ByteArray} {t : Tp} {x : ByteArray} (h : x ∈ L) : x ∈ pas1 L t := by
  unfold pas1
  split
  · exact putL_mem.2 (.inr h)
  · exact h
theorem pas_memL : ∀ (ts : List Tp) (L : List ByteArray) (x : ByteArray), x ∈ L → x ∈ pas L ts
  | [], _, _, h => h
  | t :: r, L, x, h => pas_memL r (pas1 L t) x (pas1_memL h)
theorem itr_onm (l : List Tp) : ∀ (k : Nat) (x : ByteArray), x ∈ onm → x ∈ itr l k
  | 0, _, h => h
  | k + 1, x, h => pas_memL l (itr l k) x (itr_onm l k x h)
theorem pr_pair {k : Nat} (h : (itr (prT lnm) (k + 1)).length ≤ (itr (prT lnm) k).length) : memb (itr (prT lnm) (k + 1)) pnm = true := by
  refine memb_iff.2 ((itr_closed _ _ h).2 ⟨pnm, 5, 0, 0, zrf, pfs, [], []⟩ (List.mem_cons_self ..) ?_)
  exact rulb_mono (L := onm) (fun x hx => itr_onm _ _ x hx) (by decide +kernel)
theorem pr_loop (k : Nat) : memb (itr (prT lnm) k) lnm = false := by
  cases hm : memb (itr (prT lnm) k) lnm with
  | false => rfl
  | true =>
    have h := itr_least (prT lnm) (M := pnm :: onm) (fun x hx => List.mem_cons_of_mem _ hx) (fun t ht hr => ?_) k lnm (memb_iff.1 hm)
    · exact absurd (memb_iff.2 h) (by decide +kernel)
    · unfold prT at ht
      rcases List.mem_cons.1 ht with rfl | ht
      · exact List.mem_cons_self ..
      · rw [List.mem_singleton.1 ht] at hr
        exact absurd hr (by decide +kernel)
def pfc : Array Value := #[.string ⟨#[108, 101, 102, 116]⟩, .string ⟨#[108]⟩, .string ⟨#[105, 110, 116]⟩, .bool false, .bool false, .string ⟨#[114, 105, 103, 104, 116]⟩, .string ⟨#[114]⟩, .string ⟨#[112, 97, 105, 114]⟩, .bool true, .bool false]
def ptc (f : Nat) (nm : ByteArray) : Array Value := #[.string ⟨#[112, 97, 105, 114]⟩, .int .i64 5, .int .i64 0, .int .i64 0, .string ⟨#[]⟩, .bool false, .slice (some ⟨f, 0, none⟩) 2 2, .slice none 0 0, .slice none 0 0, .string ⟨#[108, 111, 111, 112]⟩, .int .i64 3, .int .i64 1, .int .i64 2, .string nm, .bool false, .slice none 0 0, .slice none 0 0, .slice none 0 0]
theorem ssl_nil (w : World) : SSl w (.slice none 0 0) [] := ⟨⟨none, 0, rfl, ⟨Nat.le_refl _, fun _ => rfl⟩, .inl rfl⟩, Nat.zero_le _, fun _ h => by cases h⟩
/-- The list in memory. -/
structure Prw (w : World) (f g : Nat) (nm : ByteArray) : Prop where
  hf : w.heap[f]? = some (.cells pfc 46 (0, 0))
  hg : w.heap[g]? = some (.cells (ptc f nm) 29 (0, 0))
  n : f ≠ g
theorem Prw.next {w w' : World} {f g : Nat} {nm : ByteArray} (h : Prw w f g nm) (hb : Below w.heap.size w w') : Prw w' f g nm := ⟨(hb.block _ (blk_lt h.hf)).trans h.hf, (hb.block _ (blk_lt h.hg)).trans h.hg, h.n⟩
theorem Prw.set {w : World} {f g : Nat} {nm nm' : ByteArray} (h : Prw w f g nm) : Prw (w.setCell ⟨g, 13, none⟩ (.string nm')) f g nm' := ⟨blk_other 13 _ h.hf h.n, blk_set 13 _ h.hg, h.n⟩
theorem Prw.tsl {w : World} {f g : Nat} {nm : ByteArray} (h : Prw w f g nm) (hn : nm.size ≤ 140737488351232) : TSl w (.slice (some ⟨g, 0, none⟩) 2 2) (prT nm) := by
  have hF : FSl w (.slice (some ⟨f, 0, none⟩) 2 2) pfs := by
    refine ⟨⟨some ⟨f, 0, none⟩, 2, rfl, ⟨Nat.le_refl _, fun e => by cases e⟩, .inr ⟨f, 0, rfl, fun i x hi => ?_⟩⟩, by decide⟩
    rcases i with _ | _ | i
    · have e : x = ⟨⟨#[108, 101, 102, 116]⟩, ⟨#[108]⟩, ⟨⟨#[105, 110, 116]⟩, false⟩, false⟩ := (Option.some.inj hi).symm
      subst e
      refine ⟨_, ⟨rfl, by decide, by decide, by decide⟩, fun j u hj => ?_⟩
      rcases j with _ | _ | _ | _ | _ | j
      all_goals first
        | exact blk_cell h.hf hj
        | (exact absurd hj (by simp [fdc]))
    · have e : x = ⟨⟨#[114, 105, 103, 104, 116]⟩, ⟨#[114]⟩, ⟨⟨#[112, 97, 105, 114]⟩, true⟩, false⟩ := (Option.some.inj hi).symm
      subst e
      refine ⟨_, ⟨rfl, by decide, by decide, by decide⟩, fun j u hj => ?_⟩
      rcases j with _ | _ | _ | _ | _ | j
      all_goals first
        | exact blk_cell h.hf hj
        | (exact absurd hj (by simp [fdc]))
    · simp [pfs] at hi
  refine ⟨⟨some ⟨g, 0, none⟩, 2, rfl, ⟨Nat.le_refl _, fun e => by cases e⟩, .inr ⟨g, 0, rfl, fun i x hi => ?_⟩⟩, by simp [prT]⟩
  rcases i with _ | _ | i
  · have e : x = ⟨pnm, 5, 0, 0, zrf, pfs, [], []⟩ := (Option.some.inj hi).symm
    subst e
    refine ⟨_, ⟨⟨_, _, _, rfl, hF, GSl.nil, ssl_nil w⟩, ⟨by decide, by decide, by decide, by decide, by decide⟩⟩, fun j u hj => ?_⟩
    rcases j with _ | _ | _ | _ | _ | _ | _ | _ | _ | j
    all_goals first
      | exact blk_cell h.hg hj
      | (exact absurd hj (by simp [tpc]))
  · have e : x = ⟨lnm, 3, 1, 2, ⟨nm, false⟩, [], [], []⟩ := (Option.some.inj hi).symm
    subst e
    refine ⟨_, ⟨⟨_, _, _, rfl, GSl.nil, GSl.nil, ssl_nil w⟩, ⟨(by decide : lnm.size ≤ 140737488351232), hn, (by decide : -9223372036854775808 ≤ (3 : Int) ∧ (3 : Int) ≤ 9223372036854775807), (by decide : -9223372036854775808 ≤ (1 : Int) ∧ (1 : Int) ≤ 9223372036854775807), (by decide : -9223372036854775808 ≤ (2 : Int) ∧ (2 : Int) ≤ 9223372036854775807)⟩⟩, fun j u hj => ?_⟩
    rcases j with _ | _ | _ | _ | _ | _ | _ | _ | _ | j
    all_goals first
      | exact blk_cell h.hg hj
      | (exact absurd hj (by simp [tpc]))
  · simp [prT] at hi
theorem alloc4_at (w : World) (o1 o2 o3 o4 : Obj) : ((((w.alloc o1).alloc o2).alloc o3).alloc o4).heap[w.heap.size + 1 + 1]? = some o3 ∧ ((((w.alloc o1).alloc o2).alloc o3).alloc o4).heap[w.heap.size + 1 + 1 + 1]? = some o4 ∧ Below w.heap.size w ((((w.alloc o1).alloc o2).alloc o3).alloc o4) := by
  have e1 : (w.alloc o1).heap.size = w.heap.size + 1 := by simp
  have e2 : ((w.alloc o1).alloc o2).heap.size = w.heap.size + 1 + 1 := by rw [← e1]; simp
  have e3 : (((w.alloc o1).alloc o2).alloc o3).heap.size = w.heap.size + 1 + 1 + 1 := by rw [← e2]; simp
  have h3 := heap_alloc_new ((w.alloc o1).alloc o2) o3
  have h4 := heap_alloc_new (((w.alloc o1).alloc o2).alloc o3) o4
  rw [e2] at h3
  rw [e3] at h4
  exact ⟨blk_alloc _ h3, h4, (((below_alloc4 w o1).alloc (by omega) _).alloc (by omega) _).alloc (by omega) _⟩
set_option maxRecDepth 1000000 in
set_option maxHeartbeats 1000000 in
theorem pair_any (w : World) : Calls Tryd.prog 16 #[] w fun e w' => ∃ f g, e = .returned (.slice (some ⟨g, 0, none⟩) 2 2) ∧ Hid (Prw w' f g lnm ∧ w.heap.size ≤ f ∧ w.heap.size ≤ g ∧ Below w.heap.size w w') := by
  go_enter Tryd.func16, Tryd.ntmps16
  go_wp2_with fail
  go_ret
  obtain ⟨h1, h2, h3⟩ := alloc4_at w (.cells #[.string ⟨#[108, 101, 102, 116]⟩, .string ⟨#[108]⟩, .string ⟨#[105, 110, 116]⟩, .bool false, .bool false] 46) (.cells #[.string ⟨#[114, 105, 103, 104, 116]⟩, .string ⟨#[114]⟩, .string ⟨#[112, 97, 105, 114]⟩, .bool true, .bool false] 46) (.cells pfc 46) (.cells (ptc (w.heap.size + 1 + 1) lnm) 29)
  exact ⟨w.heap.size + 1 + 1, w.heap.size + 1 + 1 + 1, rfl, ⟨h1, h2, by omega⟩, by omega, by omega, h3⟩
end
section
open Go.RowKit Go
set_option maxRecDepth 1000000 in
theorem num11_any (n : Int) (w : World) : Calls Tryd.prog 9 #[.int .i64 n] w fun e w' => e = .returned (.int .i64 n) ∧ w' = w := by
  go_enter Tryd.func9, Tryd.ntmps9
  go_wp2_with fail
  go_ret
  exact ⟨rfl, rfl⟩
theorem otb_kp {w wx wy : World} {g : Nat} (h : Otb w) (hb : Below w.heap.size w wx) (hg : w.heap.size ≤ g) (hk : Kp (fun q => q = g) wx wy) : Otb wy := ⟨fun j u hj => by
  have h1 := h.c j u hj
  have hlt := World.block_lt_of_cell? w _ h1
  refine hk.cell (keep_below hb _ _ h1) (fun e => ?_)
  have e' : 0 = g := e
  have hlt' : 0 < w.heap.size := hlt
  omega⟩
set_option maxRecDepth 1000000 in
set_option maxHeartbeats 4000000 in
theorem begun11_any (w : World) (hT : Tabs w) (hO : Otb w) : Calls Tryd.prog 5 #[] w fun e w' => e = .returned (.bool true) ∧ Below w.heap.size w w' := by
  have HT : Hid (∀ wy, Below w.heap.size w wy → Tabs wy) := fun wy hb => hT.next hb
  have HO : Hid (∀ wy, Below w.heap.size w wy → Otb wy) := fun wy hb => hO.next (keep_below hb)
  have HOT := hide hO
  have HNU := hide (fun n W => num11_any n W)
  clear hT hO
  go_enter Tryd.func5, Tryd.ntmps5
  go_wp2_with fail
  refine (pair_any w).mono ?_
  rintro e w1 ⟨f, g, rfl, hP⟩
  have HP1 := hide hP.out.1
  have HN := hide (And.intro hP.out.2.1 hP.out.2.2.1)
  have HB1 := hide hP.out.2.2.2
  have HC1 : Hid (Calls Tryd.prog 15 #[.slice (some ⟨g, 0, none⟩) 2 2] w1 fun e w' => e = .returned (.tuple #[.int .i64 0, .int .i64 0]) ∧ Below w1.heap.size w1 w') := by
    have h := check11_any w1 (HT.out w1 HB1.out) (HO.out w1 HB1.out) _ _ (HP1.out.tsl (by decide)) (pr_shrt _)
    rw [pr_chk] at h
    exact h
  clear hP
  go_wp2_with fail
  refine HC1.out.mono ?_
  rintro e w2 ⟨rfl, hb2⟩
  have HB2 : Hid (Below w.heap.size w w2) := HB1.out.trans (hb2.mono HB1.out.size)
  have HP2 := hide (HP1.out.next hb2)
  clear HC1 HP1 HB1 hb2
  have HC2 : Hid (Calls Tryd.prog 7 #[.slice (some ⟨g, 0, none⟩) 2 2] w2 fun e w' => ∃ t, e = .returned (.tuple #[.pointer (some ⟨t, 0, none⟩), .int .i64 0]) ∧ Hid (w2.heap.size ≤ t ∧ Tbm w' w2.heap.size t (prT lnm) 0 (.map none) ∧ Below w2.heap.size w2 w')) := by
    have h := open_any w2 (HT.out w2 HB2.out) (HO.out w2 HB2.out) _ _ (HP2.out.tsl (by decide)) (pr_shrt _)
    rw [pr_chk] at h
    refine h.mono ?_
    rintro e w' ⟨⟨vp, rfl, _, h2⟩, h3⟩
    obtain ⟨t, rfl, h4, h5⟩ := h2 rfl
    exact ⟨t, rfl, h4, h5, h3⟩
  go_wp2_with fail
  refine HC2.out.mono ?_
  rintro e w3 ⟨t, rfl, hP⟩
  have HTG := hide hP.out.1
  have HTB := hide hP.out.2.1
  have hb3 := hP.out.2.2
  have HB3 : Hid (Below w.heap.size w w3) := HB2.out.trans (hb3.mono HB2.out.size)
  have HP3 := hide (HP2.out.next hb3)
  have HGL : Hid (g < w2.heap.size) := blk_lt HP2.out.hg
  clear HC2 HP2 hP hb3
  go_wp2_with (first
    | (go_at_call 9
       refine (HNU.out _ _).mono ?_
       rintro e wq ⟨rfl, rfl⟩))
  have HC3 : Hid (Calls Tryd.prog 17 #[.pointer (some ⟨t, 0, none⟩), .string ⟨#[112, 97, 105, 114]⟩] wq fun e w' => ∃ c, e = .returned (.tuple #[.agg c, .bool true]) ∧ Hid (Tpi w' ⟨pnm, 5, 0, 0, zrf, pfs, [], []⟩ c ∧ Below wq.heap.size wq w')) := by
    have h := tfind_any wq (HO.out wq HB3.out) t (prT lnm) 0 (.map none) HTB.out.tbl (pr_shrt _) pnm (by decide)
    rw [pr_fnd] at h
    exact h
  refine HC3.out.mono ?_
  rintro e w4 ⟨c, rfl, hP⟩
  have hb4 := hP.out.2
  obtain ⟨⟨vf, vc, vw, hc, ⟨⟨af, cf, hvf, -, -⟩, -⟩, ⟨⟨ac, cc, hvc, -, -⟩, -⟩, ⟨⟨aw, cw, hvw, -, -⟩, -, -⟩⟩, -⟩ := hP.out.1
  subst hvf
  subst hvc
  subst hvw
  have hc' : c = #[.string ⟨#[112, 97, 105, 114]⟩, .int .i64 5, .int .i64 0, .int .i64 0, .string ⟨#[]⟩, .bool false, .slice af 2 cf, .slice ac 0 cc, .slice aw 0 cw] := hc
  clear hP hc HC3
  subst hc'
  have hb5 := below_alloc4 w4 (.cells #[.string ⟨#[112, 97, 105, 114]⟩, .int .i64 5, .int .i64 0, .int .i64 0, .string ⟨#[]⟩, .bool false, .slice af 2 cf, .slice ac 0 cc, .slice aw 0 cw] 29)
  have hx5 := heap_alloc_new w4 (.cells #[.string ⟨#[112, 97, 105, 114]⟩, .int .i64 5, .int .i64 0, .int .i64 0, .string ⟨#[]⟩, .bool false, .slice af 2 cf, .slice ac 0 cc, .slice aw 0 cw] 29)
  have hp5 := (HP3.out.next hb4).next hb5
  have g13 := blk_cell (j := 13) (v := .string lnm) hp5.hg rfl
  have z13 := blk_frozen 13 hp5.hg
  have hbx : Below w.heap.size w (w4.alloc (.cells #[.string ⟨#[112, 97, 105, 114]⟩, .int .i64 5, .int .i64 0, .int .i64 0, .string ⟨#[]⟩, .bool false, .slice af 2 cf, .slice ac 0 cc, .slice aw 0 cw] 29)) := (HB3.out.trans (hb4.mono HB3.out.size)).trans (hb5.mono (Nat.le_trans HB3.out.size hb4.size))
  have hkx : Kp (fun q => q = g) (w4.alloc (.cells #[.string ⟨#[112, 97, 105, 114]⟩, .int .i64 5, .int .i64 0, .int .i64 0, .string ⟨#[]⟩, .bool false, .slice af 2 cf, .slice ac 0 cc, .slice aw 0 cw] 29)) ((w4.alloc (.cells #[.string ⟨#[112, 97, 105, 114]⟩, .int .i64 5, .int .i64 0, .int .i64 0, .string ⟨#[]⟩, .bool false, .slice af 2 cf, .slice ac 0 cc, .slice aw 0 cw] 29)).setCell ⟨g, 13, none⟩ (.string ⟨#[110, 111, 110, 101]⟩)) := (Kp.refl (fun q => q = g) _).setCell _ _ (fun _ => rfl)
  have HP6 : Hid (Prw ((w4.alloc (.cells #[.string ⟨#[112, 97, 105, 114]⟩, .int .i64 5, .int .i64 0, .int .i64 0, .string ⟨#[]⟩, .bool false, .slice af 2 cf, .slice ac 0 cc, .slice aw 0 cw] 29)).setCell ⟨g, 13, none⟩ (.string ⟨#[110, 111, 110, 101]⟩)) f g nnm) := hp5.set
  have HB6 : Hid (Below w.heap.size w ((w4.alloc (.cells #[.string ⟨#[112, 97, 105, 114]⟩, .int .i64 5, .int .i64 0, .int .i64 0, .string ⟨#[]⟩, .bool false, .slice af 2 cf, .slice ac 0 cc, .slice aw 0 cw] 29)).setCell ⟨g, 13, none⟩ (.string ⟨#[110, 111, 110, 101]⟩))) := hbx.trans (hkx.below hbx.size (fun q e => by rw [e]; exact HN.out.2))
  have HTB6 : Hid (Tbm ((w4.alloc (.cells #[.string ⟨#[112, 97, 105, 114]⟩, .int .i64 5, .int .i64 0, .int .i64 0, .string ⟨#[]⟩, .bool false, .slice af 2 cf, .slice ac 0 cc, .slice aw 0 cw] 29)).setCell ⟨g, 13, none⟩ (.string ⟨#[110, 111, 110, 101]⟩)) w2.heap.size t (prT lnm) 0 (.map none)) := ((HTB.out.next hb4).next hb5).kp hkx (fun q e => by rw [e]; exact HGL.out) HTG.out
  have HX6 : Hid (((w4.alloc (.cells #[.string ⟨#[112, 97, 105, 114]⟩, .int .i64 5, .int .i64 0, .int .i64 0, .string ⟨#[]⟩, .bool false, .slice af 2 cf, .slice ac 0 cc, .slice aw 0 cw] 29)).setCell ⟨g, 13, none⟩ (.string ⟨#[110, 111, 110, 101]⟩)).heap[w4.heap.size]? = some (.cells #[.string ⟨#[112, 97, 105, 114]⟩, .int .i64 5, .int .i64 0, .int .i64 0, .string ⟨#[]⟩, .bool false, .slice af 2 cf, .slice ac 0 cc, .slice aw 0 cw] 29 (0, 0))) := blk_other 13 _ hx5 (fun e => by have h1 := blk_lt (HP3.out.next hb4).hg; omega)
  clear hb4 hb5 hx5 hp5 hbx hkx HTB HP3 HB3
  go_wp2_with fail
  clear g13 z13
  generalize (w4.alloc (.cells #[.string ⟨#[112, 97, 105, 114]⟩, .int .i64 5, .int .i64 0, .int .i64 0, .string ⟨#[]⟩, .bool false, .slice af 2 cf, .slice ac 0 cc, .slice aw 0 cw] 29)).setCell ⟨g, 13, none⟩ (.string ⟨#[110, 111, 110, 101]⟩) = w6 at *
  generalize w4.heap.size = x at *
  have HC4 : Hid (Calls Tryd.prog 15 #[.slice (some ⟨g, 0, none⟩) 2 2] w6 fun e w' => e = .returned (.tuple #[.int .i64 114, .int .i64 1]) ∧ Below w6.heap.size w6 w') := by
    have h := check11_any w6 (HT.out w6 HB6.out) (HO.out w6 HB6.out) _ _ (HP6.out.tsl (by decide)) (pr_shrt _)
    rw [pr_bad] at h
    exact h
  refine HC4.out.mono ?_
  rintro e w7 ⟨rfl, hb7⟩
  have HB7 : Hid (Below w.heap.size w w7) := HB6.out.trans (hb7.mono HB6.out.size)
  have x1 : w7.cell? ⟨x, 1, none⟩ = some (.int .i64 5) := blk_cell (j := 1) ((hb7.block _ (blk_lt HX6.out)).trans HX6.out) rfl
  obtain ⟨vt, B, hq1, hq2⟩ := (HTB6.out.next hb7).e
  have hwt : w.heap.size ≤ t := Nat.le_trans HB2.out.size HTG.out
  have HC5 : Hid (Calls Tryd.prog 10 #[.pointer (some ⟨t, 0, none⟩), .string ⟨#[112, 97, 105, 114]⟩] w7 fun e w' => e = .returned (.bool true) ∧ Hid (Below w.heap.size w w' ∧ Calls Tryd.prog 10 #[.pointer (some ⟨t, 0, none⟩), .string ⟨#[108, 111, 111, 112]⟩] w' fun e w'' => e = .returned (.bool false) ∧ Below w.heap.size w w'')) := by
    refine (tfilled_first w7 t vt B (prT lnm) (.map none) pnm (by decide) hq1 (fun wy hk => (hq2 wy (hk.mono (fun _ _ e => .inr e))).t) (fun wy hk => otb_kp HOT.out HB7.out hwt hk) (by decide)).mono ?_
    rintro e w8 ⟨M, k, rfl, hP⟩
    obtain ⟨h1, ⟨n, h2⟩, h3, h4, _⟩ := hP.out
    have hb8 : Below w.heap.size w w8 := HB7.out.trans (h4.below HB7.out.size (fun q e => by rw [e]; exact hwt))
    refine ⟨by rw [pr_pair h1], hb8, (tfilled_again w8 t vt B M n _ lnm (by decide) h3 h2).mono ?_⟩
    rintro e w9 ⟨rfl, hb9⟩
    exact ⟨by rw [pr_loop], hb8.trans (hb9.mono hb8.size)⟩
  clear HC4 HX6 HTB6 HP6 hb7 hq1 hq2 hwt HB6 HO HT HOT HN HTG HGL HB2 HB7
  go_wp2_with fail
  refine HC5.out.mono ?_
  rintro e w8 ⟨rfl, hP⟩
  clear HC5 x1
  go_wp2_with fail
  refine hP.out.2.mono ?_
  rintro e w9 ⟨rfl, hb9⟩
  have HB9 := hide hb9
  clear hb9 hP
  go_wp2_with (first
    | (go_at_call 9
       refine (HNU.out _ _).mono ?_
       rintro e wz ⟨rfl, rfl⟩))
  go_ret
  exact ⟨rfl, HB9.out⟩
end
section
open Go.RowKit Go
/-! ### SchemaEnds: its lists -/
def tyT (i : Nat) : Tp := ⟨tx i, 2, 0, 0, zrf, [], [], []⟩
def fdT (i : Nat) : Fd := ⟨tx i, tx i, ⟨⟨#[97, 110, 121]⟩, false⟩, false⟩
def rwT (i : Nat) : Fd := ⟨tx i, ⟨#[]⟩, ⟨⟨#[97, 110, 121]⟩, false⟩, false⟩
def csT (i : Nat) : Cz := ⟨tx i, ⟨#[97, 110, 121]⟩⟩
def lng : Nat → ByteArray
  | 0 => ⟨#[]⟩
  | n + 1 => ⟨(lng n).data ++ #[110]⟩
def endl (n : Nat) (s : ByteArray) : Nat → List Tp
  | 0 => (List.range n).map tyT
  | 1 => [⟨⟨#[115]⟩, 5, 0, 0, zrf, (List.range n).map fdT, [], []⟩]
  | 2 => [⟨⟨#[114]⟩, 6, 0, 0, zrf, (List.range n).map rwT, [], []⟩]
  | 3 => [⟨⟨#[107]⟩, 7, 0, 0, zrf, [], (List.range n).map csT, []⟩]
  | 4 => [⟨⟨#[101]⟩, 9, 0, 0, zrf, [], [], (List.range n).map tx⟩]
  | _ => [⟨s, 2, 0, 0, zrf, [], [], []⟩]
def ende : Nat → Nat
  | 0 => 110
  | 1 => 115
  | 2 => 115
  | 3 => 116
  | 4 => 116
  | _ => 111
theorem end0 : chk11 (endl 64 (lng 64) 0) = (0, 0) := by decide +kernel
theorem end1 : chk11 (endl 64 (lng 64) 1) = (0, 0) := by decide +kernel
theorem end2 : chk11 (endl 64 (lng 64) 2) = (0, 0) := by decide +kernel
theorem end3 : chk11 (endl 64 (lng 64) 3) = (0, 0) := by decide +kernel
theorem end4 : chk11 (endl 64 (lng 64) 4) = (0, 0) := by decide +kernel
theorem end5 : chk11 (endl 64 (lng 64) 5) = (0, 0) := by decide +kernel
theorem ene0 : chk11 (endl 65 (lng 65) 0) = (110, 0) := by decide +kernel
theorem ene1 : chk11 (endl 65 (lng 65) 1) = (115, 0) := by decide +kernel
theorem ene2 : chk11 (endl 65 (lng 65) 2) = (115, 0) := by decide +kernel
theorem ene3 : chk11 (endl 65 (lng 65) 3) = (116, 0) := by decide +kernel
theorem ene4 : chk11 (endl 65 (lng 65) 4) = (116, 0) := by decide +kernel
theorem ene5 : chk11 (endl 65 (lng 65) 5) = (111, 0) := by decide +kernel
theorem end_chk (n i : Nat) (hn : n = 64 ∨ n = 65) (hi : i < 6) : chk11 (endl n (lng n) i) = (if n = 65 then ende i else 0, 0) := by
  rcases hn with rfl | rfl
  · rcases i with _ | _ | _ | _ | _ | _ | i
    · exact end0
    · exact end1
    · exact end2
    · exact end3
    · exact end4
    · exact end5
    · omega
  · rcases i with _ | _ | _ | _ | _ | _ | i
    · exact ene0
    · exact ene1
    · exact ene2
    · exact ene3
    · exact ene4
    · exact ene5
    · omega
theorem lng_size : ∀ n, (lng n).size = n
  | 0 => rfl
  | n + 1 => by
    have h := lng_size n
    show ((lng n).data ++ #[110]).size = n + 1
    rw [Array.size_append]
    show (lng n).data.size + 1 = n + 1
    have h2 : (lng n).data.size = n := h
    rw [h2]
theorem tx_size (i : Nat) : (tx i).size = 3 := by
  have : (tx i).data.size = 3 := by
    unfold tx nstr
    rw [← Array.length_toList, strOfNums_data]
    rfl
  exact this
end
section
open Go.RowKit Go
/-! ### A region that draws its order, with a condition on the world that holds till a certain operation comes up -/
section
variable {P : Program} {ops : Array Oper} {Q : Exit → Act → World → Prop} {md : Region.Mode} {k : Nat} {B : World → Prop}
def wpAnyK (P : Program) (md : Region.Mode) (ops : Array Oper) (Q : Exit → Act → World → Prop) (k : Nat) (B : World → Prop) : Nat → Array Bool → Act → World → Prop
  | 0, listed, a, w => Region.ready md ops listed = [] ∧ Q .normal a w
  | fuel + 1, listed, a, w =>
    (Region.ready md ops listed = [] → Q .normal a w) ∧
    ∀ i ∈ Region.ready md ops listed, wpOp P ops Q i (fun a' w' => ((listed.setIfInBounds i true).getD k true = false → B w') ∧ wpAnyK P md ops Q k B fuel (listed.setIfInBounds i true) a' w') a w
theorem wpAny_of_heldK : ∀ (fuel : Nat) (listed : Array Bool) (a : Act) (w : World), wpAnyK P md ops Q k B fuel listed a w → wpAny P md ops Q fuel listed a w
  | 0, _, _, _, h => h
  | fuel + 1, _, _, _, h => ⟨h.1, fun i hi => wpOp_mono (fun a' w' h' => wpAny_of_heldK fuel _ a' w' h'.2) (h.2 i hi)⟩
/-- Each of D waits for i, itself or by another one of D. -/
def waitsB (md : Region.Mode) (ops : Array Oper) (i : Nat) (D : List Nat) : Bool := D.all fun d => match ops[d]? with
  | none => false
  | some od => od.after.any fun e => Region.binds md e && (e.on == i || D.contains e.on)
theorem waits_spec {i : Nat} {D : List Nat} (h : waitsB md ops i D = true) {d : Nat} (hd : d ∈ D) {od : Oper} (ho : ops[d]? = some od) : ∃ e ∈ od.after, Region.binds md e = true ∧ (e.on = i ∨ e.on ∈ D) := by
  have h1 := List.all_eq_true.1 h d hd
  rw [ho] at h1
  simp only [Array.any_eq_true] at h1
  obtain ⟨n, hn, h2⟩ := h1
  rw [Bool.and_eq_true, Bool.or_eq_true] at h2
  refine ⟨_, Array.getElem_mem hn, h2.1, ?_⟩
  rcases h2.2 with h3 | h3
  · exact .inl (by simpa using h3)
  · exact .inr (by simpa using h3)
theorem wpAnyK_first {i : Nat} {oi : Oper} {v : Value} {D : List Nat} {S : World → Prop} (hik : i ≠ k) (hi : ops[i]? = some oi) (hsel : ∀ (j : Nat) (o : Oper) cs b, ops[j]? = some o → o.op ≠ .select cs b)
    (hQ : ∀ c a w, Q (.panic c) (a.put oi.dst v) w → Q (.panic c) a w) (hD : waitsB md ops i D = true) (hS : (∀ w, S w) ∨ (k ∈ D ∧ ∀ w, B w → S w)) :
    ∀ (fuel : Nat) (listed : Array Bool) (a : Act) (w : World),
      (∀ j oj, ops[j]? = some oj → j ≠ i → listed.getD j true = false → (∀ e ∈ oj.after, Region.binds md e = true → e.on ≠ i) → oi.apart ops oj = true) →
      i ∈ Region.ready md ops listed → (∀ d ∈ D, listed.getD d true = false) → YieldsIf P ops S oi v a → S w → (listed.getD k true = false → B w) →
      wpAnyK P md ops Q k B fuel (listed.setIfInBounds i true) (a.put oi.dst v) w → wpAnyK P md ops Q k B (fuel + 1) listed a w := by
  intro fuel
  induction fuel with
  | zero =>
    intro listed a w _ hr hl hy hw hb H
    refine ⟨fun h => (by rw [h] at hr; cases hr), fun j hj => ?_⟩
    by_cases hji : j = i
    · subst hji; exact hy.wpOp hi hw ⟨fun hk => hb (by rw [getD_set_ne true hik] at hk; exact hk), H⟩
    · have := ready_mono hj hji
      rw [H.1] at this
      cases this
  | succ fuel ih =>
    intro listed a w hfree hr hl hy hw hb H
    refine ⟨fun h => (by rw [h] at hr; cases hr), fun j hj => ?_⟩
    by_cases hji : j = i
    · subst hji; exact hy.wpOp hi hw ⟨fun hk => hb (by rw [getD_set_ne true hik] at hk; exact hk), H⟩
    · have h1 := H.2 j (ready_mono hj hji)
      obtain ⟨hjun, oj, hoj, hall⟩ := mem_ready.1 hj
      have hnot : ∀ e ∈ oj.after, Region.binds md e = true → e.on ≠ i := fun e he hb heq => by
        have h1 := hall e he hb
        have h0 := (mem_ready.1 hr).1
        rw [heq] at h1
        rcases Nat.lt_or_ge i listed.size with h' | h'
        · simp [h'] at h0 h1; rw [h0] at h1; cases h1
        · simp [Array.getElem?_eq_none h'] at h1
      have hjD : j ∉ D := fun hm => by
        obtain ⟨e, he, hb2, h3⟩ := waits_spec hD hm hoj
        rcases h3 with h3 | h3
        · exact hnot e he hb2 h3
        · have h4 := hall e he hb2
          have h5 := hl e.on h3
          rcases Nat.lt_or_ge e.on listed.size with h' | h'
          · simp [h'] at h4 h5; rw [h5] at h4; cases h4
          · simp [Array.getElem?_eq_none h'] at h4
      have h2 := wpOp_putIf hoj (hfree j oj hoj hji hjun hnot) (fun cs b => hsel i oi cs b hi) (fun cs b => hsel j oj cs b hoj) hQ hy h1
      have hfree' : ∀ k ok, ops[k]? = some ok → k ≠ i → (listed.setIfInBounds j true).getD k true = false →
          (∀ e ∈ ok.after, Region.binds md e = true → e.on ≠ i) → oi.apart ops ok = true := fun k ok hk hki hun hno => by
        refine hfree k ok hk hki ?_ hno
        by_cases hjk : j = k
        · subst hjk; exact hjun
        · rw [getD_set_ne true hjk] at hun; exact hun
      have hl' : ∀ d ∈ D, (listed.setIfInBounds j true).getD d true = false := fun d hd => by
        rw [getD_set_ne true (fun e => hjD (by rw [e]; exact hd))]
        exact hl d hd
      have eC : (listed.setIfInBounds i true).setIfInBounds j true = (listed.setIfInBounds j true).setIfInBounds i true := (Array.setIfInBounds_comm _ _ (fun e => hji e.symm))
      refine wpOp_mono (fun a' w' h3 => ?_) h2
      obtain ⟨h4, h5, h6⟩ := h3
      rw [eC] at h5 h6
      have hb' : (listed.setIfInBounds j true).getD k true = false → B w' := fun hk => h5 (by rw [getD_set_ne true hik]; exact hk)
      refine ⟨hb', ih (listed.setIfInBounds j true) a' w' hfree' (ready_mono hr (Ne.symm hji)) hl' h4 ?_ hb' h6⟩
      rcases hS with hS | ⟨hk, hS⟩
      · exact hS w'
      · exact hS w' (hb' (hl' k hk))
end
section
variable {P : Program} {Q : Exit → Act → World → Prop} {k : Nat} {B : World → Prop} {l : List Oper} {fuel : Nat} {listed : Array Bool} {a : Act} {w : World}
/-- Begin: B holds till k comes up; n: how many operations there are. -/
theorem kStart {id : Nat} (k n : Nat) (B : World → Prop) (hn : l.length = n) (hm : P.follows .mixedOrders = true) (h : wpAnyK P .any l.toArray Q k B n (Array.replicate n false) a w.drew) : (Code.region id l.toArray true).wp P Q a w := by
  refine wp_region_any hm (wpAny_of_heldK _ _ _ _ (k := k) (B := B) ?_)
  have e : l.toArray.size = n := by simpa using hn
  rw [e]
  exact h
/-- Take first what yields in whatever world. -/
theorem kTake (i : Nat) {oi : Oper} (v : Value) (hik : i ≠ k) (hi : l[i]? = some oi) (hs : Region.noSelect l.toArray = true) (hf : Region.free .any l.toArray listed i = true) (hr : (Region.ready .any l.toArray listed).contains i = true)
    (hQ : ∀ c a w, Q (.panic c) (a.put oi.dst v) w → Q (.panic c) a w) (hw : Region.wanted oi (yielded l.toArray a.tmps) = true) (hy : ∀ w, (execOp a.eval oi).run P w = .ok (.value v) w) (hB : listed.getD k true = false → B w)
    (h : wpAnyK P .any l.toArray Q k B fuel (listed.setIfInBounds i true) (a.put oi.dst v) w) : wpAnyK P .any l.toArray Q k B (fuel + 1) listed a w :=
  wpAnyK_first (D := []) (S := fun _ => True) hik (by simpa using hi) (Region.noSelect_spec hs) hQ rfl (.inl fun _ => trivial) fuel listed a w (Region.free_spec (by simpa using hi) hf) (by simpa using hr) (fun _ h => by cases h) (.inl ⟨hw, fun w _ => hy w⟩) trivial hB h
/-- Take first what yields in every world that meets B: k waits for it by D. -/
theorem kLoad (i : Nat) (D : List Nat) {oi : Oper} (v : Value) (hik : i ≠ k) (hi : l[i]? = some oi) (hs : Region.noSelect l.toArray = true) (hf : Region.free .any l.toArray listed i = true) (hr : (Region.ready .any l.toArray listed).contains i = true) (hD : (waitsB .any l.toArray i D && D.contains k && D.all fun d => !listed.getD d true) = true)
    (hQ : ∀ c a w, Q (.panic c) (a.put oi.dst v) w → Q (.panic c) a w) (hw : Region.wanted oi (yielded l.toArray a.tmps) = true) (hB : B w) (hy : ∀ w, B w → (execOp a.eval oi).run P w = .ok (.value v) w)
    (h : wpAnyK P .any l.toArray Q k B fuel (listed.setIfInBounds i true) (a.put oi.dst v) w) : wpAnyK P .any l.toArray Q k B (fuel + 1) listed a w := by
  rw [Bool.and_eq_true, Bool.and_eq_true] at hD
  exact wpAnyK_first (D := D) (S := B) hik (by simpa using hi) (Region.noSelect_spec hs) hQ hD.1.1 (.inr ⟨by simpa using hD.1.2, fun _ h => h⟩) fuel listed a w (Region.free_spec (by simpa using hi) hf) (by simpa using hr) (fun d hd => by have := List.all_eq_true.1 hD.2 d hd; simpa using this) (.inl ⟨hw, hy⟩) hB (fun _ => hB) h
/-- The only one that may come up. -/
theorem kStep (i : Nat) {oi : Oper} (hi : l[i]? = some oi) (hr : Region.ready .any l.toArray listed = [i])
    (h : ∀ K : Act → World → Prop, Hid (∀ a w, ((listed.setIfInBounds i true).getD k true = false → B w) → wpAnyK P .any l.toArray Q k B fuel (listed.setIfInBounds i true) a w → K a w) → if Region.wanted oi (yielded l.toArray a.tmps) = true then Oper.wp P oi a w K Q else K (a.put oi.dst undef) w) : wpAnyK P .any l.toArray Q k B (fuel + 1) listed a w := by
  refine ⟨fun h0 => (by rw [hr] at h0; cases h0), fun j hj => ?_⟩
  rw [hr] at hj
  have e := List.mem_singleton.1 hj
  subst e
  exact wpOp_step (by simpa using hi) (fun K hK => h K (fun a w h1 h2 => hK a w ⟨h1, h2⟩))
theorem kDone (hr : Region.ready .any l.toArray listed = []) (h : Q .normal a w) : wpAnyK P .any l.toArray Q k B fuel listed a w := by
  cases fuel with
  | zero => exact ⟨hr, h⟩
  | succ n => exact ⟨fun _ => h, by rw [hr]; simp⟩
end
end
section
open Go.RowKit Go
/-! ### SchemaEnds: five rows that grow side by side -/
def s5 {α : Type} (a0 a1 a2 a3 a4 : α) : Nat → α
  | 0 => a0
  | 1 => a1
  | 2 => a2
  | 3 => a3
  | _ => a4
def eT : Nat → TypeId
  | 0 => 29
  | 1 => 46
  | 2 => 46
  | 3 => 48
  | _ => 9
def eZ : Nat → Nat
  | 0 => 9
  | 1 => 5
  | 2 => 5
  | 3 => 2
  | _ => 1
def eC : Nat → Nat → Array Value
  | 0, i => #[.string (tx i), .int .i64 2, .int .i64 0, .int .i64 0, .string ⟨#[]⟩, .bool false, .slice none 0 0, .slice none 0 0, .slice none 0 0]
  | 1, i => #[.string (tx i), .string (tx i), .string ⟨#[97, 110, 121]⟩, .bool false, .bool false]
  | 2, i => #[.string (tx i), .string ⟨#[]⟩, .string ⟨#[97, 110, 121]⟩, .bool false, .bool false]
  | 3, i => #[.string (tx i), .string ⟨#[97, 110, 121]⟩]
  | _, i => #[.string (tx i)]
def eB : Nat → Value → Array Value
  | 1, v => #[.string ⟨#[115]⟩, .int .i64 5, .int .i64 0, .int .i64 0, .string ⟨#[]⟩, .bool false, v, .slice none 0 0, .slice none 0 0]
  | 2, v => #[.string ⟨#[114]⟩, .int .i64 6, .int .i64 0, .int .i64 0, .string ⟨#[]⟩, .bool false, v, .slice none 0 0, .slice none 0 0]
  | 3, v => #[.string ⟨#[107]⟩, .int .i64 7, .int .i64 0, .int .i64 0, .string ⟨#[]⟩, .bool false, .slice none 0 0, v, .slice none 0 0]
  | _, v => #[.string ⟨#[101]⟩, .int .i64 9, .int .i64 0, .int .i64 0, .string ⟨#[]⟩, .bool false, .slice none 0 0, .slice none 0 0, v]
def eL (k n : Nat) : List (Array Value) := (List.range n).map (eC k)
theorem eL_len (k n : Nat) : (eL k n).length = n := by simp [eL]
theorem eL_succ (k n : Nat) : eL k (n + 1) = eL k n ++ [eC k n] := by simp [eL, List.range_succ]
theorem eC_size (k i : Nat) : (eC k i).size = eZ k := by
  rcases k with _ | _ | _ | _ | k <;> rfl
theorem eL_size (k n : Nat) : ∀ c ∈ eL k n, c.size = eZ k := fun c hc => by
  obtain ⟨i, _, rfl⟩ := List.mem_map.1 hc
  exact eC_size k i
theorem eC_one (k i : Nat) : ∀ u ∈ (eC k i).toList, u.oneCell' = true := by
  rcases k with _ | _ | _ | _ | k <;> simp [eC, Value.oneCell']
/-- What the loop has in hand. -/
structure Sew (w : World) (b : Nat) (n : Nat → Nat) (v : Nat → Value) (wx : World) : Prop where
  lo : w.heap.size ≤ b
  bl : Below w.heap.size w wx
  o : ∀ k, k < 5 → wx.ownsRow (b + 4) (eT k) (eZ k) (v k) (n k) (gfl (eL k (n k)))
  ap : ∀ k j q, k < 5 → j < 5 → k ≠ j → (v k).ownBlock = some q → (v j).ownBlock ≠ some q
  hb : ∀ k, 0 < k → k < 5 → wx.heap[b + k - 1]? = some (.cells (eB k (v k)) 29 (0, 0))
theorem Sew.next {w : World} {b : Nat} {n : Nat → Nat} {v : Nat → Value} {wx wy : World} (h : Sew w b n v wx) (hb : Below wx.heap.size wx wy) : Sew w b n v wy :=
  ⟨h.lo, h.bl.trans (hb.mono h.bl.size), fun k hk => (Kp.of_below (S := fun _ => False) hb).owns (h.o k hk) (fun _ _ e => e), h.ap, fun k h0 hk => (hb.block _ (blk_lt (h.hb k h0 hk))).trans (h.hb k h0 hk)⟩
theorem Sew.lt {w : World} {b : Nat} {n : Nat → Nat} {v : Nat → Value} {wx : World} (h : Sew w b n v wx) : b + 4 ≤ wx.heap.size := by
  have := blk_lt (h.hb 4 (by decide) (by decide))
  omega
theorem Sew.put {w : World} {b k : Nat} {n n' : Nat → Nat} {v v' : Nat → Value} {wx wz : World} (hk : k < 5) (h : Sew w b n v wx) (hkp : Kp (fun q => (v k).ownBlock = some q ∨ (0 < k ∧ q + 1 = b + k)) wx wz)
    (ho : wz.ownsRow (b + 4) (eT k) (eZ k) (v' k) (n k + 1) (gfl (eL k (n k + 1)))) (hl : (v' k).ownBlock = (v k).ownBlock ∨ ∃ q, (v' k).ownBlock = some q ∧ wx.heap.size ≤ q) (hbk : 0 < k → wz.heap[b + k - 1]? = some (.cells (eB k (v' k)) 29 (0, 0)))
    (hn : ∀ j, j < 5 → n' j = if j = k then n k + 1 else n j) (hv : ∀ j, j < 5 → j ≠ k → v' j = v j) : Sew w b n' v' wz := by
  have hlow : ∀ j q, j < 5 → (v j).ownBlock = some q → b + 4 ≤ q ∧ q < wx.heap.size := fun j q hj e => (h.o j hj).lt q e
  refine ⟨h.lo, h.bl.trans (hkp.below h.bl.size (fun q e => ?_)), fun j hj => ?_, fun i j q hi hj hij e1 e2 => ?_, fun j h0 hj => ?_⟩
  · have := h.lo
    rcases e with e | ⟨_, e⟩
    · have := (hlow k q hk e).1
      omega
    · omega
  · by_cases e : j = k
    · subst e
      rw [hn j hj, if_pos rfl]
      exact ho
    · rw [hn j hj, if_neg e, hv j hj e]
      refine hkp.owns (h.o j hj) (fun q e1 e2 => ?_)
      rcases e2 with e2 | ⟨_, e2⟩
      · exact h.ap k j q hk hj (fun e3 => e e3.symm) e2 e1
      · have := (hlow j q hj e1).1
        omega
  · have far : ∀ x y, x < 5 → y < 5 → x ≠ y → ∀ q, (v' x).ownBlock = some q → (v' y).ownBlock = some q → x = k → False := fun x y hx hy hxy q e1 e2 hxk => by
      subst hxk
      rw [hv y hy (fun e => hxy e.symm)] at e2
      rcases hl with hl | ⟨q', hl, hq⟩
      · rw [hl] at e1
        exact h.ap x y q hx hy hxy e1 e2
      · rw [hl] at e1
        have e3 := Option.some.inj e1
        have := (hlow y q hy e2).2
        omega
    by_cases ei : i = k
    · exact far i j hi hj hij q e1 e2 ei
    by_cases ej : j = k
    · exact far j i hj hi (fun e => hij e.symm) q e2 e1 ej
    rw [hv i hi ei] at e1
    rw [hv j hj ej] at e2
    exact h.ap i j q hi hj hij e1 e2
  · by_cases e : j = k
    · subst e
      exact hbk h0
    · rw [hv j hj e]
      refine (hkp.block _ (blk_lt (h.hb j h0 hj)) (fun e2 => ?_)).trans (h.hb j h0 hj)
      rcases e2 with e2 | ⟨_, e2⟩
      · have := (hlow k _ hk e2).1
        omega
      · omega
theorem infoE (k : Nat) : ∃ z by', (Tryd.prog.info? (eT k)).map (fun i => (i.zero, i.size, i.bytes)) = some (some z, eZ k, by') ∧ z.cells.size = eZ k ∧ 0 < eZ k ∧ by' ≤ 1000 := by
  rcases k with _ | _ | _ | _ | k
  · exact ⟨_, _, infoTp3, rfl, by decide, by decide⟩
  · exact ⟨_, _, infoF3, rfl, by decide, by decide⟩
  · exact ⟨_, _, infoF3, rfl, by decide, by decide⟩
  · exact ⟨_, _, infoC3, rfl, by decide, by decide⟩
  · exact ⟨_, _, infoS3, rfl, (by decide : 0 < 1), by decide⟩
/-- append of the next one, as the run of the operation. -/
theorem Sew.run {w0 : World} {b k g : Nat} {n : Nat → Nat} {v : Nat → Value} {w : World} {S ty : TypeId} (h : Sew w0 b n v w) (hk : k < 5) (hS : Tryd.prog.underlying S = some (.slice (eT k))) (hg : w.heap[g]? = some (.cells (eC k (n k)) (eT k) (0, 0))) (hlen : n k ≤ 1000000) :
    ∃ v' w', (Builtin.append_ #[S, S] ty #[v k, .slice (some ⟨g, 0, none⟩) 1 1]).run Tryd.prog w = .ok v' w' ∧ w'.ownsRow (b + 4) (eT k) (eZ k) v' (n k + 1) (gfl (eL k (n k + 1))) ∧ w.grownBy w' (v k).ownBlock ∧ (v'.ownBlock = (v k).ownBlock ∨ v'.ownBlock = some w.heap.size) := by
  obtain ⟨z, by', hI, hzs, hz0, hby⟩ := infoE k
  obtain ⟨i, hi, hz1, hz2, hz3⟩ := info_ex hI
  have hb : (n k + 1) * by' ≤ 140737488355328 := by
    have : (n k + 1) * by' ≤ 1000001 * 1000 := Nat.mul_le_mul (by omega) hby
    omega
  obtain ⟨v', w', hr, h2, h3, _, h5⟩ := run_append_own_at (P := Tryd.prog) w (b + 4) S ty (eT k) i z (eZ k) by' hS hi hz1 hz2 hz3 hzs hz0 (v k) (n k) (gfl (eL k (n k))) (h.o k hk) ⟨g, 0, none⟩ 1 1 (eC k (n k)).toList (by simp [eC_size]) (fun j u hu => by
    rw [addr0]
    exact blk_cell hg (by simpa using hu)) (eC_one k (n k)) (by unfold maxLen; omega) hb (by have := h.lt; omega)
  refine ⟨v', w', hr, ?_, h3, h5⟩
  rw [eL_succ, gfl_app]
  simpa [gfl] using h2
/-- The same, of the operation. -/
theorem Sew.wp {w0 : World} {b k g : Nat} {n : Nat → Nat} {v : Nat → Value} {w : World} {S : TypeId} {o : Oper} {a : Act} {K : Act → World → Prop} {Q : Exit → Act → World → Prop} {s x : Operand} (h : Sew w0 b n v w) (hk : k < 5) (hS : Tryd.prog.underlying S = some (.slice (eT k))) (hg : w.heap[g]? = some (.cells (eC k (n k)) (eT k) (0, 0))) (hlen : n k ≤ 1000000)
    (ho : o.op = .call { callee := .builtin .append, args := #[s, x], argTypes := #[S, S] }) (hs : a.eval s = v k) (hx : a.eval x = .slice (some ⟨g, 0, none⟩) 1 1)
    (hK : ∀ v' w', w'.ownsRow (b + 4) (eT k) (eZ k) v' (n k + 1) (gfl (eL k (n k + 1))) → w.grownBy w' (v k).ownBlock → (v'.ownBlock = (v k).ownBlock ∨ v'.ownBlock = some w.heap.size) → K (a.put o.dst v') w') : Oper.wp Tryd.prog o a w K Q := by
  obtain ⟨v', w', hr, h2, h3, h5⟩ := h.run hk hS (ty := o.type) hg hlen
  unfold Oper.wp execOp
  simp only [ho, resolve, invoke, builtin, Sem.run_bind, Sem.run_pure, Result.andThen_ok, List.map_toArray, List.map_cons, List.map_nil, hs, hx, hr]
  exact hK v' w' h2 h3 h5
/-- The first row, one more. -/
theorem Sew.app0 {w0 : World} {b : Nat} {n n' : Nat → Nat} {v v' : Nat → Value} {w w' : World} (h : Sew w0 b n v w) (ho : w'.ownsRow (b + 4) (eT 0) (eZ 0) (v' 0) (n 0 + 1) (gfl (eL 0 (n 0 + 1)))) (hg : w.grownBy w' (v 0).ownBlock) (hl : (v' 0).ownBlock = (v 0).ownBlock ∨ (v' 0).ownBlock = some w.heap.size)
    (hn : ∀ j, j < 5 → n' j = if j = 0 then n 0 + 1 else n j) (hv : ∀ j, j < 5 → j ≠ 0 → v' j = v j) : Sew w0 b n' v' w' :=
  h.put (k := 0) (by decide) ((kp_grown hg).mono (fun q _ e => .inl e)) ho (hl.imp id (fun e => ⟨_, e, Nat.le_refl _⟩)) (fun h => absurd h (by decide)) hn hv
def eI : Nat → Nat
  | 1 => 6
  | 2 => 6
  | 3 => 7
  | _ => 8
theorem eB_set (k : Nat) (u u' : Value) : (eB k u).setIfInBounds (eI k) u' = eB k u' := by
  rcases k with _ | _ | _ | _ | k <;> rfl
/-- Another row, one more: the block that holds it is to be written. -/
theorem Sew.keeps {w0 : World} {b k : Nat} {n : Nat → Nat} {v : Nat → Value} {w w' : World} (h : Sew w0 b n v w) (h0 : 0 < k) (hk : k < 5) (hg : w.grownBy w' (v k).ownBlock) : w'.heap[b + k - 1]? = some (.cells (eB k (v k)) 29 (0, 0)) := by
  refine ((kp_grown hg).block _ (blk_lt (h.hb k h0 hk)) (fun e => ?_)).trans (h.hb k h0 hk)
  have := ((h.o k hk).lt _ e).1
  omega
theorem Sew.app {w0 : World} {b k : Nat} {n n' : Nat → Nat} {v v' : Nat → Value} {w w' : World} (h : Sew w0 b n v w) (h0 : 0 < k) (hk : k < 5) (ho : w'.ownsRow (b + 4) (eT k) (eZ k) (v' k) (n k + 1) (gfl (eL k (n k + 1)))) (hg : w.grownBy w' (v k).ownBlock) (hl : (v' k).ownBlock = (v k).ownBlock ∨ (v' k).ownBlock = some w.heap.size)
    (hn : ∀ j, j < 5 → n' j = if j = k then n k + 1 else n j) (hv : ∀ j, j < 5 → j ≠ k → v' j = v j) : Sew w0 b n' v' (w'.setCell ⟨b + k - 1, eI k, none⟩ (v' k)) := by
  have hs : Kp (fun q => q + 1 = b + k) w' (w'.setCell ⟨b + k - 1, eI k, none⟩ (v' k)) := (Kp.refl _ w').setCell _ _ (fun _ => by show b + k - 1 + 1 = b + k; omega)
  refine h.put hk ?_ (hs.owns ho (fun q e e2 => ?_)) (hl.imp id (fun e => ⟨_, e, Nat.le_refl _⟩)) (fun _ => ?_) hn hv
  · exact Kp.trans ((kp_grown hg).mono (fun q _ e => .inl e)) hs (fun q _ e => .inr ⟨h0, e⟩)
  · have := (ho.lt q e).1
    omega
  · rw [blk_set (eI k) (v' k) (h.keeps h0 hk hg), eB_set]
end
section
open Go.RowKit Go
theorem eL_get {k n i : Nat} {c : Array Value} (h : (eL k n)[i]? = some c) : c = eC k i ∧ i < n := by
  unfold eL at h
  rw [List.getElem?_map] at h
  by_cases hi : i < n
  · rw [List.getElem?_range hi] at h
    exact ⟨(Option.some.inj h).symm, hi⟩
  · rw [List.getElem?_eq_none (by simpa using hi)] at h
    cases h
theorem rg_get {α : Type} {f : Nat → α} {n i : Nat} {x : α} (h : ((List.range n).map f)[i]? = some x) : x = f i ∧ i < n := by
  rw [List.getElem?_map] at h
  by_cases hi : i < n
  · rw [List.getElem?_range hi] at h
    exact ⟨(Option.some.inj h).symm, hi⟩
  · rw [List.getElem?_eq_none (by simpa using hi)] at h
    cases h
theorem txb (i : Nat) : (tx i).size ≤ 140737488351232 := by rw [tx_size]; decide
theorem zrfb : zrf.n.size ≤ 140737488351232 := by decide
theorem tpb2 (s : ByteArray) (hs : s.size ≤ 140737488351232) (k : Int) (hk : -9223372036854775808 ≤ k ∧ k ≤ 9223372036854775807) (fs : List Fd) (cs : List Cz) (ws : List ByteArray) : Tpb ⟨s, k, 0, 0, zrf, fs, cs, ws⟩ :=
  ⟨hs, zrfb, hk, (by decide : -9223372036854775808 ≤ (0 : Int) ∧ (0 : Int) ≤ 9223372036854775807), (by decide : -9223372036854775808 ≤ (0 : Int) ∧ (0 : Int) ≤ 9223372036854775807)⟩
theorem row_gsl {α : Type} {P : World → α → Array Value → Prop} {w0 wx : World} {b N k : Nat} {n : Nat → Nat} {v : Nat → Value} (h : Sew w0 b n v wx) (hk : k < 5) (hn : n k = N) (hN : N ≤ 1000) (f : Nat → α) (hP : ∀ i, P wx (f i) (eC k i)) : GSl (eZ k) P wx (v k) ((List.range N).map f) := by
  have ho := h.o k hk
  rw [hn] at ho
  have ho2 : wx.ownsRow (b + 4) (eT k) (eZ k) (v k) (eL k N).length (gfl (eL k N)) := by rw [eL_len]; exact ho
  refine own_gsl ho2 (eL_size k N) (by rw [eL_len]; simp) (by simp; omega) (fun i x c hx hc => ?_)
  rw [(rg_get hx).1, (eL_get hc).1]
  exact hP i
theorem Sew.t0 {w0 wx : World} {b N : Nat} {n : Nat → Nat} {v : Nat → Value} (h : Sew w0 b n v wx) (hn : n 0 = N) (hN : N ≤ 1000) : TSl wx (v 0) ((List.range N).map tyT) :=
  row_gsl h (k := 0) (by decide) hn hN tyT (fun i => ⟨⟨_, _, _, rfl, GSl.nil, GSl.nil, ssl_nil wx⟩, tpb2 _ (txb i) 2 (by decide) _ _ _⟩)
theorem Sew.t1 {w0 wx : World} {b N : Nat} {n : Nat → Nat} {v : Nat → Value} (h : Sew w0 b n v wx) (hn : n 1 = N) (hN : N ≤ 1000) : Tpi wx ⟨⟨#[115]⟩, 5, 0, 0, zrf, (List.range N).map fdT, [], []⟩ (eB 1 (v 1)) :=
  ⟨⟨_, _, _, rfl, row_gsl h (k := 1) (P := Fdi) (by decide) hn hN fdT (fun i => ⟨rfl, txb i, txb i, (by decide : (⟨#[97, 110, 121]⟩ : ByteArray).size ≤ 140737488351232)⟩), GSl.nil, ssl_nil wx⟩, tpb2 _ (by decide) 5 (by decide) _ _ _⟩
theorem Sew.t2 {w0 wx : World} {b N : Nat} {n : Nat → Nat} {v : Nat → Value} (h : Sew w0 b n v wx) (hn : n 2 = N) (hN : N ≤ 1000) : Tpi wx ⟨⟨#[114]⟩, 6, 0, 0, zrf, (List.range N).map rwT, [], []⟩ (eB 2 (v 2)) :=
  ⟨⟨_, _, _, rfl, row_gsl h (k := 2) (P := Fdi) (by decide) hn hN rwT (fun i => ⟨rfl, txb i, (by decide : (⟨#[]⟩ : ByteArray).size ≤ 140737488351232), (by decide : (⟨#[97, 110, 121]⟩ : ByteArray).size ≤ 140737488351232)⟩), GSl.nil, ssl_nil wx⟩, tpb2 _ (by decide) 6 (by decide) _ _ _⟩
theorem Sew.t3 {w0 wx : World} {b N : Nat} {n : Nat → Nat} {v : Nat → Value} (h : Sew w0 b n v wx) (hn : n 3 = N) (hN : N ≤ 1000) : Tpi wx ⟨⟨#[107]⟩, 7, 0, 0, zrf, [], (List.range N).map csT, []⟩ (eB 3 (v 3)) :=
  ⟨⟨_, _, _, rfl, GSl.nil, row_gsl h (k := 3) (P := Czi) (by decide) hn hN csT (fun i => ⟨rfl, txb i, (by decide : (⟨#[97, 110, 121]⟩ : ByteArray).size ≤ 140737488351232)⟩), ssl_nil wx⟩, tpb2 _ (by decide) 7 (by decide) _ _ _⟩
theorem ssl_gsl {w : World} {v : Value} {ks : List ByteArray} (h : GSl 1 (fun _ (s : ByteArray) c => c = #[.string s]) w v ks) (hs : ∀ s ∈ ks, s.size ≤ 140737488351232) : SSl w v ks := by
  obtain ⟨⟨a, cap, e, hn, hc⟩, hm⟩ := h
  refine ⟨⟨a, cap, e, hn, ?_⟩, hm, hs⟩
  rcases hc with hc | ⟨b, off, ha, hc⟩
  · exact .inl hc
  · refine .inr ⟨b, off, ha, fun j s hj => ?_⟩
    obtain ⟨c, rfl, h3⟩ := hc j s hj
    have := h3 0 _ rfl
    rw [Nat.mul_one, Nat.add_zero] at this
    exact this
theorem Sew.t4 {w0 wx : World} {b N : Nat} {n : Nat → Nat} {v : Nat → Value} (h : Sew w0 b n v wx) (hn : n 4 = N) (hN : N ≤ 1000) : Tpi wx ⟨⟨#[101]⟩, 9, 0, 0, zrf, [], [], (List.range N).map tx⟩ (eB 4 (v 4)) :=
  ⟨⟨_, _, _, rfl, GSl.nil, GSl.nil, ssl_gsl (row_gsl h (k := 4) (by decide) hn hN tx (fun i => rfl)) (fun s hs => by
    obtain ⟨i, _, rfl⟩ := List.mem_map.1 hs
    exact txb i)⟩, tpb2 _ (by decide) 9 (by decide) _ _ _⟩
theorem tsl_one {w : World} {g : Nat} {t : Tp} {c : Array Value} (hg : w.heap[g]? = some (.cells c 29 (0, 0))) (ht : Tpi w t c) : TSl w (.slice (some ⟨g, 0, none⟩) 1 1) [t] := by
  refine ⟨⟨some ⟨g, 0, none⟩, 1, rfl, ⟨Nat.le_refl _, fun e => by cases e⟩, .inr ⟨g, 0, rfl, fun i x hi => ?_⟩⟩, by simp⟩
  rcases i with _ | i
  · have e : t = x := Option.some.inj hi
    subst e
    refine ⟨c, ht, fun j u hj => ?_⟩
    rw [show 0 + 0 * 9 + j = j by omega]
    exact blk_cell hg hj
  · simp at hi
/-- The six lists, and what is wanted. -/
structure Sev (N R E : Nat) (vs : Nat → Value) (wx : World) : Prop where
  r : wx.heap[R]? = some (.cells #[vs 0, vs 1, vs 2, vs 3, vs 4, vs 5] 22 (0, 0))
  e : wx.heap[E]? = some (.cells #[.int .i64 110, .int .i64 115, .int .i64 115, .int .i64 116, .int .i64 116, .int .i64 111] 3 (0, 0))
  t : ∀ i, i < 6 → TSl wx (vs i) (endl N (lng N) i)
theorem Sev.next {N R E : Nat} {vs : Nat → Value} {wx wy : World} (h : Sev N R E vs wx) (hb : Below wx.heap.size wx wy) : Sev N R E vs wy :=
  ⟨(hb.block _ (blk_lt h.r)).trans h.r, (hb.block _ (blk_lt h.e)).trans h.e, fun i hi => (h.t i hi).mv (keep_below hb)⟩
theorem Sev.cell {N R E : Nat} {vs : Nat → Value} {wx : World} (h : Sev N R E vs wx) {i : Nat} (hi : i < 6) : wx.cell? ⟨R, i, none⟩ = some (vs i) ∧ wx.cell? ⟨E, i, none⟩ = some (.int .i64 (ende i : Nat)) := by
  rcases i with _ | _ | _ | _ | _ | _ | i
  · exact ⟨blk_cell h.r rfl, blk_cell h.e rfl⟩
  · exact ⟨blk_cell h.r rfl, blk_cell h.e rfl⟩
  · exact ⟨blk_cell h.r rfl, blk_cell h.e rfl⟩
  · exact ⟨blk_cell h.r rfl, blk_cell h.e rfl⟩
  · exact ⟨blk_cell h.r rfl, blk_cell h.e rfl⟩
  · exact ⟨blk_cell h.r rfl, blk_cell h.e rfl⟩
  · omega
theorem end_shrt (N i : Nat) (hN : N ≤ 1000) (s : ByteArray) (hi : i < 6) : Shrt (endl N s i) := by
  intro t ht
  rcases i with _ | _ | _ | _ | _ | _ | i
  · obtain ⟨j, _, rfl⟩ := List.mem_map.1 ht
    simp [tyT]
  · rw [List.mem_singleton.1 ht]; simp; omega
  · rw [List.mem_singleton.1 ht]; simp; omega
  · rw [List.mem_singleton.1 ht]; simp; omega
  · rw [List.mem_singleton.1 ht]; simp; omega
  · rw [List.mem_singleton.1 ht]; simp
  · omega
end
section
open Go.RowKit Go
theorem lng_succ (n : Nat) : lng n ++ ⟨#[110]⟩ = lng (n + 1) := by
  apply ByteArray.ext
  rw [ByteArray.data_append]
  rfl
theorem Sew.step {w0 : World} {b k g : Nat} {n : Nat → Nat} {v : Nat → Value} {w : World} {S : TypeId} {ops : Array Oper} {o : Oper} {a : Act} {K : Act → World → Prop} {Q : Exit → Act → World → Prop} {s x : Operand} (h : Sew w0 b n v w) (hk : k < 5) (hS : Tryd.prog.underlying S = some (.slice (eT k))) (hg : w.heap[g]? = some (.cells (eC k (n k)) (eT k) (0, 0))) (hlen : n k ≤ 1000000) (hw : Region.wanted o (yielded ops a.tmps) = true)
    (ho : o.op = .call { callee := .builtin .append, args := #[s, x], argTypes := #[S, S] }) (hs : a.eval s = v k) (hx : a.eval x = .slice (some ⟨g, 0, none⟩) 1 1)
    (hK : ∀ v' w', w'.ownsRow (b + 4) (eT k) (eZ k) v' (n k + 1) (gfl (eL k (n k + 1))) → w.grownBy w' (v k).ownBlock → (v'.ownBlock = (v k).ownBlock ∨ v'.ownBlock = some w.heap.size) → K (a.put o.dst v') w') : if Region.wanted o (yielded ops a.tmps) = true then Oper.wp Tryd.prog o a w K Q else K (a.put o.dst undef) w := by
  rw [if_pos hw]
  exact h.wp hk hS hg hlen ho hs hx hK
def eB0 (k : Nat) : Obj := .cells (eB k (.slice none 0 0)) 29
theorem Sew.start {w wo : World} (hb : Below w.heap.size w wo) : Sew w wo.heap.size (s5 0 0 0 0 0) (s5 (.slice none 0 0) (.slice none 0 0) (.slice none 0 0) (.slice none 0 0) (.slice none 0 0)) ((((wo.alloc (eB0 1)).alloc (eB0 2)).alloc (eB0 3)).alloc (eB0 4)) := by
  have e1 : (wo.alloc (eB0 1)).heap.size = wo.heap.size + 1 := by simp
  have e2 : ((wo.alloc (eB0 1)).alloc (eB0 2)).heap.size = wo.heap.size + 2 := by rw [show wo.heap.size + 2 = wo.heap.size + 1 + 1 from rfl, ← e1]; simp
  have e3 : (((wo.alloc (eB0 1)).alloc (eB0 2)).alloc (eB0 3)).heap.size = wo.heap.size + 3 := by rw [show wo.heap.size + 3 = wo.heap.size + 2 + 1 from rfl, ← e2]; simp
  have h1 := heap_alloc_new wo (eB0 1)
  have h2 := heap_alloc_new (wo.alloc (eB0 1)) (eB0 2)
  have h3 := heap_alloc_new ((wo.alloc (eB0 1)).alloc (eB0 2)) (eB0 3)
  have h4 := heap_alloc_new (((wo.alloc (eB0 1)).alloc (eB0 2)).alloc (eB0 3)) (eB0 4)
  rw [e1] at h2
  rw [e2] at h3
  rw [e3] at h4
  refine ⟨hb.size, hb.trans ((((below_alloc4 wo _).alloc (by omega) _).alloc (by omega) _).alloc (by omega) _ |>.mono hb.size), fun k hk => ?_, fun k j q hk hj hkj e => ?_, fun k h0 hk => ?_⟩
  · rcases k with _ | _ | _ | _ | _ | k
    · exact World.ownsRow_nil _ _ _ _
    · exact World.ownsRow_nil _ _ _ _
    · exact World.ownsRow_nil _ _ _ _
    · exact World.ownsRow_nil _ _ _ _
    · exact World.ownsRow_nil _ _ _ _
    · omega
  · rcases k with _ | _ | _ | _ | _ | k
    · cases e
    · cases e
    · cases e
    · cases e
    · cases e
    · omega
  · rcases k with _ | _ | _ | _ | _ | k
    · omega
    · exact blk_alloc _ (blk_alloc _ (blk_alloc _ h1))
    · exact blk_alloc _ (blk_alloc _ h2)
    · exact blk_alloc _ h3
    · exact h4
    · omega
def s6 {α : Type} (a0 a1 a2 a3 a4 a5 : α) : Nat → α
  | 0 => a0
  | 1 => a1
  | 2 => a2
  | 3 => a3
  | 4 => a4
  | _ => a5
theorem below7 (W : World) (o1 o2 o3 o4 o5 o6 o7 : Obj) : Below W.heap.size W (((((((W.alloc o1).alloc o2).alloc o3).alloc o4).alloc o5).alloc o6).alloc o7) :=
  have a : ∀ (V : World) (o : Obj), Below W.heap.size W V → Below W.heap.size W (V.alloc o) := fun _ o h => h.alloc h.size o
  a _ o7 (a _ o6 (a _ o5 (a _ o4 (a _ o3 (a _ o2 (below_alloc4 W o1))))))
theorem at7 (W : World) (o1 o2 o3 o4 o5 o6 o7 : Obj) (X : World) (hX : X = ((((((W.alloc o1).alloc o2).alloc o3).alloc o4).alloc o5).alloc o6).alloc o7) : X.heap[W.heap.size]? = some o1 ∧ X.heap[W.heap.size + 1]? = some o2 ∧ X.heap[W.heap.size + 1 + 1]? = some o3 ∧ X.heap[W.heap.size + 1 + 1 + 1]? = some o4 ∧ X.heap[W.heap.size + 1 + 1 + 1 + 1]? = some o5 ∧ X.heap[W.heap.size + 1 + 1 + 1 + 1 + 1]? = some o6 ∧ X.heap[W.heap.size + 1 + 1 + 1 + 1 + 1 + 1]? = some o7 := by
  subst hX
  have z : ∀ (V : World) (o : Obj), (V.alloc o).heap.size = V.heap.size + 1 := fun V o => by simp
  have h1 := heap_alloc_new W o1
  have h2 := heap_alloc_new (W.alloc o1) o2
  have h3 := heap_alloc_new ((W.alloc o1).alloc o2) o3
  have h4 := heap_alloc_new (((W.alloc o1).alloc o2).alloc o3) o4
  have h5 := heap_alloc_new ((((W.alloc o1).alloc o2).alloc o3).alloc o4) o5
  have h6 := heap_alloc_new (((((W.alloc o1).alloc o2).alloc o3).alloc o4).alloc o5) o6
  have h7 := heap_alloc_new ((((((W.alloc o1).alloc o2).alloc o3).alloc o4).alloc o5).alloc o6) o7
  simp only [z] at h2 h3 h4 h5 h6 h7
  exact ⟨blk_alloc _ (blk_alloc _ (blk_alloc _ (blk_alloc _ (blk_alloc _ (blk_alloc _ h1))))), blk_alloc _ (blk_alloc _ (blk_alloc _ (blk_alloc _ (blk_alloc _ h2)))), blk_alloc _ (blk_alloc _ (blk_alloc _ (blk_alloc _ h3))), blk_alloc _ (blk_alloc _ (blk_alloc _ h4)), blk_alloc _ (blk_alloc _ h5), blk_alloc _ h6, h7⟩
theorem Sev.start {w W : World} {b N : Nat} {x0 x1 x2 x3 x4 : Value} (h : Sew w b (s5 N N N N N) (s5 x0 x1 x2 x3 x4) W) (hN : N ≤ 1000) : Sev N (W.heap.size + 1 + 1 + 1 + 1 + 1) (W.heap.size + 1 + 1 + 1 + 1 + 1 + 1) (s6 x0 (.slice (some ⟨W.heap.size, 0, none⟩) 1 1) (.slice (some ⟨W.heap.size + 1, 0, none⟩) 1 1) (.slice (some ⟨W.heap.size + 1 + 1, 0, none⟩) 1 1) (.slice (some ⟨W.heap.size + 1 + 1 + 1, 0, none⟩) 1 1) (.slice (some ⟨W.heap.size + 1 + 1 + 1 + 1, 0, none⟩) 1 1))
    (((((((W.alloc (.cells (eB 1 x1) 29)).alloc (.cells (eB 2 x2) 29)).alloc (.cells (eB 3 x3) 29)).alloc (.cells (eB 4 x4) 29)).alloc (.cells #[.string (lng N), .int .i64 2, .int .i64 0, .int .i64 0, .string ⟨#[]⟩, .bool false, .slice none 0 0, .slice none 0 0, .slice none 0 0] 29)).alloc (.cells #[x0, .slice (some ⟨W.heap.size, 0, none⟩) 1 1, .slice (some ⟨W.heap.size + 1, 0, none⟩) 1 1, .slice (some ⟨W.heap.size + 1 + 1, 0, none⟩) 1 1, .slice (some ⟨W.heap.size + 1 + 1 + 1, 0, none⟩) 1 1, .slice (some ⟨W.heap.size + 1 + 1 + 1 + 1, 0, none⟩) 1 1] 22)).alloc (.cells #[.int .i64 110, .int .i64 115, .int .i64 115, .int .i64 116, .int .i64 116, .int .i64 111] 3)) := by
  generalize hX : ((((((W.alloc (.cells (eB 1 x1) 29)).alloc (.cells (eB 2 x2) 29)).alloc (.cells (eB 3 x3) 29)).alloc (.cells (eB 4 x4) 29)).alloc (.cells #[.string (lng N), .int .i64 2, .int .i64 0, .int .i64 0, .string ⟨#[]⟩, .bool false, .slice none 0 0, .slice none 0 0, .slice none 0 0] 29)).alloc (.cells #[x0, .slice (some ⟨W.heap.size, 0, none⟩) 1 1, .slice (some ⟨W.heap.size + 1, 0, none⟩) 1 1, .slice (some ⟨W.heap.size + 1 + 1, 0, none⟩) 1 1, .slice (some ⟨W.heap.size + 1 + 1 + 1, 0, none⟩) 1 1, .slice (some ⟨W.heap.size + 1 + 1 + 1 + 1, 0, none⟩) 1 1] 22)).alloc (.cells #[.int .i64 110, .int .i64 115, .int .i64 115, .int .i64 116, .int .i64 116, .int .i64 111] 3) = X
  have hb : Below W.heap.size W X := by rw [← hX]; exact below7 W _ _ _ _ _ _ _
  obtain ⟨h1, h2, h3, h4, h5, h6, h7⟩ := at7 W _ _ _ _ _ _ _ X hX.symm
  have hX2 := h.next hb
  refine ⟨h6, h7, fun i hi => ?_⟩
  rcases i with _ | _ | _ | _ | _ | _ | i
  · exact hX2.t0 rfl hN
  · exact tsl_one h1 (hX2.t1 rfl hN)
  · exact tsl_one h2 (hX2.t2 rfl hN)
  · exact tsl_one h3 (hX2.t3 rfl hN)
  · exact tsl_one h4 (hX2.t4 rfl hN)
  · exact tsl_one h5 ⟨⟨_, _, _, rfl, GSl.nil, GSl.nil, ssl_nil X⟩, tpb2 _ (by rw [lng_size]; omega) 2 (by decide) _ _ _⟩
  · omega
theorem Sew.law0 {w W2 : World} {b i : Nat} {tn : ByteArray} (htn : tx i = tn) {a0 a1 a2 a3 a4 : Option Addr} {c0 c1 c2 c3 c4 : Nat} (hsw0 : Sew w b (s5 i i i i i) (s5 (.slice a0 i c0) (.slice a1 i c1) (.slice a2 i c2) (.slice a3 i c3) (.slice a4 i c4)) W2) (hi6 : i ≤ 1000000) {ops : Array Oper} {rest : List Oper} {o : Oper} {ac : Act} {Q : Exit → Act → World → Prop} {s y : Operand} (h1 : Region.wanted o (yielded ops ac.tmps) = true) (h2 : o.op = .call { callee := .builtin .append, args := #[s, y], argTypes := #[22, 22] }) (h3 : ac.eval s = .slice a0 i c0) (h4 : ac.eval y = .slice (some ⟨W2.heap.size, 0, none⟩) 1 1) (h5 : ∀ a9 c9 w', Hid (Sew w b (s5 (i + 1) i i i i) (s5 (.slice a9 (i + 1) c9) (.slice a1 i c1) (.slice a2 i c2) (.slice a3 i c3) (.slice a4 i c4)) w') → wpList Tryd.prog ops Q rest (ac.put o.dst (.slice a9 (i + 1) c9)) w') : wpList Tryd.prog ops Q (o :: rest) ac (W2.alloc (.cells #[.string tn, .int .i64 2, .int .i64 0, .int .i64 0, .string ⟨#[]⟩, .bool false, .slice none 0 0, .slice none 0 0, .slice none 0 0] 29)) := by
  subst htn
  have hsw := hsw0.next (below_alloc4 W2 (.cells (eC 0 i) (eT 0)))
  have hgq := heap_alloc_new W2 (.cells (eC 0 i) (eT 0))
  refine wpList_wanted h1 fun K hK => ?_
  refine Sew.wp hsw (k := 0) (by decide) Tryd.underlying22 hgq hi6 h2 h3 h4 (fun v2 W3 ho hgr hl => ?_)
  obtain ⟨a9, c9, hv9, _⟩ := own_formG ho
  replace hv9 : v2 = .slice a9 (i + 1) c9 := hv9
  subst hv9
  exact hK _ _ (h5 a9 c9 W3 (hsw.app0 (v' := s5 (.slice a9 (i + 1) c9) (.slice a1 i c1) (.slice a2 i c2) (.slice a3 i c3) (.slice a4 i c4)) ho hgr hl (fun j hj => by rcases j with _ | _ | _ | _ | _ | j <;> first | rfl | omega) (fun j hj hne => by rcases j with _ | _ | _ | _ | _ | j <;> first | rfl | omega)))
theorem Sew.law1 {w W2 : World} {b i : Nat} {tn : ByteArray} (htn : tx i = tn) {a0 a1 a2 a3 a4 : Option Addr} {c0 c1 c2 c3 c4 : Nat} (hsw0 : Sew w b (s5 (i + 1) i i i i) (s5 (.slice a0 (i + 1) c0) (.slice a1 i c1) (.slice a2 i c2) (.slice a3 i c3) (.slice a4 i c4)) W2) (hi6 : i ≤ 1000000) {ops : Array Oper} {o : Oper} {ac : Act} {K : Act → World → Prop} {Q : Exit → Act → World → Prop} {s y : Operand} (h1 : Region.wanted o (yielded ops ac.tmps) = true) (h2 : o.op = .call { callee := .builtin .append, args := #[s, y], argTypes := #[25, 25] }) (h3 : ac.eval s = .slice a1 i c1) (h4 : ac.eval y = .slice (some ⟨W2.heap.size, 0, none⟩) 1 1)
    (h5 : ∀ a9 c9 w', w'.cell? ⟨b, 6, none⟩ = some (.slice a1 i c1) → w'.frozen? ⟨b, 6, none⟩ = false → Hid (Sew w b (s5 (i + 1) (i + 1) i i i) (s5 (.slice a0 (i + 1) c0) (.slice a9 (i + 1) c9) (.slice a2 i c2) (.slice a3 i c3) (.slice a4 i c4)) (w'.setCell ⟨b, 6, none⟩ (.slice a9 (i + 1) c9))) → K (ac.put o.dst (.slice a9 (i + 1) c9)) w') : if Region.wanted o (yielded ops ac.tmps) = true then Oper.wp Tryd.prog o ac (W2.alloc (.cells #[.string tn, .string tn, .string ⟨#[97, 110, 121]⟩, .bool false, .bool false] 46)) K Q else K (ac.put o.dst undef) (W2.alloc (.cells #[.string tn, .string tn, .string ⟨#[97, 110, 121]⟩, .bool false, .bool false] 46)) := by
  subst htn
  have hsw := hsw0.next (below_alloc4 W2 (.cells (eC 1 i) (eT 1)))
  have hgq := heap_alloc_new W2 (.cells (eC 1 i) (eT 1))
  refine Sew.step hsw (k := 1) (by decide) Tryd.underlying25 hgq hi6 h1 h2 h3 h4 (fun v2 W9 ho hgr hl => ?_)
  obtain ⟨a9, c9, hv9, _⟩ := own_formG ho
  replace hv9 : v2 = .slice a9 (i + 1) c9 := hv9
  subst hv9
  have hK2 := hsw.keeps (k := 1) (by decide) (by decide) hgr
  exact h5 _ _ W9 (blk_cell (j := 6) hK2 rfl) (blk_frozen 6 hK2) (hsw.app (k := 1) (v' := s5 (.slice a0 (i + 1) c0) (.slice a9 (i + 1) c9) (.slice a2 i c2) (.slice a3 i c3) (.slice a4 i c4)) (by decide) (by decide) ho hgr hl (fun j hj => by rcases j with _ | _ | _ | _ | _ | j <;> first | rfl | omega) (fun j hj hne => by rcases j with _ | _ | _ | _ | _ | j <;> first | rfl | omega))
theorem Sew.law2 {w W2 : World} {b i : Nat} {tn : ByteArray} (htn : tx i = tn) {a0 a1 a2 a3 a4 : Option Addr} {c0 c1 c2 c3 c4 : Nat} (hsw0 : Sew w b (s5 (i + 1) (i + 1) i i i) (s5 (.slice a0 (i + 1) c0) (.slice a1 (i + 1) c1) (.slice a2 i c2) (.slice a3 i c3) (.slice a4 i c4)) W2) (hi6 : i ≤ 1000000) {ops : Array Oper} {o : Oper} {ac : Act} {K : Act → World → Prop} {Q : Exit → Act → World → Prop} {s y : Operand} (h1 : Region.wanted o (yielded ops ac.tmps) = true) (h2 : o.op = .call { callee := .builtin .append, args := #[s, y], argTypes := #[25, 25] }) (h3 : ac.eval s = .slice a2 i c2) (h4 : ac.eval y = .slice (some ⟨W2.heap.size, 0, none⟩) 1 1)
    (h5 : ∀ a9 c9 w', w'.cell? ⟨b + 1, 6, none⟩ = some (.slice a2 i c2) → w'.frozen? ⟨b + 1, 6, none⟩ = false → Hid (Sew w b (s5 (i + 1) (i + 1) (i + 1) i i) (s5 (.slice a0 (i + 1) c0) (.slice a1 (i + 1) c1) (.slice a9 (i + 1) c9) (.slice a3 i c3) (.slice a4 i c4)) (w'.setCell ⟨b + 1, 6, none⟩ (.slice a9 (i + 1) c9))) → K (ac.put o.dst (.slice a9 (i + 1) c9)) w') : if Region.wanted o (yielded ops ac.tmps) = true then Oper.wp Tryd.prog o ac (W2.alloc (.cells #[.string tn, .string ⟨#[]⟩, .string ⟨#[97, 110, 121]⟩, .bool false, .bool false] 46)) K Q else K (ac.put o.dst undef) (W2.alloc (.cells #[.string tn, .string ⟨#[]⟩, .string ⟨#[97, 110, 121]⟩, .bool false, .bool false] 46)) := by
  subst htn
  have hsw := hsw0.next (below_alloc4 W2 (.cells (eC 2 i) (eT 2)))
  have hgq := heap_alloc_new W2 (.cells (eC 2 i) (eT 2))
  refine Sew.step hsw (k := 2) (by decide) Tryd.underlying25 hgq hi6 h1 h2 h3 h4 (fun v2 W9 ho hgr hl => ?_)
  obtain ⟨a9, c9, hv9, _⟩ := own_formG ho
  replace hv9 : v2 = .slice a9 (i + 1) c9 := hv9
  subst hv9
  have hK2 := hsw.keeps (k := 2) (by decide) (by decide) hgr
  exact h5 _ _ W9 (blk_cell (j := 6) hK2 rfl) (blk_frozen 6 hK2) (hsw.app (k := 2) (v' := s5 (.slice a0 (i + 1) c0) (.slice a1 (i + 1) c1) (.slice a9 (i + 1) c9) (.slice a3 i c3) (.slice a4 i c4)) (by decide) (by decide) ho hgr hl (fun j hj => by rcases j with _ | _ | _ | _ | _ | j <;> first | rfl | omega) (fun j hj hne => by rcases j with _ | _ | _ | _ | _ | j <;> first | rfl | omega))
theorem Sew.law3 {w W2 : World} {b i : Nat} {tn : ByteArray} (htn : tx i = tn) {a0 a1 a2 a3 a4 : Option Addr} {c0 c1 c2 c3 c4 : Nat} (hsw0 : Sew w b (s5 (i + 1) (i + 1) (i + 1) i i) (s5 (.slice a0 (i + 1) c0) (.slice a1 (i + 1) c1) (.slice a2 (i + 1) c2) (.slice a3 i c3) (.slice a4 i c4)) W2) (hi6 : i ≤ 1000000) {ops : Array Oper} {o : Oper} {ac : Act} {K : Act → World → Prop} {Q : Exit → Act → World → Prop} {s y : Operand} (h1 : Region.wanted o (yielded ops ac.tmps) = true) (h2 : o.op = .call { callee := .builtin .append, args := #[s, y], argTypes := #[26, 26] }) (h3 : ac.eval s = .slice a3 i c3) (h4 : ac.eval y = .slice (some ⟨W2.heap.size, 0, none⟩) 1 1)
    (h5 : ∀ a9 c9 w', w'.cell? ⟨b + 2, 7, none⟩ = some (.slice a3 i c3) → w'.frozen? ⟨b + 2, 7, none⟩ = false → Hid (Sew w b (s5 (i + 1) (i + 1) (i + 1) (i + 1) i) (s5 (.slice a0 (i + 1) c0) (.slice a1 (i + 1) c1) (.slice a2 (i + 1) c2) (.slice a9 (i + 1) c9) (.slice a4 i c4)) (w'.setCell ⟨b + 2, 7, none⟩ (.slice a9 (i + 1) c9))) → K (ac.put o.dst (.slice a9 (i + 1) c9)) w') : if Region.wanted o (yielded ops ac.tmps) = true then Oper.wp Tryd.prog o ac (W2.alloc (.cells #[.string tn, .string ⟨#[97, 110, 121]⟩] 48)) K Q else K (ac.put o.dst undef) (W2.alloc (.cells #[.string tn, .string ⟨#[97, 110, 121]⟩] 48)) := by
  subst htn
  have hsw := hsw0.next (below_alloc4 W2 (.cells (eC 3 i) (eT 3)))
  have hgq := heap_alloc_new W2 (.cells (eC 3 i) (eT 3))
  refine Sew.step hsw (k := 3) (by decide) Tryd.underlying26 hgq hi6 h1 h2 h3 h4 (fun v2 W9 ho hgr hl => ?_)
  obtain ⟨a9, c9, hv9, _⟩ := own_formG ho
  replace hv9 : v2 = .slice a9 (i + 1) c9 := hv9
  subst hv9
  have hK2 := hsw.keeps (k := 3) (by decide) (by decide) hgr
  exact h5 _ _ W9 (blk_cell (j := 7) hK2 rfl) (blk_frozen 7 hK2) (hsw.app (k := 3) (v' := s5 (.slice a0 (i + 1) c0) (.slice a1 (i + 1) c1) (.slice a2 (i + 1) c2) (.slice a9 (i + 1) c9) (.slice a4 i c4)) (by decide) (by decide) ho hgr hl (fun j hj => by rcases j with _ | _ | _ | _ | _ | j <;> first | rfl | omega) (fun j hj hne => by rcases j with _ | _ | _ | _ | _ | j <;> first | rfl | omega))
theorem Sew.law4 {w W2 : World} {b i : Nat} {tn : ByteArray} (htn : tx i = tn) {a0 a1 a2 a3 a4 : Option Addr} {c0 c1 c2 c3 c4 : Nat} (hsw0 : Sew w b (s5 (i + 1) (i + 1) (i + 1) (i + 1) i) (s5 (.slice a0 (i + 1) c0) (.slice a1 (i + 1) c1) (.slice a2 (i + 1) c2) (.slice a3 (i + 1) c3) (.slice a4 i c4)) W2) (hi6 : i ≤ 1000000) {ops : Array Oper} {o : Oper} {ac : Act} {K : Act → World → Prop} {Q : Exit → Act → World → Prop} {s y : Operand} (h1 : Region.wanted o (yielded ops ac.tmps) = true) (h2 : o.op = .call { callee := .builtin .append, args := #[s, y], argTypes := #[27, 27] }) (h3 : ac.eval s = .slice a4 i c4) (h4 : ac.eval y = .slice (some ⟨W2.heap.size, 0, none⟩) 1 1)
    (h5 : ∀ a9 c9 w', w'.cell? ⟨b + 3, 8, none⟩ = some (.slice a4 i c4) → w'.frozen? ⟨b + 3, 8, none⟩ = false → Hid (Sew w b (s5 (i + 1) (i + 1) (i + 1) (i + 1) (i + 1)) (s5 (.slice a0 (i + 1) c0) (.slice a1 (i + 1) c1) (.slice a2 (i + 1) c2) (.slice a3 (i + 1) c3) (.slice a9 (i + 1) c9)) (w'.setCell ⟨b + 3, 8, none⟩ (.slice a9 (i + 1) c9))) → K (ac.put o.dst (.slice a9 (i + 1) c9)) w') : if Region.wanted o (yielded ops ac.tmps) = true then Oper.wp Tryd.prog o ac (W2.alloc (.cells #[.string tn] 9)) K Q else K (ac.put o.dst undef) (W2.alloc (.cells #[.string tn] 9)) := by
  subst htn
  have hsw := hsw0.next (below_alloc4 W2 (.cells (eC 4 i) (eT 4)))
  have hgq := heap_alloc_new W2 (.cells (eC 4 i) (eT 4))
  refine Sew.step hsw (k := 4) (by decide) Tryd.underlying27 hgq hi6 h1 h2 h3 h4 (fun v2 W9 ho hgr hl => ?_)
  obtain ⟨a9, c9, hv9, _⟩ := own_formG ho
  replace hv9 : v2 = .slice a9 (i + 1) c9 := hv9
  subst hv9
  have hK2 := hsw.keeps (k := 4) (by decide) (by decide) hgr
  exact h5 _ _ W9 (blk_cell (j := 8) hK2 rfl) (blk_frozen 8 hK2) (hsw.app (k := 4) (v' := s5 (.slice a0 (i + 1) c0) (.slice a1 (i + 1) c1) (.slice a2 (i + 1) c2) (.slice a3 (i + 1) c3) (.slice a9 (i + 1) c9)) (by decide) (by decide) ho hgr hl (fun j hj => by rcases j with _ | _ | _ | _ | _ | j <;> first | rfl | omega) (fun j hj hne => by rcases j with _ | _ | _ | _ | _ | j <;> first | rfl | omega))
end
end Go.Proofs.YtnpjmanagecpkaaDoor
