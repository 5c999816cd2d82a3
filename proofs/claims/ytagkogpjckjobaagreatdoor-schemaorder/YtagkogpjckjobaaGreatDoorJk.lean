import Derived.Test.YtagkogpjckjobaaGreatDoorJj
import Derived.Deep.RegionWith
import Derived.Test.YtagkogpjckjobaaGreatDoorJa
import Derived.Defers
import Derived.Laws.Pointers
import Derived.Laws.LoneSync
import Derived.RegionCalls
import Derived.Laws.NewBlocks
import Derived.Test.YtagkogpjckjobaaGreatDoorJb
namespace Go.Proofs.YtagkogpjckjobaaGreatDoor
section
open Go.RowKit Go
/-- What Table.Filled has had filled tell, once. -/
structure Fld (w w' : World) (g M : Nat) (l : List Tp) (vt : Value) (Bm : Nat) (d e f : Value) : Prop where
  r : w'.heap[g]? = some (.cells #[vt, .map (some Bm), d, e, f, .map (some M)] 71 (0, 0))
  m : ∃ n k, Mst w' M n (itr l (k + 1)) ∧ (itr l (k + 1)).length ≤ (itr l k).length
  k : Kp (fun q => q = g) w w'
  n : w.heap.size ≤ M
set_option maxRecDepth 1000000 in
set_option maxHeartbeats 1000000 in
theorem filledOf_any (w : World) (hO : Otb w) (b g : Nat) (vt : Value) (Bm : Nat) (l : List Tp) (d e f m : Value) (hb : w.heap[b]? = some (.cells #[.pointer (some ⟨g, 0, none⟩)] 34 (0, 0))) (hg : w.heap[g]? = some (.cells #[vt, .map (some Bm), d, e, f, m] 71 (0, 0))) (hv : TSl w vt l) (h64 : l.length ≤ 64) : Calls Tryz.prog 32 #[.pointer (some ⟨b, 0, none⟩)] w fun x w' => x = .returned (.tuple #[]) ∧ Hid (Fld w w' g w.heap.size l vt Bm d e f) := by
  have HCA := hide (filled_any w.drew ⟨fun j u hj => hO.c j u hj⟩ vt l (hv.mv (fun _ _ h => h)) h64)
  have HB := hide hb
  have HG := hide hg
  obtain ⟨⟨a, cap, rfl, _, _⟩, _⟩ := hv
  have q0 : w.cell? ⟨b, 0, none⟩ = some (.pointer (some ⟨g, 0, none⟩)) := blk_cell (j := 0) hb rfl
  have q1 : w.cell? ⟨g, 0, none⟩ = some (.slice a l.length cap) := blk_cell (j := 0) hg rfl
  clear hO hb hg
  go_enter Tryz.func32, Tryz.ntmps32
  go_region_with (first
    | (go_at_call 33
       refine HCA.out.mono ?_
       rintro e w6 ⟨rfl, hP⟩
       obtain ⟨n, k, hm, hle, hbl⟩ := hP.out
       have hbl' : Below w.heap.size w w6 := (Below.refl _ w).drew.trans hbl
       have HM6 : Hid (Mst w6 w.heap.size n (itr l (k + 1))) := hm
       have HLE := hide hle
       have HBL := hide hbl'
       have HG6 := hide ((hbl'.block _ (blk_lt HG.out)).trans HG.out)
       have t0 : w6.cell? ⟨b, 0, none⟩ = some (.pointer (some ⟨g, 0, none⟩)) := blk_cell (j := 0) ((hbl'.block _ (blk_lt HB.out)).trans HB.out) rfl
       have t5 : w6.cell? ⟨g, 5, none⟩ = some m := blk_cell (j := 5) HG6.out rfl
       have p5 := blk_frozen 5 HG6.out
       clear hP hm hle hbl hbl'))
  all_goals
    have hk : Kp (fun q => q = g) w (w6.setCell ⟨g, 5, none⟩ (.map (some w.heap.size))) := (Kp.mono (Kp.of_below (S := fun _ => False) HBL.out) (fun _ _ e => e.elim)).setCell _ _ (fun _ => rfl)
    have HF : Hid (Fld w (w6.setCell ⟨g, 5, none⟩ (.map (some w.heap.size))) g w.heap.size l (.slice a l.length cap) Bm d e f) := ⟨blk_set 5 _ HG6.out, ⟨n, k, HM6.out.kp ((Kp.refl (fun q => q = g) w6).setCell _ _ (fun _ => rfl)) (fun e => by have e' : w.heap.size = g := e; have := blk_lt HG.out; omega), HLE.out⟩, hk, Nat.le_refl _⟩
    go_wp2_with fail
    go_end0
    exact ⟨rfl, HF.out⟩
end
section
open Go.RowKit Go
/-! ### A lock, one goroutine -/
theorem raceOff (w : World) : (callFunc 111 #[]).run Tryz.prog w = .ok (.value (.tuple #[])) w := run_call_mark0 Tryz.func111 (by kernel_rfl) (by kernel_rfl) (by kernel_rfl) .disable (by kernel_rfl) w
theorem raceOn (w : World) : (callFunc 113 #[]).run Tryz.prog w = .ok (.value (.tuple #[])) w := run_call_mark0 Tryz.func113 (by kernel_rfl) (by kernel_rfl) (by kernel_rfl) .enable (by kernel_rfl) w
theorem raceGet (a : Addr) (w : World) : (callFunc 114 #[.pointer (some a)]).run Tryz.prog w = .ok (.value (.tuple #[])) w := run_call_marked Tryz.func114 (by kernel_rfl) (by kernel_rfl) (by kernel_rfl) .acquire (by kernel_rfl) a w
theorem racePut (a : Addr) (w : World) : (callFunc 116 #[.pointer (some a)]).run Tryz.prog w = .ok (.value (.tuple #[])) w := run_call_marked Tryz.func116 (by kernel_rfl) (by kernel_rfl) (by kernel_rfl) .releaseMerge (by kernel_rfl) a w
set_option maxRecDepth 1000000 in
theorem lockFree (a : Addr) (w : World) (hc : w.cell? a = some (.int .i32 0)) (hz : w.frozen? a = false) : Calls Tryz.prog 80 #[.pointer (some a)] w fun e w' => e = .returned (.tuple #[]) ∧ w' = w.setCell a (.int .i32 1) := by
  have hd := raceOff
  have he := raceOn
  have ha := raceGet
  have hcas := run_call_cas_hit (P := Tryz.prog) Tryz.func112 (by kernel_rfl) (by kernel_rfl) (by kernel_rfl) .i32 (by kernel_rfl) (y := 1) hc hz
  have hc' : (w.setCell a (.int .i32 1)).cell? a = some (.int .i32 1) := World.cell?_setCell_same w a _ hc
  have hcv := run_convert_to_unsafe (P := Tryz.prog) (src := 157) (dst := 161) Tryz.underlying157 Tryz.underlying161 (by kernel_rfl) hc'
  go_enter Tryz.func80, Tryz.ntmps80
  go_wp2
  first | go_end0 | (simp only [Exit.inBlock, Exit.then]; refine bodyPost_ret (results_none rfl _ _ _) rfl ?_) | refine bodyPost_ret (results_none rfl _ _ _) rfl ?_
  go_wp2
  go_end0
  exact ⟨rfl, rfl⟩
set_option maxRecDepth 1000000 in
theorem unlockLate (a : Addr) (u : FrameMode) (w : World) (hc : w.cell? a = some (.int .i32 1)) (hz : w.frozen? a = false) : CallsD Tryz.prog 81 #[.pointer (some a)] u w fun e u' w' => u' = u ∧ (e = .returned (.tuple #[]) ∧ w' = w.setCell a (.int .i32 0)) := by
  have hd := raceOff
  have he := raceOn
  have hr := racePut
  have hadd := run_call_add (P := Tryz.prog) Tryz.func117 (by kernel_rfl) (by kernel_rfl) (by kernel_rfl) .i32 (by kernel_rfl) (y := -1) (s := 0) hc hz (by simp [go_sem]; rfl)
  have hcv := run_convert_to_unsafe (P := Tryz.prog) (src := 157) (dst := 161) Tryz.underlying157 Tryz.underlying161 (by kernel_rfl) hc
  go_enter_d Tryz.func81, Tryz.ntmps81
  go_wp2
  go_end0
  go_wp2
  go_end0
  exact ⟨rfl, rfl⟩
end
section
open Go.RowKit Go
/-! ### sync.Once, one goroutine -/
set_option maxRecDepth 1000000 in
theorem done_any (a : Addr) (d : Int) (w : World) (hc : w.cell? a = some (.int .u32 d)) : Calls Tryz.prog 53 #[.pointer (some a)] w fun e w' => e = .returned (.bool (d != 0)) ∧ w' = w := by
  have hl := run_call_load (P := Tryz.prog) Tryz.func79 (by kernel_rfl) (by kernel_rfl) (by kernel_rfl) .u32 (by kernel_rfl) (w := w) (a := a) (x := d) hc
  go_enter Tryz.func53, Tryz.ntmps53
  go_wp2
  go_ret
  exact ⟨rfl, rfl⟩
set_option maxRecDepth 1000000 in
theorem storeLate (a : Addr) (x : Value) (u : FrameMode) (w : World) (hc : w.cell? a = some x) (hz : w.frozen? a = false) : CallsD Tryz.prog 82 #[.pointer (some a), .bool true] u w fun e u' w' => u' = u ∧ (e = .returned (.tuple #[]) ∧ w' = w.drew.setCell a (.int .u32 1)) := by
  have hc' : w.drew.cell? a = some x := by go_simp
  have hz' : w.drew.frozen? a = false := by go_simp
  have hst := run_call_store (P := Tryz.prog) Tryz.func105 (by kernel_rfl) (by kernel_rfl) (by kernel_rfl) (by kernel_rfl) (k := .u32) (y := 1) hc' hz'
  go_enter_d Tryz.func82, Tryz.ntmps82
  go_wp2
  go_region_calls
  all_goals (go_end0; exact ⟨rfl, rfl⟩)
end
section
open Go.RowKit Go
set_option maxRecDepth 1000000 in
set_option maxHeartbeats 1600000 in
theorem slow11_any (w : World) (b g : Nat) (vt : Value) (Bm : Nat) (l : List Tp) (m : Value) (hb : w.heap[b]? = some (.cells #[.pointer (some ⟨g, 0, none⟩)] 34 (0, 0))) (hg : w.heap[g]? = some (.cells #[vt, .map (some Bm), .int .u32 0, .int .i32 0, .int .u32 0, m] 71 (0, 0))) (hTk : ∀ wy, Kp (fun q => q = g) w wy → TSl wy vt l) (hOk : ∀ wy, Kp (fun q => q = g) w wy → Otb wy) (h64 : l.length ≤ 64) : Calls Tryz.prog 54 #[.pointer (some ⟨g, 2, none⟩), .func (.func 32) #[] #[.pointer (some ⟨b, 0, none⟩)]] w fun x w' => x = .returned (.tuple #[]) ∧ Hid (Fld w w' g w.heap.size l vt Bm (.int .u32 1) (.int .i32 0) (.int .u32 0)) := by
  have hbg : b ≠ g := fun e => by
    rw [e, hg] at hb
    injection hb with hb
    injection hb with hb
    have := congrArg Array.size hb
    simp at this
  have hk1 : Kp (fun q => q = g) w (w.setCell ⟨g, 3, none⟩ (.int .i32 1)) := (Kp.refl _ w).setCell _ _ (fun _ => rfl)
  have hg1 : (w.setCell ⟨g, 3, none⟩ (.int .i32 1)).heap[g]? = some (.cells #[vt, .map (some Bm), .int .u32 0, .int .i32 1, .int .u32 0, m] 71 (0, 0)) := blk_set 3 _ hg
  have hb1 : (w.setCell ⟨g, 3, none⟩ (.int .i32 1)).heap[b]? = some (.cells #[.pointer (some ⟨g, 0, none⟩)] 34 (0, 0)) := blk_other 3 _ hb hbg
  have HCA := hide (filledOf_any _ (hOk _ hk1) b g vt Bm l _ _ _ m hb1 hg1 (hTk _ hk1) h64)
  have c3 : w.cell? ⟨g, 3, none⟩ = some (.int .i32 0) := blk_cell (j := 3) hg rfl
  have f3 := blk_frozen 3 hg
  have d2 : (w.setCell ⟨g, 3, none⟩ (.int .i32 1)).cell? ⟨g, 2, none⟩ = some (.int .u32 0) := blk_cell (j := 2) hg1 rfl
  have hsz : (w.setCell ⟨g, 3, none⟩ (.int .i32 1)).heap.size = w.heap.size := by simp
  have HSZ := hide hsz
  have HK1 := hide hk1
  have hnot : ∀ (x : Bool) (w : World), (Op.unary .not (.bool x)).run Tryz.prog w = .ok (.bool (!x)) w := fun _ _ => rfl
  have HGL : Hid (g < w.heap.size) := blk_lt hg
  clear hb hg hTk hOk hbg hk1 hg1 hb1 hsz
  go_enter_defers Tryz.func54, Tryz.ntmps54
  go_wp2_with (first
    | (go_at_call 80; refine (lockFree ⟨g, 3, none⟩ _ c3 f3).mono ?_; rintro e w' ⟨rfl, rfl⟩)
    | (go_at_call 53; refine (done_any ⟨g, 2, none⟩ 0 _ d2).mono ?_; rintro e w' ⟨rfl, rfl⟩)
    | (go_at_call 32; refine HCA.out.mono ?_; rintro e w2 ⟨rfl, hP⟩))
  have hF := hP.out
  rw [HSZ.out] at hF
  have hr := hF.r
  have e2 : w2.cell? ⟨g, 2, none⟩ = some (.int .u32 0) := blk_cell (j := 2) hr rfl
  have z2 := blk_frozen 2 hr
  have hrd : w2.drew.heap[g]? = some (.cells #[vt, .map (some Bm), .int .u32 0, .int .i32 1, .int .u32 0, .map (some w.heap.size)] 71 (0, 0)) := hr
  have hr3 := blk_set 2 (.int .u32 1) hrd
  have e3 : (w2.drew.setCell ⟨g, 2, none⟩ (.int .u32 1)).cell? ⟨g, 3, none⟩ = some (.int .i32 1) := blk_cell (j := 3) hr3 rfl
  have z3 := blk_frozen 3 hr3
  have hr4 := blk_set 3 (.int .i32 0) hr3
  have hk4 : Kp (fun q => q = g) w2 ((w2.drew.setCell ⟨g, 2, none⟩ (.int .u32 1)).setCell ⟨g, 3, none⟩ (.int .i32 0)) := ((Kp.refl (fun q => q = g) w2).drew.setCell ⟨g, 2, none⟩ _ (fun _ => rfl)).setCell ⟨g, 3, none⟩ _ (fun _ => rfl)
  obtain ⟨n, k, hm, hle⟩ := hF.m
  have HF4 : Hid (Fld w ((w2.drew.setCell ⟨g, 2, none⟩ (.int .u32 1)).setCell ⟨g, 3, none⟩ (.int .i32 0)) g w.heap.size l vt Bm (.int .u32 1) (.int .i32 0) (.int .u32 0)) := ⟨hr4, ⟨n, k, hm.kp hk4 (fun e => by have e' : w.heap.size = g := e; have := HGL.out; omega), hle⟩, (HK1.out.trans hF.k (fun _ _ e => e)).trans hk4 (fun _ _ e => e), Nat.le_refl _⟩
  refine leaves_cons (f := 82) (args := #[.pointer (some ⟨g, 2, none⟩), .bool true]) (by simp) (by simp [go_sem]) ?_
  refine (storeLate ⟨g, 2, none⟩ (.int .u32 0) .returning _ e2 z2).mono ?_
  rintro e u' w'' ⟨rfl, rfl, rfl⟩
  refine leaves_cons (f := 81) (args := #[.pointer (some ⟨g, 3, none⟩)]) (by simp [settle]) (by simp [go_sem]) ?_
  refine (unlockLate ⟨g, 3, none⟩ _ _ e3 z3).mono ?_
  rintro e u' w'' ⟨rfl, rfl, rfl⟩
  simp [Leaves, settle, results, Tryz.results54]
  exact HF4.out
end
section
open Go.RowKit Go
set_option maxRecDepth 1000000 in
set_option maxHeartbeats 1600000 in
theorem onceFirst_any (w : World) (b g : Nat) (vt : Value) (Bm : Nat) (l : List Tp) (m : Value) (hb : w.heap[b]? = some (.cells #[.pointer (some ⟨g, 0, none⟩)] 34 (0, 0))) (hg : w.heap[g]? = some (.cells #[vt, .map (some Bm), .int .u32 0, .int .i32 0, .int .u32 0, m] 71 (0, 0))) (hTk : ∀ wy, Kp (fun q => q = g) w wy → TSl wy vt l) (hOk : ∀ wy, Kp (fun q => q = g) w wy → Otb wy) (h64 : l.length ≤ 64) : Calls Tryz.prog 31 #[.pointer (some ⟨g, 2, none⟩), .func (.func 32) #[] #[.pointer (some ⟨b, 0, none⟩)]] w fun x w' => x = .returned (.tuple #[]) ∧ Hid (Fld w w' g w.heap.size l vt Bm (.int .u32 1) (.int .i32 0) (.int .u32 0)) := by
  have HCA := hide (slow11_any w b g vt Bm l m hb hg hTk hOk h64)
  have d2 : w.cell? ⟨g, 2, none⟩ = some (.int .u32 0) := blk_cell (j := 2) hg rfl
  have hnot : ∀ (x : Bool) (w : World), (Op.unary .not (.bool x)).run Tryz.prog w = .ok (.bool (!x)) w := fun _ _ => rfl
  clear hb hg hTk hOk
  go_enter Tryz.func31, Tryz.ntmps31
  go_wp2_with (first
    | (go_at_call 53; refine (done_any ⟨g, 2, none⟩ 0 _ d2).mono ?_; rintro e w' ⟨rfl, rfl⟩)
    | (go_at_call 54; refine HCA.out.mono ?_; rintro e w2 ⟨rfl, hP⟩))
  go_end0
  exact ⟨rfl, hP⟩
set_option maxRecDepth 1000000 in
theorem onceDone_any (w : World) (g : Nat) (f : Value) (d : Int) (hd : d ≠ 0) (d2 : w.cell? ⟨g, 2, none⟩ = some (.int .u32 d)) : Calls Tryz.prog 31 #[.pointer (some ⟨g, 2, none⟩), f] w fun x w' => x = .returned (.tuple #[]) ∧ w' = w := by
  have hnot : ∀ (x : Bool) (w : World), (Op.unary .not (.bool x)).run Tryz.prog w = .ok (.bool (!x)) w := fun _ _ => rfl
  have hne : (d != 0) = true := by rw [bne_iff_ne]; exact hd
  go_enter Tryz.func31, Tryz.ntmps31
  go_wp2_with (first
    | (go_at_call 53; refine (done_any ⟨g, 2, none⟩ d _ d2).mono ?_; rintro e w' ⟨rfl, rfl⟩))
  go_end0
  exact ⟨rfl, rfl⟩
end
section
open Go.RowKit Go
set_option maxRecDepth 1000000 in
set_option maxHeartbeats 1600000 in
theorem tfilled_first (w : World) (g : Nat) (vt : Value) (Bm : Nat) (l : List Tp) (m : Value) (s : ByteArray) (hs : s.size ≤ 140737488351232) (hg : w.heap[g]? = some (.cells #[vt, .map (some Bm), .int .u32 0, .int .i32 0, .int .u32 0, m] 71 (0, 0))) (hTk : ∀ wy, Kp (fun q => q = g) w wy → TSl wy vt l) (hOk : ∀ wy, Kp (fun q => q = g) w wy → Otb wy) (h64 : l.length ≤ 64) : Calls Tryz.prog 18 #[.pointer (some ⟨g, 0, none⟩), .string s] w fun x w' => ∃ M k, x = .returned (.bool (memb (itr l (k + 1)) s)) ∧ Hid ((itr l (k + 1)).length ≤ (itr l k).length ∧ (∃ n, Mst w' M n (itr l (k + 1))) ∧ w'.heap[g]? = some (.cells #[vt, .map (some Bm), .int .u32 1, .int .i32 0, .int .u32 0, .map (some M)] 71 (0, 0)) ∧ Kp (fun q => q = g) w w' ∧ w.heap.size ≤ M) := by
  have hb0 := below_alloc4 w (.cells #[.pointer (some ⟨g, 0, none⟩)] 34)
  have hk0 : Kp (fun q => q = g) w (w.alloc (.cells #[.pointer (some ⟨g, 0, none⟩)] 34)) := Kp.mono (Kp.of_below (S := fun _ => False) hb0) (fun _ _ e => e.elim)
  have hbx := heap_alloc_new w (.cells #[.pointer (some ⟨g, 0, none⟩)] 34)
  have hg0 := (hb0.block _ (blk_lt hg)).trans hg
  have HCA := hide (onceFirst_any _ w.heap.size g vt Bm l m hbx hg0 (fun wy hk => hTk wy (hk0.trans hk (fun _ _ e => e))) (fun wy hk => hOk wy (hk0.trans hk (fun _ _ e => e))) h64)
  have q0 : (w.alloc (.cells #[.pointer (some ⟨g, 0, none⟩)] 34)).cell? ⟨w.heap.size, 0, none⟩ = some (.pointer (some ⟨g, 0, none⟩)) := blk_cell (j := 0) hbx rfl
  have HK0 := hide hk0
  have HBX := hide hbx
  have HS := hide hs
  have HSL : Hid (w.heap.size ≤ (w.alloc (.cells #[.pointer (some ⟨g, 0, none⟩)] 34)).heap.size) := hb0.size
  have HNG : Hid (w.heap.size ≠ g) := fun e => by have := blk_lt hg; omega
  clear hb0 hk0 hbx hg0 hg hTk hOk hs
  go_enter Tryz.func18, Tryz.ntmps18
  go_wp2_with fail
  refine HCA.out.mono ?_
  rintro e w2 ⟨rfl, hP⟩
  obtain ⟨n, k, hm, hle⟩ := hP.out.m
  have HM := hide hm
  have HLE := hide hle
  have HR := hide hP.out.r
  have HK2 : Hid (Kp (fun q => q = g) w w2) := HK0.out.trans hP.out.k (fun _ _ e => e)
  have HN2 := hide hP.out.n
  have t0 : w2.cell? ⟨w.heap.size, 0, none⟩ = some (.pointer (some ⟨g, 0, none⟩)) := blk_cell (j := 0) ((hP.out.k.block _ (blk_lt HBX.out) HNG.out).trans HBX.out) rfl
  have t5 : w2.cell? ⟨g, 5, none⟩ = some (.map (some (w.alloc (.cells #[.pointer (some ⟨g, 0, none⟩)] 34)).heap.size)) := blk_cell (j := 5) HR.out rfl
  generalize (w.alloc (.cells #[.pointer (some ⟨g, 0, none⟩)] 34)).heap.size = M at *
  clear hm hle hP HCA q0
  go_wp2_with (refine wpList_lookS rfl rfl rfl rfl HM.out HS.out ?_)
  go_ret
  have hb3 := below_alloc4 w2 (.cells #[] 57)
  exact ⟨M, k, rfl, HLE.out, ⟨n, HM.out.next hb3⟩, (hb3.block _ (blk_lt HR.out)).trans HR.out, HK2.out.trans (Kp.of_below (S := fun _ => False) hb3) (fun _ _ e => e.elim), HSL.out⟩
set_option maxRecDepth 1000000 in
set_option maxHeartbeats 1600000 in
theorem tfilled_again (w : World) (g : Nat) (vt : Value) (Bm M n : Nat) (L : List ByteArray) (s : ByteArray) (hs : s.size ≤ 140737488351232) (hg : w.heap[g]? = some (.cells #[vt, .map (some Bm), .int .u32 1, .int .i32 0, .int .u32 0, .map (some M)] 71 (0, 0))) (hm : Mst w M n L) : Calls Tryz.prog 18 #[.pointer (some ⟨g, 0, none⟩), .string s] w fun x w' => x = .returned (.bool (memb L s)) ∧ Below w.heap.size w w' := by
  have hb0 := below_alloc4 w (.cells #[.pointer (some ⟨g, 0, none⟩)] 34)
  have hbx := heap_alloc_new w (.cells #[.pointer (some ⟨g, 0, none⟩)] 34)
  have hg0 := (hb0.block _ (blk_lt hg)).trans hg
  have HCA := hide (fun f => onceDone_any (w.alloc (.cells #[.pointer (some ⟨g, 0, none⟩)] 34)) g f 1 (by decide) (blk_cell (j := 2) hg0 rfl))
  have q0 : (w.alloc (.cells #[.pointer (some ⟨g, 0, none⟩)] 34)).cell? ⟨w.heap.size, 0, none⟩ = some (.pointer (some ⟨g, 0, none⟩)) := blk_cell (j := 0) hbx rfl
  have t5 : (w.alloc (.cells #[.pointer (some ⟨g, 0, none⟩)] 34)).cell? ⟨g, 5, none⟩ = some (.map (some M)) := blk_cell (j := 5) hg0 rfl
  have HM := hide (hm.next hb0)
  have HS := hide hs
  have HB0 := hide hb0
  clear hb0 hbx hg0 hg hs hm
  go_enter Tryz.func18, Tryz.ntmps18
  go_wp2_with fail
  generalize w.alloc (.cells #[.pointer (some ⟨g, 0, none⟩)] 34) = w1 at *
  refine (HCA.out _).mono ?_
  rintro e w2 ⟨rfl, rfl⟩
  clear HCA
  go_wp2_with (refine wpList_lookS rfl rfl rfl rfl HM.out HS.out ?_)
  go_ret
  exact ⟨rfl, HB0.out.trans ((below_alloc4 _ _).mono HB0.out.size)⟩
end
section
open Go.RowKit Go

end
end Go.Proofs.YtagkogpjckjobaaGreatDoor
