import Derived.Test.YtnkghcndaafmoaaGreatDoorJqab
import Derived.Test.YtnkghcndaafmoaaGreatDoorJqx
import Derived.Test.YtnkghcndaafmoaaGreatDoorJqt
import Derived.Lib.AppendZerosOnto
import Derived.Lib.SliceRun
namespace Go.Proofs.YtnkghcndaafmoaaGreatDoor
section
open Go.RowKit Go

end
section
open Go.RowKit Go.Maps Go.Sort Go
theorem keysL_gives (F : Fence) (n : Nat) (h10 : F.fn 185) (hro : F.round = none) (hn : 1 ≤ n) (Bm b nn : Nat) (D0 : DataW Unit) (w : World) (hBm : Bm < w.heap.size) (hm : w.cell? ⟨Bm, 0, none⟩ = some (.map (some b))) (hown : w.ownsMap Tryz.prog 41 blkElem b nn D0) :
    SeqGives F n Tryz.prog 185 #[.pointer (some ⟨Bm, 0, none⟩)] lkv (fun ss => ∃ left : Lit → Bool, (∀ kl, left kl = false) ∧ LCol D0 left ss) (Maps.size D0) w := fun l J W hW hJ hY h0 => by
  have hown' : W.ownsMap Tryz.prog 41 blkElem b nn D0 := by
    have hbl := hown.lt
    obtain ⟨es, clock, hb, Ft, hs, hD⟩ := hown
    exact ⟨es, clock, (hW.block b hbl).trans hb, Ft, hs, hD⟩
  refine (keysL_in F n h10 hro hn l Bm b nn D0 J (fun pre x W1 _ h1 h2 => hY pre x W1 h1 h2) W hJ ((hW.cell (p := ⟨Bm, 0, none⟩) hBm).trans hm) hown' h0).mono ?_
  rintro e W' ⟨hv, left, ss, hl, hc, hj⟩
  exact ⟨hv, ss, ⟨left, hl, hc⟩, hj⟩
set_option maxRecDepth 1000000 in
set_option maxHeartbeats 2000000 in
theorem appendSeqL_in (F : Fence) (n : Nat) (h11 : F.fn 184) (hro : F.round = none) (hn : 2 ≤ n) (g : Nat) (lb : Array Value) (hFg : F.fn g) (eg : ∀ args w, (callFunc g args).run Tryz.prog w = .ok (.enter g args) w)
    (S : List Lk → Prop) (N : Nat) (hN : N ≤ 1000000) (w : World) (hseq : SeqGives F (n - 1) Tryz.prog g lb lkv S N w) :
    CallsIn F n Tryz.prog 184 #[.slice none 0 0, .func (.func g) #[] lb] w fun e w' => ∃ (v : Value) (ss : List Lk), e = .returned v ∧ S ss ∧ w'.ownsRow w.heap.size 41 4 v ss.length (lfl ss) ∧ Below w.heap.size w w' := by
  have h1 : 1 ≤ n := by omega
  refine callsIn_of_wp_marks Tryz.func184 rfl h11 ?_ hro
  simp only [Tryz.ntmps184, List.size_toArray, List.length_cons, List.length_nil, Nat.reduceAdd, Nat.reduceSub, Array.replicate_succ, Array.replicate_zero, List.push_toArray, List.append_toArray, List.nil_append, List.cons_append]
  gi_wp2
  refine wpIn_rangeFunc ?_
  intro fn hfn
  rw [hro]
  obtain ⟨W0, hW0⟩ : ∃ W0, w.alloc (.cells #[.slice none 0 0] 45) = W0 := ⟨_, rfl⟩
  have hs0 : W0.heap.size = w.heap.size + 1 := by rw [← hW0]; simp
  have hv0 : W0.heap[w.heap.size]? = some (.cells #[.slice none 0 0] 45 (0, 0)) := by rw [← hW0]; exact World.alloc_heap_new w _
  have hb0 : Below w.heap.size w W0 := by rw [← hW0]; exact (Below.refl _ w).alloc (Nat.le_refl _) _
  rw [hW0]
  obtain ⟨W1, hW1⟩ : ∃ W1, (W0.alloc (.deferred (some []))).alloc (.loop (apR9 fn (.func (.func g) #[] lb) w.heap.size W0.heap.size .ready)) = W1 := ⟨_, rfl⟩
  have hold : ∀ k, k < W0.heap.size → W1.heap[k]? = W0.heap[k]? := fun k hk => by
    rw [← hW1]; exact (Below.heap_alloc _ _ k (by simp; omega)).trans (Below.heap_alloc _ _ k hk)
  have hb1 : Below w.heap.size w W1 := by rw [← hW1]; exact (hb0.alloc hb0.size _).alloc (by have := hb0.size; simp; omega) _
  have hs1 : W1.heap.size = W0.heap.size + 2 := by rw [← hW1]; simp
  have hM : ApL w fn (.func (.func g) #[] lb) w.heap.size (W0.heap.size + 1) W0.heap.size [] W1 :=
    ⟨⟨_, (hold w.heap.size (by omega)).trans hv0, ⟨rfl, .inl ⟨rfl, rfl⟩⟩⟩,
     by rw [← hW1]; have := World.alloc_heap_new (W0.alloc (.deferred (some []))) (.loop (apR9 fn (.func (.func g) #[] lb) w.heap.size W0.heap.size .ready)); rwa [World.size_alloc] at this,
     by rw [← hW1]; exact (Below.heap_alloc _ _ _ (by simp)).trans (World.alloc_heap_new W0 _), hb1⟩
  refine ⟨W0.heap.size + 1, [{ target := .collected W0.heap.size, args := #[] }], W1, { target := .fn (.func g) lb, args := #[.func (.yield (W0.heap.size + 1)) #[] #[]] }, W1, g,
    #[.func (.yield (W0.heap.size + 1)) #[] #[]] ++ lb, W1, ?_, ?_, ?_, ?_, fun _ => h1, ?_⟩
  · rw [← hW1]; exact run_enterLoop_outer _ _ _ _ _
  · simp [resolve, go_sem]
  · intro f' hf'; simp [Target.leads] at hf'; subst hf'; exact hFg
  · simp [invoke, go_sem, eg]
  · refine (hseq (W0.heap.size + 1) (ApL w fn (.func (.func g) #[] lb) w.heap.size (W0.heap.size + 1) W0.heap.size) W1 hb1 (ap_abides9 _ _ _ _ _ _ _ hb1.size)
      (fun pre x W hJ hl => apY9 F (n - 1 - 1) w fn hfn _ w.heap.size (W0.heap.size + 1) W0.heap.size (by omega) (by omega) (by omega) (Nat.le_refl _) (by omega) N hN pre x W hJ hl) hM).mono ?_
    rintro e W2 ⟨⟨v0, rfl⟩, ss, hS, h2⟩
    obtain ⟨v, hv, hrow⟩ := h2.box
    have hend := run_endLoop (P := Tryz.prog) h2.L (by simp [apR9])
    obtain ⟨W3, hW3⟩ : ∃ W3, W2.putObj (W0.heap.size + 1) (.loop (apR9 fn (.func (.func g) #[] lb) w.heap.size W0.heap.size .exhausted)) = W3 := ⟨_, rfl⟩
    change Sem.run Tryz.prog (Instr.endLoop (W0.heap.size + 1)) W2 = _ at hend
    have hend' : Sem.run Tryz.prog (Instr.endLoop (W0.heap.size + 1)) W2 = Result.ok none W3 := by rw [← hW3]; exact hend
    have hg3 : W2.grownBy W3 (some (W0.heap.size + 1)) := by rw [← hW3]; exact grown_put9 _ _ _
    have hv3 : W3.heap[w.heap.size]? = some (.cells #[v] 45 (0, 0)) := by rw [← hW3]; exact (World.putObj_heap_other (by omega)).trans hv
    have hK3 : W3.heap[W0.heap.size]? = some (.deferred (some [])) := by rw [← hW3]; exact (World.putObj_heap_other (by omega)).trans h2.K
    have hrow3 := hrow.kept hg3 (own_ne9 hrow h2.L (fun cur e => by cases e))
    have hb3 : Below w.heap.size w W3 := h2.below.grown hg3 h2.below.size (fun k e => by cases e; omega)
    have hc3 := blk_cell (j := 0) (v := v) hv3 rfl
    clear hW3 hend
    refine ⟨none, W3, hend', ?_⟩
    gi_wp2
    rw [← hs0]
    refine ⟨by simp, .inl ⟨_, _, rfl, run_takeDeferred hK3, ?_⟩⟩
    exact ⟨_, results_tmp rfl _ _ _, v, ss, rfl, hS, hrow3.kept (grown_put9 _ _ _) (own_ne9 hrow3 hK3 (fun cur e => by cases e)), hb3.grown (grown_put9 _ _ _) hb3.size (fun k e => by cases e; omega)⟩
set_option maxRecDepth 1000000 in
set_option maxHeartbeats 1000000 in
theorem collectL_in (F : Fence) (n : Nat) (h8 : F.fn 133) (h11 : F.fn 184) (hro : F.round = none) (hn : 3 ≤ n) (g : Nat) (lb : Array Value) (hFg : F.fn g) (eg : ∀ args w, (callFunc g args).run Tryz.prog w = .ok (.enter g args) w)
    (S : List Lk → Prop) (N : Nat) (hN : N ≤ 1000000) (w : World) (hseq : SeqGives F (n - 1 - 1) Tryz.prog g lb lkv S N w) :
    CallsIn F n Tryz.prog 133 #[.func (.func g) #[] lb] w fun e w' => ∃ (v : Value) (ss : List Lk), e = .returned v ∧ S ss ∧ w'.ownsRow w.heap.size 41 4 v ss.length (lfl ss) ∧ Below w.heap.size w w' := by
  have e11 : ∀ args w, (callFunc 184 args).run Tryz.prog w = .ok (.enter 184 args) w := enters_of Tryz.func184 (by kernel_rfl) rfl
  refine callsIn_of_wp Tryz.func133 rfl h8 ?_ hro
  simp only [Tryz.ntmps133, List.size_toArray, List.length_cons, List.length_nil, Nat.reduceAdd, Nat.reduceSub, Array.replicate_succ, Array.replicate_zero, List.push_toArray, List.append_toArray, List.nil_append, List.cons_append]
  gi_wp2
  refine ⟨fun _ => by omega, ?_⟩
  refine (appendSeqL_in F (n - 1) h11 hro (by omega) g lb hFg eg S N hN _ hseq).mono ?_
  rintro e w' ⟨v, ss, rfl, hS, hrow, hb⟩
  gi_wp2
  go_ret
  exact ⟨v, ss, rfl, hS, hrow, hb⟩
end
section
open Go.RowKit Go
set_option maxRecDepth 1000000 in
theorem keys13_any (w : World) (B : Nat) : Calls Tryz.prog 134 #[.map (some B)] w fun e w' => e = .returned (.func (.func 185) #[] #[.pointer (some ⟨w.heap.size, 0, none⟩)]) ∧ w' = w.alloc (.cells #[.map (some B)] 105) := by
  have hmf : ∀ (fn : Fn) (first cap : Array Value) (w : World), (Instr.makeFunc fn first cap).run Tryz.prog w = .ok (.func fn first cap) w := fun _ _ _ _ => rfl
  go_enter Tryz.func134, Tryz.ntmps134
  go_wp2_with fail
  go_ret
  exact ⟨rfl, rfl⟩
theorem collect13_any (w : World) (Bm B : Nat) (L : List Blk) (hm : w.cell? ⟨Bm, 0, none⟩ = some (.map (some B))) (hM : Mlb w B L) (hL : L.length ≤ 65536) : Calls Tryz.prog 133 #[.func (.func 185) #[] #[.pointer (some ⟨Bm, 0, none⟩)]] w fun e w' => ∃ (v : Value) (ss : List Lk), e = .returned v ∧ ss.Perm (L.map (·.1)) ∧ w'.ownsRow w.heap.size 41 4 v ss.length (lfl ss) ∧ Below w.heap.size w w' := by
  obtain ⟨D, h1, h2, h3, -⟩ := hM.ex
  have hBm : Bm < w.heap.size := World.block_lt_of_cell? w ⟨Bm, 0, none⟩ hm
  have hs := keysL_gives { fn := fun _ => True } 1 trivial rfl (Nat.le_refl _) Bm B L.length D w hBm hm h1
  have hc := collectL_in { fn := fun _ => True } 3 trivial trivial rfl (Nat.le_refl _) _ #[.pointer (some ⟨Bm, 0, none⟩)] trivial (enters_of Tryz.func185 (by kernel_rfl) rfl) _ (Maps.size D) (by rw [h2]; omega) w hs
  refine (hc.calls (fun k d hd => by cases hd)).mono ?_
  rintro e w' ⟨v, ss, rfl, ⟨left, hl, hcol⟩, ho, hb⟩
  exact ⟨v, ss, rfl, LCol.perm hM h3 hcol hl, ho, hb⟩
structure UnsP (w : World) (g B r : Nat) (L : List Blk) (e : Ending) (w' : World) : Prop where
  e : ∃ (v : Value) (ss : List Lk), e = .returned v ∧ ss.Perm (L.map (·.1)) ∧ w'.ownsRow w.heap.size 41 4 v ss.length (lfl ss)
  s : Sto w' g B r L
  k : Kp (fun q => q = g) w w'
set_option maxRecDepth 1000000 in
set_option maxHeartbeats 1000000 in
theorem unsorted13_any (w : World) (g B r : Nat) (L : List Blk) (hS : Sto w g B r L) : Calls Tryz.prog 71 #[.pointer (some ⟨g, 0, none⟩)] w (UnsP w g B r L) := by
  have hlk := hS.lock
  have HE := hide hlk.1
  have HK1 := hide hlk.2
  have HS := hide hS
  have c1 : w.cell? ⟨g, 1, none⟩ = some (.int .i32 0) := blk_cell (j := 1) hS.c rfl
  have f1 := blk_frozen 1 hS.c
  clear hlk hS
  go_enter_defers Tryz.func71, Tryz.ntmps71
  go_upto_region 3 with (go_at_call 43; refine (lockFree ⟨g, 1, none⟩ _ c1 f1).mono ?_; rintro e w' ⟨rfl, rfl⟩)
  have HZ : Hid ((w.setCell ⟨g, 1, none⟩ (.int .i32 1)).heap.size = w.heap.size) := by show _ = _; simp [World.setCell]
  generalize w.setCell ⟨g, 1, none⟩ (.int .i32 1) = w1 at *
  clear c1 f1
  have s3 : w1.cell? ⟨g, 3, none⟩ = some (.map (some B)) := blk_cell (j := 3) HE.out.c rfl
  go_wp2_with fail
  refine (keys13_any w1 B).mono ?_
  rintro e w2 ⟨rfl, hw2⟩
  have hb12 : Below w1.heap.size w1 w2 := by rw [hw2]; exact below_alloc4 w1 _
  have hm2 : w2.cell? ⟨w1.heap.size, 0, none⟩ = some (.map (some B)) := by rw [hw2]; exact blk_cell (j := 0) (heap_alloc_new w1 _) rfl
  have HE2 := hide (HE.out.next hb12)
  have HB12 := hide hb12
  have HC := hide (collect13_any w2 w1.heap.size B L hm2 HE2.out.m (by have h1 := HS.out.n; have h2 := HS.out.h; omega))
  clear hw2 hb12 hm2 s3
  go_wp2_with fail
  refine HC.out.mono ?_
  rintro e w3 ⟨v, ss, rfl, hp, ho, hb3⟩
  have HE3 := hide (HE2.out.next hb3)
  have HP := hide hp
  have HO := hide ho
  have HB3 : Hid (Below w1.heap.size w1 w3) := HB12.out.trans (hb3.mono HB12.out.size)
  have HZ2 : Hid (w1.heap.size ≤ w2.heap.size) := HB12.out.size
  clear hp ho hb3 HC
  go_wp2_with fail
  refine leaves_cons (f := 44) (args := #[.pointer (some ⟨g, 1, none⟩)]) (by simp) (by simp [go_sem]) ?_
  refine (unlockLate ⟨g, 1, none⟩ .returning _ (blk_cell (j := 1) HE3.out.c rfl) (blk_frozen 1 HE3.out.c)).mono ?_
  rintro e u' w'' ⟨rfl, rfl, rfl⟩
  have hu := HE3.out.unlock rfl HS.out.h HS.out.n
  have hgl := blk_lt HE.out.c
  have hk : Kp (fun q => q = g) w _ := (HK1.out.trans (Kp.of_below (S := fun _ => False) HB3.out) (fun _ _ e => e.elim)).trans hu.2 (fun _ _ e => e)
  refine ⟨v, (results_tmp (t := 2) rfl _ _ _).trans ?_, ⟨⟨v, ss, rfl, HP.out, own_mono (hu.2.owns HO.out (fun q hq e => ?_)) (by have h1 := HZ.out; have h2 := HZ2.out; omega)⟩, hu.1, hk⟩⟩
  · rfl
  · have h1 := (HO.out.lt q hq).1
    have h2 := HZ2.out
    omega
end
section
open Go.RowKit Go
set_option maxRecDepth 1000000 in
set_option maxHeartbeats 1000000 in
theorem grow_any (w : World) (n : Nat) (h0 : 0 < n) (hn : n ≤ 1000) :
    Calls Tryz.prog 217 #[.slice none 0 0, .int .i64 (n : Nat)] w fun e w' => ∃ v, e = .returned v ∧ w'.ownsRow w.heap.size 5 1 v 0 (bv []) ∧ Below w.heap.size w w' := by
  obtain ⟨i5, hi, hz0, hz1, hz2⟩ := info5_ex
  have hold : (Builtin.firstCells i5.size 0 (.slice none 0 0)).run Tryz.prog w.drew = .ok ([] : List Value).toArray w.drew := run_firstCells_none w.drew i5.size 0 0 0
  have hrz : ∀ ty, (Builtin.append_ #[39, 3] ty #[.slice none 0 0, .int .i64 (n : Nat)]).run Tryz.prog w = .ok (.slice (some ⟨w.heap.size, 0, none⟩) n (grownCap w n 0 5)) (w.drew.alloc (.cells (Builtin.zeroCells (Value.int .u8 0).cells n ++ Builtin.zeroCells (Value.int .u8 0).cells (grownCap w n 0 5 - n)) 5)) := fun ty => by
    have h := Lib.run_append_grow_zeros w 39 3 ty 5 i5 (.int .u8 0) .i64 .i64 Tryz.underlying39 Tryz.underlying3 hi hz0 none 0 0 [] hold n h0 (by rw [hz1]; omega) (by omega) (by omega) (by rw [hz2]; omega) (growslice_fits (by omega) (by rw [hz2]; omega))
    simpa using h
  have hG := grownCap_ge w n 0 5
  have hM := grownCap_le_maxLen w n 0 5 (by unfold maxLen; omega)
  have HO : Hid ((w.drew.alloc (.cells (Builtin.zeroCells (Value.int .u8 0).cells n ++ Builtin.zeroCells (Value.int .u8 0).cells (grownCap w n 0 5 - n)) 5)).ownsRow w.heap.size 5 1 (.slice (some ⟨w.heap.size, 0, none⟩) 0 (grownCap w n 0 5)) 0 (bv [])) := by
    refine ⟨rfl, .inr ⟨w.heap.size, grownCap w n 0 5, _, rfl, Nat.le_refl _, heap_alloc_new w.drew _, by omega, hM, ?_, by simp [bv]⟩⟩
    simp [Builtin.zeroCells, Value.cells]
    omega
  have HB : Hid (Below w.heap.size w (w.drew.alloc (.cells (Builtin.zeroCells (Value.int .u8 0).cells n ++ Builtin.zeroCells (Value.int .u8 0).cells (grownCap w n 0 5 - n)) 5))) := (Below.refl w.heap.size w).drew.alloc (Nat.le_refl _) _
  clear hold hi hz0 hz1 hz2
  have h1 : ¬ ((n : Int) < 0) := by omega
  have h4 : (n : Int) > 0 := by omega
  have hG63 : (grownCap w n 0 5 : Int) ≤ 9223372036854775807 := by unfold maxLen at hM; omega
  generalize grownCap w n 0 5 = G at *
  go_enter Tryz.func217, Tryz.ntmps217
  go_wp2_with (at_builtin; refine Lib.wpList_append_run _ rfl _ _ _ _ rfl _ _ rfl rfl _ _ (hrz _) ?_)
  go_ret
  exact ⟨_, rfl, HO.out, HB.out⟩
end
section
open Go.RowKit Go
structure Rws (w : World) (g : Nat) (vs : List Value) (xss : List (List Nat)) : Prop where
  n : vs.length = xss.length
  c : ∀ i, i < vs.length → w.cell? ⟨g, i, none⟩ = some (vs.getD i undef)
  b : ∀ i, i < vs.length → BSl w (vs.getD i undef) (xss.getD i [])
theorem Rws.below {w w' : World} {g : Nat} {vs : List Value} {xss : List (List Nat)} (h : Rws w g vs xss) (hb : Below w.heap.size w w') : Rws w' g vs xss :=
  ⟨h.n, fun i hi => keep_below hb _ _ (h.c i hi), fun i hi => (h.b i hi).move (keep_below hb)⟩
def fln (xss : List (List Nat)) (k : Nat) : Nat := (xss.take k).flatten.length
def fla (xss : List (List Nat)) (k : Nat) : List Nat := (xss.take k).flatten
theorem fla_len (xss : List (List Nat)) (k : Nat) : (fla xss k).length = fln xss k := rfl
theorem fla_succ (xss : List (List Nat)) (k : Nat) (hk : k < xss.length) : fla xss (k + 1) = fla xss k ++ xss.getD k [] := by
  unfold fla
  rw [List.take_succ_eq_append_getElem hk, List.flatten_append]
  simp [List.getD, hk]
theorem fln_succ (xss : List (List Nat)) (k : Nat) (hk : k < xss.length) : fln xss (k + 1) = fln xss k + (xss.getD k []).length := by
  rw [← fla_len, ← fla_len, fla_succ xss k hk, List.length_append]
theorem fln_le (xss : List (List Nat)) (k : Nat) : fln xss k ≤ fln xss xss.length := by
  unfold fln
  rw [List.take_length]
  conv => rhs; rw [← List.take_append_drop k xss, List.flatten_append, List.length_append]
  omega
set_option maxRecDepth 1000000 in
set_option maxHeartbeats 1000000 in
theorem concat_any (w : World) (g n : Nat) (vs : List Value) (xss : List (List Nat)) (hr : Rws w g vs xss) (hn : vs.length = n) (hn0 : n ≤ 100) (h0 : 0 < fln xss n) (hl : fln xss n ≤ 1000) :
    Calls Tryz.prog 153 #[.slice (some ⟨g, 0, none⟩) n n] w fun e w' => ∃ v, e = .returned v ∧ w'.ownsRow w.heap.size 5 1 v (fln xss n) (bv (fla xss n)) ∧ Below w.heap.size w w' := by
  have HR := hide hr
  have HN := hide hn
  have HL := hide hl
  have H0 := hide h0
  have HX : Hid (xss.length = n) := by have := hr.n; show _ = _; omega
  clear hr hn hl h0
  go_enter Tryz.func153, Tryz.ntmps153
  go_wp2_with fail
  go_loopw [3, 11] (fun ss ii wx => wx = w ∧ ∃ k : Nat, k ≤ n ∧ ii = .int .i64 (k : Nat) ∧ ss = .int .i64 (fln xss k : Nat)) (fun _ ii _ => n - (intOf ii).toNat)
  case atStart => exact ⟨rfl, 0, by omega, rfl, rfl⟩
  case round =>
    obtain ⟨rfl, k, hk, rfl, rfl⟩ := hrel
    by_cases hlt : k < n
    · have g1 : (k : Int) < (n : Int) := by omega
      have q1 := HR.out.c k (by have := HN.out; omega)
      have HB1 := hide (HR.out.b k (by have := HN.out; omega))
      have HF := hide (fln_succ xss k (by have := HX.out; omega))
      have HF2 := hide (fln_le xss (k + 1))
      obtain ⟨⟨a, cap, hv, _⟩, _, _⟩ := HB1.out
      rw [hv] at q1
      have g3 : fln xss k + (xss.getD k []).length ≤ 1000 := by have := HF2.out; rw [HF.out, HX.out] at this; have := HL.out; omega
      have HSU : Hid (fln xss k + (xss.getD k []).length = fln xss (k + 1)) := HF.out.symm
      clear hv HF HF2
      generalize fln xss k = s1 at *
      generalize (xss.getD k []).length = s3 at *
      have g2 : ¬ ((s1 : Int) + (s3 : Int) < 0) := by omega
      go_wp2_with fail
      go_roundw
      case rel => exact ⟨trivial, k + 1, by omega, by go_num, by have := HSU.out; congr 1; omega⟩
      case measure => simp [intOf]; omega
    · have hkn : k = n := by omega
      subst hkn
      have g1 : ¬ (k : Int) < (k : Int) := by omega
      generalize hS : fln xss k = S at *
      have HS := hide hS
      clear hS hlt
      have h1 := H0.out
      have h2 := HL.out
      go_wp2_with fail
      refine (grow_any wr S h1 h2).mono ?_
      rintro e w1 ⟨v1, rfl, ho1, hb1⟩
      have HO1 := hide ho1
      have HB1 := hide hb1
      clear ho1 hb1
      obtain ⟨a1, c1, hv1, _⟩ := own_form HO1.out
      subst hv1
      go_wp2_with fail
      go_loopw [6, 27] (fun vv ii wx => ∃ j : Nat, j ≤ k ∧ ii = .int .i64 (j : Nat) ∧ Hid (wx.ownsRow wr.heap.size 5 1 vv (fln xss j) (bv (fla xss j))) ∧ Hid (Below wr.heap.size wr wx)) (fun _ ii _ => k - (intOf ii).toNat)
      case atStart => exact ⟨0, by omega, rfl, HO1, HB1⟩
      case round => as_aux_lemma =>
        rename World => wz
        obtain ⟨j, hj, rfl, HO, HB⟩ := hrel
        clear HO1 HB1
        by_cases hjl : j < k
        · have g5 : (j : Int) < (k : Int) := by omega
          have HR2 := hide (HR.out.below HB.out)
          have q1 := HR2.out.c j (by have := HN.out; omega)
          have HBL := hide (HR2.out.b j (by have := HN.out; omega))
          have HF := hide (fln_succ xss j (by have := HX.out; omega))
          have HFA := hide (fla_succ xss j (by have := HX.out; omega))
          have HF2 : Hid (fln xss (j + 1) ≤ 1000) := by have := fln_le xss (j + 1); rw [HX.out, HS.out] at this; exact Nat.le_trans this HL.out
          obtain ⟨⟨a, cap, hv, _⟩, _, _⟩ := HBL.out
          rw [hv] at q1 HBL
          obtain ⟨a2, c2, hv2, _⟩ := own_form HO.out
          subst hv2
          have HZ : Hid (fln xss j + (xss.getD j []).length ≤ 140737488355328) := by have := HF2.out; rw [HF.out] at this; show _ ≤ _; omega
          clear hv HR2
          go_wp2_with (at_builtin; refine append_bsl rfl _ _ rfl wr.heap.size _ (fln xss j) (fla xss j) rfl HO.out _ (xss.getD j []) rfl HBL.out HZ.out HB.out.size ?_)
          intro v7 w7 ho7 hg7
          have HB7 : Hid (Below wr.heap.size wr w7) := HB.out.grown hg7 HB.out.size (fun g hg => (HO.out.lt g hg).1)
          have HO7 : Hid (w7.ownsRow wr.heap.size 5 1 v7 (fln xss (j + 1)) (bv (fla xss (j + 1)))) := by show World.ownsRow _ _ _ _ _ _ _; rw [HF.out, HFA.out]; exact ho7
          clear ho7 hg7 HO HB HBL HF HFA HF2 HZ
          go_wp2_with fail
          go_roundw
          case rel => exact ⟨j + 1, by omega, by go_num, HO7, HB7⟩
          case measure => simp [intOf]; omega
        · have hjk : j = k := by omega
          subst hjk
          have g5 : ¬ (j : Int) < (j : Int) := by omega
          have ho := HO.out
          rw [HS.out] at ho
          obtain ⟨a2, c2, hv2, _⟩ := own_form ho
          subst hv2
          have HO2 := hide ho
          clear ho HO
          go_wp2_with fail
          go_ret
          exact ⟨_, rfl, by rw [HS.out]; exact HO2.out, HB.out⟩
end
end Go.Proofs.YtnkghcndaafmoaaGreatDoor
