import Derived.Test.YtnkghcndaafmoaaGreatDoorJqz
import Derived.Lib.SlBytesConst
import Derived.Test.YtnkghcndaafmoaaGreatDoorJqy
import Derived.Test.YtnkghcndaafmoaaGreatDoorJqo
import Derived.Test.YtnkghcndaafmoaaGreatDoorJqt
import Derived.Sort.KeysCollected
namespace Go.Proofs.YtnkghcndaafmoaaGreatDoor
section
open Go.RowKit Go
structure Nst (w wx : World) (g B r : Nat) (L : List Blk) : Prop where
  s : Sto wx g B r L
  b : Below w.heap.size w wx
  g : w.heap.size ≤ g
  m : w.heap.size ≤ B
theorem Nst.next {w wx wy : World} {g B r : Nat} {L : List Blk} (h : Nst w wx g B r L) (hb : Below wx.heap.size wx wy) : Nst w wy g B r L := ⟨h.s.next hb, h.b.trans (hb.mono h.b.size), h.g, h.m⟩
theorem Nst.of {w wx wy : World} {g B r : Nat} {L M : List Blk} (h : Nst w wx g B r L) (hs : Sto wy g B r M) (hk : Kp (fun q => q = g ∨ q = B) wx wy) : Nst w wy g B r M := ⟨hs, h.b.trans (hk.below h.b.size (fun q e => by have h1 := h.g; have h2 := h.m; rcases e with e | e <;> omega)), h.g, h.m⟩
theorem Nst.cb {w wx : World} {g B r : Nat} {L : List Blk} (h : Nst w wx g B r L) (hc : Cb w) : ∀ wy, Kp (fun q => q = g) wx wy → Cb wy := fun _ hy => hc.below (h.b.trans (hy.below h.b.size (fun q e => by have h1 := h.g; omega)))
theorem litc (w : World) (c : Int) : Sem.run Tryz.prog (convert 39 39 (.slice (some ⟨w.heap.size, 0, none⟩) 1 1)) (w.alloc (.cells #[.int .u8 c] 5)) = .ok (.slice (some ⟨w.heap.size, 0, none⟩) 1 1) (w.alloc (.cells #[.int .u8 c] 5 (1, 2))) := Lib.run_convert_bytes_const (P := Tryz.prog) w 39 5 #[.int .u8 c] 1 1 Tryz.underlying39 Tryz.underlying5
theorem bsl_blk {w : World} {g : Nat} {c : Nat} {t : TypeId} {fr : Nat × Nat} (h : w.heap[g]? = some (.cells #[.int .u8 (c : Nat)] t fr)) (hc : c < 256) : BSl w (.slice (some ⟨g, 0, none⟩) 1 1) [c] := by
  refine ⟨⟨_, 1, rfl, ⟨Nat.le_refl _, fun h => by cases h⟩, .inr ⟨g, 0, rfl, fun j hj => ?_⟩⟩, by simp, by simpa using hc⟩
  obtain rfl : j = 0 := by simp at hj; omega
  simp [World.cell?, h]
theorem bsl_keep {w : World} {g p c : Nat} {t : TypeId} {fr : Nat × Nat} (h : w.heap[p]? = some (.cells #[.int .u8 (c : Nat)] t fr)) (hp : p ≠ g) (hc : c < 256) : ∀ wy, Kp (fun q => q = g) w wy → BSl wy (.slice (some ⟨p, 0, none⟩) 1 1) [c] := fun _ hy => bsl_blk ((hy.block _ (blk_lt h) hp).trans h) hc
theorem KSl.one {w : World} {g p : Nat} {l : Lk} {b : List Nat} {vb : Value} (h : w.heap[p]? = some (.cells (bcs (l, b) vb) 60 (0, 0))) (hp : p ≠ g) (hb : ∀ wy, Kp (fun q => q = g) w wy → BSl wy vb b) (hl : Lkx l) (hn : b.length ≤ 140737488351232) : ∀ wy, Kp (fun q => q = g) w wy → KSl wy (.slice (some ⟨p, 0, none⟩) 1 1) [(l, b)] := fun wy hy => by
  refine ⟨⟨_, 1, rfl, ⟨Nat.le_refl _, fun h => by cases h⟩, .inr ⟨p, 0, rfl, fun i x hx => ?_⟩⟩, by simp⟩
  rcases i with _ | i
  · obtain rfl : (l, b) = x := by simpa using hx
    have hbk := (hy.block _ (blk_lt h) hp).trans h
    refine ⟨bcs (l, b) vb, ⟨⟨_, rfl, hb wy hy⟩, hl, hn⟩, fun j u hj => ?_⟩
    rw [show 0 + 0 * 5 + j = j by omega]
    exact blk_cell hbk hj
  · simp at hx
structure Wkl (w wx : World) (g B : Nat) (l : Lk) (p : Nat) : Prop where
  n : Nst w wx g B 1 [(l, [97])]
  lb : wx.heap[p]? = some (.cells (lcs l) 41 (0, 0))
theorem Wkl.next {w wx wy : World} {g B p : Nat} {l : Lk} (h : Wkl w wx g B l p) (hb : Below wx.heap.size wx wy) : Wkl w wy g B l p := ⟨h.n.next hb, (hb.block _ (blk_lt h.lb)).trans h.lb⟩
theorem Wkl.of {w wx wy : World} {g B p : Nat} {l : Lk} (h : Wkl w wx g B l p) (hs : Sto wy g B 1 [(l, [97])]) (hk : Kp (fun q => q = g ∨ q = B) wx wy) : Wkl w wy g B l p := ⟨h.n.of hs hk, (hk.block _ (blk_lt h.lb) (fun e => by
  rcases e with e | e
  · exact ne_of_type h.lb h.n.s.c (by decide) e
  · exact h.n.s.m.ne h.lb e)).trans h.lb⟩
structure Wkb (w wx : World) (g B : Nat) (l : Lk) (p : Nat) (v : Value) : Prop where
  l : Wkl w wx g B l p
  b : BSl wx v [97]
  o : ∀ k, v.ownBlock = some k → k ≠ g ∧ k ≠ B
theorem Wkb.next {w wx wy : World} {g B p : Nat} {l : Lk} {v : Value} (h : Wkb w wx g B l p v) (hb : Below wx.heap.size wx wy) : Wkb w wy g B l p v := ⟨h.l.next hb, h.b.move (keep_below hb), h.o⟩
theorem Wkb.of {w wx wy : World} {g B p : Nat} {l : Lk} {v : Value} (h : Wkb w wx g B l p v) (hs : Sto wy g B 1 [(l, [97])]) (hk : Kp (fun q => q = g ∨ q = B) wx wy) : Wkb w wy g B l p v := ⟨h.l.of hs hk, hk.bsl h.b (fun k e => by have := h.o k e; omega), h.o⟩
theorem aggLk (w : World) : (isAgg 41).run Tryz.prog w = .ok true w := by
  unfold isAgg
  rw [Sem.run_bind, run_underlying Tryz.underlying41 w]
  simp
theorem works_facts : ∃ l : Lk, Lkx l ∧ (⟨1, 85, 18, sha [97]⟩ : Lk) = l ∧ putr13 1 [] 85 [97] = ((l, 0), [(l, [97])]) ∧ getr13 [(l, [97])] l = ([97], 0) ∧ addr13 1 [(l, [97])] [(l, [98])] = ((0, 137), [(l, [97])]) ∧ putr13 1 [(l, [97])] 85 [99] = ((Lk.none, 135), [(l, [97])]) :=
  ⟨la13, ⟨⟨by decide, by decide, sha_byte [97], by show (sha [97]).length ≤ _; rw [sha_len]; decide⟩, by decide⟩, rfl, putr_a, getr_a, addr_b, putr_c⟩
set_option maxRecDepth 1000000 in
set_option maxHeartbeats 2000000 in
theorem works13_any (w : World) (hcb : Cb w) : Calls Tryz.prog 9 #[] w fun e w' => e = .returned (.bool true) ∧ Below w.heap.size w w' := by
  have HCB := hide hcb
  have HNW := hide (new13_any w 1 ⟨Nat.le_refl _, by decide⟩)
  have HNM : Hid (∀ (w : World) (n : Int), Calls Tryz.prog 8 #[.int .i64 n] w fun e w' => e = .returned (.int .i64 n) ∧ w' = w) := num13_any
  clear hcb
  go_enter Tryz.func9, Tryz.ntmps9
  go_upto_region 4 with (first
    | (go_at_call 7; refine HNW.out.mono ?_; rintro e w1 ⟨rfl, hp1⟩)
    | (go_at_call 8; refine (HNM.out _ _).mono ?_; rintro e wq ⟨rfl, rfl⟩))
  obtain ⟨l, hlx, hl1, hpa, hga, hab, hpc⟩ := works_facts
  have HLX := hide hlx
  have HL1 := hide hl1
  have HGA := hide hga
  have HAB := hide hab
  have HPC := hide hpc
  have HN1 : Hid (Nst w wq (w.heap.size + 1) w.heap.size 1 []) := ⟨hp1.out.1, hp1.out.2, by omega, Nat.le_refl _⟩
  generalize hgg : w.heap.size + 1 = g at *
  obtain ⟨B, hB⟩ : ∃ B, w.heap.size = B := ⟨_, rfl⟩
  rw [hB] at HN1
  have HGZ : Hid (g < wq.heap.size) := blk_lt HN1.out.s.c
  have HP1 : Hid (Calls Tryz.prog 12 #[.pointer (some ⟨g, 0, none⟩), .int .u64 85, .slice (some ⟨wq.heap.size, 0, none⟩) 1 1] (wq.alloc (.cells #[.int .u8 97] 5 (1, 2))) fun e w' => e = .returned (.tuple #[.agg #[.int .i64 l.v, .int .u64 (l.c : Nat), .int .u64 (l.h : Nat), .string (nstr l.d)], .int .i64 0]) ∧ Hid (Nst w w' g B 1 [(l, [97])])) := by
    have h := put13_any (wq.alloc (.cells #[.int .u8 97] 5 (1, 2))) g B 1 [] ((HN1.out.next (below_alloc4 wq _)).s) 85 (by decide) (.slice (some ⟨wq.heap.size, 0, none⟩) 1 1) [97] (bsl_keep (c := 97) (heap_alloc_new wq (.cells #[.int .u8 97] 5 (1, 2))) (by have := HGZ.out; omega) (by decide)) (by decide) ((HN1.out.next (below_alloc4 wq _)).cb (HCB.out))
    rw [hpa] at h
    refine h.mono ?_
    rintro e w' ⟨he, hs, hk⟩
    exact ⟨he, (HN1.out.next (below_alloc4 wq _)).of hs hk⟩
  clear hlx hl1 hpa hga hab hpc hp1 hgg hB
  have cv1 := litc wq 97
  go_upto_region 5 with (go_at_call 12; refine HP1.out.mono ?_; rintro e w3 ⟨rfl, hN3⟩)
  have HW4 : Hid (Wkl w (w3.alloc (.cells #[.int .i64 l.v, .int .u64 (l.c : Nat), .int .u64 (l.h : Nat), .string (nstr l.d)] 41)) g B l w3.heap.size) := ⟨hN3.out.next (below_alloc4 w3 _), heap_alloc_new w3 _⟩
  clear HP1 HN1 HGZ hN3 cv1
  generalize w3.alloc (.cells #[.int .i64 l.v, .int .u64 (l.c : Nat), .int .u64 (l.h : Nat), .string (nstr l.d)] 41) = w4 at *
  generalize w3.heap.size = p at *
  have HG4 : Hid (Calls Tryz.prog 30 #[.pointer (some ⟨g, 0, none⟩), .agg #[.int .i64 l.v, .int .u64 (l.c : Nat), .int .u64 (l.h : Nat), .string (nstr l.d)]] w4 fun e w' => ∃ (a : Option Addr) (cap : Nat), e = .returned (.tuple #[.slice a 1 cap, .int .i64 0]) ∧ Hid (Wkb w w' g B l p (.slice a 1 cap))) := by
    have h := get13_any w4 g B 1 [(l, [97])] HW4.out.n.s l HLX.out (HW4.out.n.cb HCB.out)
    refine h.mono ?_
    rintro e w' ⟨⟨v, he, hb, ho⟩, hs, hk⟩
    rw [HGA.out] at he hb
    have hb2 := hb
    obtain ⟨⟨a, cap, rfl, -, -⟩, -⟩ := hb2
    exact ⟨a, cap, he, HW4.out.of hs (hk.mono (fun _ _ e => .inl e)), hb, fun k hk2 => by
      have h1 := (ho k hk2).1
      have h2 := blk_lt HW4.out.n.s.c
      have h3 := HW4.out.n.s.m.lt
      omega⟩
  have d0 : w4.cell? ⟨p, 0, none⟩ = some (.int .i64 l.v) := blk_cell (j := 0) HW4.out.lb rfl
  have d1 : w4.cell? ⟨p, 1, none⟩ = some (.int .u64 (l.c : Nat)) := blk_cell (j := 1) HW4.out.lb rfl
  have d2 : w4.cell? ⟨p, 2, none⟩ = some (.int .u64 (l.h : Nat)) := blk_cell (j := 2) HW4.out.lb rfl
  have d3 : w4.cell? ⟨p, 3, none⟩ = some (.string (nstr l.d)) := blk_cell (j := 3) HW4.out.lb rfl
  go_upto_region 6 with (go_at_call 30; refine HG4.out.mono ?_; rintro e w5 ⟨a, cap, rfl, HW5⟩)
  clear d0 d1 d2 d3 HW4 HG4
  have d0 : w5.cell? ⟨p, 0, none⟩ = some (.int .i64 l.v) := blk_cell (j := 0) HW5.out.l.lb rfl
  have d1 : w5.cell? ⟨p, 1, none⟩ = some (.int .u64 (l.c : Nat)) := blk_cell (j := 1) HW5.out.l.lb rfl
  have d2 : w5.cell? ⟨p, 2, none⟩ = some (.int .u64 (l.h : Nat)) := blk_cell (j := 2) HW5.out.l.lb rfl
  have d3 : w5.cell? ⟨p, 3, none⟩ = some (.string (nstr l.d)) := blk_cell (j := 3) HW5.out.l.lb rfl
  have cv2 := litc w5 98
  have hz5 : (w5.alloc (.cells #[.int .u8 98] 5 (1, 2))).heap.size = w5.heap.size + 1 := by simp
  have HB6 : Hid (Below w5.heap.size w5 ((w5.alloc (.cells #[.int .u8 98] 5 (1, 2))).alloc (.cells #[.int .i64 l.v, .int .u64 (l.c : Nat), .int .u64 (l.h : Nat), .string (nstr l.d), .slice (some ⟨w5.heap.size, 0, none⟩) 1 1] 60))) := (below_alloc4 w5 _).trans ((below_alloc4 _ _).mono (by rw [hz5]; omega))
  have HW6 := hide (HW5.out.next HB6.out)
  have HGZ5 : Hid (g < w5.heap.size) := blk_lt HW5.out.l.n.s.c
  have HA6 : Hid (Calls Tryz.prog 16 #[.pointer (some ⟨g, 0, none⟩), .slice (some ⟨w5.heap.size + 1, 0, none⟩) 1 1] ((w5.alloc (.cells #[.int .u8 98] 5 (1, 2))).alloc (.cells #[.int .i64 l.v, .int .u64 (l.c : Nat), .int .u64 (l.h : Nat), .string (nstr l.d), .slice (some ⟨w5.heap.size, 0, none⟩) 1 1] 60)) fun e w' => e = .returned (.tuple #[.int .i64 0, .int .i64 137]) ∧ Hid (Wkb w w' g B l p (.slice a 1 cap))) := by
    have hnew := heap_alloc_new (w5.alloc (.cells #[.int .u8 98] 5 (1, 2))) (.cells #[.int .i64 l.v, .int .u64 (l.c : Nat), .int .u64 (l.h : Nat), .string (nstr l.d), .slice (some ⟨w5.heap.size, 0, none⟩) 1 1] 60)
    rw [hz5] at hnew
    have hg5 := HGZ5.out
    have hby := blk_alloc (.cells #[.int .i64 l.v, .int .u64 (l.c : Nat), .int .u64 (l.h : Nat), .string (nstr l.d), .slice (some ⟨w5.heap.size, 0, none⟩) 1 1] 60) (heap_alloc_new w5 (.cells #[.int .u8 98] 5 (1, 2)))
    have h := Adds13_any ((w5.alloc (.cells #[.int .u8 98] 5 (1, 2))).alloc (.cells #[.int .i64 l.v, .int .u64 (l.c : Nat), .int .u64 (l.h : Nat), .string (nstr l.d), .slice (some ⟨w5.heap.size, 0, none⟩) 1 1] 60)) g B 1 [(l, [97])] HW6.out.l.n.s (.slice (some ⟨w5.heap.size + 1, 0, none⟩) 1 1) [(l, [98])] (KSl.one (b := [98]) hnew (by omega) (bsl_keep (c := 98) hby (by omega) (by decide)) HLX.out (by decide)) (by simp) (HW6.out.l.n.cb HCB.out)
    rw [HAB.out] at h
    refine h.mono ?_
    rintro e w' ⟨he, hs, hk⟩
    exact ⟨he, HW6.out.of hs hk⟩
  clear hz5 HB6 HW6 HW5
  go_upto_region 7 with (go_at_call 16; refine HA6.out.mono ?_; rintro e w7 ⟨rfl, HW7⟩)
  clear d0 d1 d2 d3 HA6 cv2 HGZ5
  have cv3 := litc w7 99
  have HW8 := hide (HW7.out.next (below_alloc4 w7 (.cells #[.int .u8 99] 5 (1, 2))))
  have HGZ7 : Hid (g < w7.heap.size) := blk_lt HW7.out.l.n.s.c
  have HP8 : Hid (Calls Tryz.prog 12 #[.pointer (some ⟨g, 0, none⟩), .int .u64 85, .slice (some ⟨w7.heap.size, 0, none⟩) 1 1] (w7.alloc (.cells #[.int .u8 99] 5 (1, 2))) fun e w' => e = .returned (.tuple #[.agg #[.int .i64 0, .int .u64 0, .int .u64 0, .string ⟨#[]⟩], .int .i64 135]) ∧ Hid (Wkb w w' g B l p (.slice a 1 cap))) := by
    have h := put13_any (w7.alloc (.cells #[.int .u8 99] 5 (1, 2))) g B 1 [(l, [97])] HW8.out.l.n.s 85 (by decide) (.slice (some ⟨w7.heap.size, 0, none⟩) 1 1) [99] (bsl_keep (c := 99) (heap_alloc_new w7 (.cells #[.int .u8 99] 5 (1, 2))) (by have := HGZ7.out; omega) (by decide)) (by decide) (HW8.out.l.n.cb HCB.out)
    rw [HPC.out] at h
    refine h.mono ?_
    rintro e w' ⟨he, hs, hk⟩
    exact ⟨he, HW8.out.of hs hk⟩
  clear HW7 HW8 HGZ7
  go_upto_region 8 with (go_at_call 12; refine HP8.out.mono ?_; rintro e w9 ⟨rfl, HW9⟩)
  have HWa := hide (HW9.out.next (below_alloc4 w9 (.cells #[.int .i64 0, .int .u64 0, .int .u64 0, .string ⟨#[]⟩] 41)))
  clear HP8 HW9 cv3
  generalize w9.alloc (.cells #[.int .i64 0, .int .u64 0, .int .u64 0, .string ⟨#[]⟩] 41) = wa at *
  refine heldStart (S := fun wq => Wkb w wq g B l p (.slice a 1 cap)) (by kernel_rfl) ?_
  have hS : Wkb w wa.drew g B l p (.slice a 1 cap) := HWa.out.next (Below.drew (Below.refl _ _))
  refine heldTake 0 _ rfl (by kernel_rfl) (by kernel_rfl) (by kernel_rfl) (fun _ _ _ h => h) rfl hS (fun wy hy => by first | (go_simp; done) | (go_simp; rfl) | rfl) ?_
  (try simp only [Act.put]); (try simp only [LsA, Ls0, LsS])
  refine heldStep 1 rfl (by kernel_rfl) (fun K hK => ?_)
  go_simp
  refine (HNM.out _ _).mono ?_
  rintro e wq1 ⟨rfl, rfl⟩
  refine (Hid.out hK) _ _ hS (fun hS2 => ?_)
  clear hK K hS
  have hS := hS2
  clear hS2
  (try simp only [Act.put]); (try simp only [LsA, Ls0, LsS])
  refine heldTake 2 _ rfl (by kernel_rfl) (by kernel_rfl) (by kernel_rfl) (fun _ _ _ h => h) rfl hS (fun wy hy => by first | (go_simp; done) | (go_simp; rfl) | rfl) ?_
  (try simp only [Act.put]); (try simp only [LsA, Ls0, LsS])
  refine heldTake 3 _ rfl (by kernel_rfl) (by kernel_rfl) (by kernel_rfl) (fun _ _ _ h => h) rfl hS (fun wy hy => by first | (go_simp; done) | (go_simp; rfl) | rfl) ?_
  (try simp only [Act.put]); (try simp only [LsA, Ls0, LsS])
  refine heldTake 4 _ rfl (by kernel_rfl) (by kernel_rfl) (by kernel_rfl) (fun _ _ _ h => h) rfl hS (fun wy hy => by first | (go_simp; done) | (go_simp; rfl) | rfl) ?_
  (try simp only [Act.put]); (try simp only [LsA, Ls0, LsS])
  refine heldStep 5 rfl (by kernel_rfl) (fun K hK => ?_)
  go_simp
  refine (HNM.out _ _).mono ?_
  rintro e wq2 ⟨rfl, rfl⟩
  refine (Hid.out hK) _ _ hS (fun hS2 => ?_)
  clear hK K hS
  have hS := hS2
  clear hS2
  (try simp only [Act.put]); (try simp only [LsA, Ls0, LsS])
  refine heldTake 6 _ rfl (by kernel_rfl) (by kernel_rfl) (by kernel_rfl) (fun _ _ _ h => h) rfl hS (fun wy hy => by first | (go_simp; done) | (go_simp; rfl) | rfl) ?_
  (try simp only [Act.put]); (try simp only [LsA, Ls0, LsS])
  refine heldTake 7 _ rfl (by kernel_rfl) (by kernel_rfl) (by kernel_rfl) (fun _ _ _ h => h) rfl hS (fun wy hy => by first | (go_simp; done) | (go_simp; rfl) | rfl) ?_
  (try simp only [Act.put]); (try simp only [LsA, Ls0, LsS])
  refine heldTake 8 _ rfl (by kernel_rfl) (by kernel_rfl) (by kernel_rfl) (fun _ _ _ h => h) rfl hS (fun wy hy => by first | (go_simp; done) | (go_simp; rfl) | rfl) ?_
  (try simp only [Act.put]); (try simp only [LsA, Ls0, LsS])
  refine heldTake 9 _ rfl (by kernel_rfl) (by kernel_rfl) (by kernel_rfl) (fun _ _ _ h => h) rfl hS (fun wy hy => by first | (go_simp; done) | (go_simp; rfl) | rfl) ?_
  (try simp only [Act.put]); (try simp only [LsA, Ls0, LsS])
  refine heldTake 10 _ rfl (by kernel_rfl) (by kernel_rfl) (by kernel_rfl) (fun _ _ _ h => h) rfl hS (fun wq hq => by have h0 := hq.b.text; rw [show nstr [97] = ⟨#[97]⟩ from rfl] at h0; first | (go_simp; done) | (go_simp; rfl) | rfl) ?_
  (try simp only [Act.put]); (try simp only [LsA, Ls0, LsS])
  refine heldTake 11 _ rfl (by kernel_rfl) (by kernel_rfl) (by kernel_rfl) (fun _ _ _ h => h) rfl hS (fun wy hy => by first | (go_simp; done) | (go_simp; rfl) | rfl) ?_
  (try simp only [Act.put]); (try simp only [LsA, Ls0, LsS])
  refine heldTake 12 _ rfl (by kernel_rfl) (by kernel_rfl) (by kernel_rfl) (fun _ _ _ h => h) rfl hS (fun wy hy => by first | (go_simp; done) | (go_simp; rfl) | rfl) ?_
  (try simp only [Act.put]); (try simp only [LsA, Ls0, LsS])
  refine heldTake 13 _ rfl (by kernel_rfl) (by kernel_rfl) (by kernel_rfl) (fun _ _ _ h => h) rfl hS (fun wy hy => by first | (go_simp; done) | (go_simp; rfl) | rfl) ?_
  (try simp only [Act.put]); (try simp only [LsA, Ls0, LsS])
  refine heldTake 14 _ rfl (by kernel_rfl) (by kernel_rfl) (by kernel_rfl) (fun _ _ _ h => h) rfl hS (fun wy hy => by first | (go_simp; done) | (go_simp; rfl) | rfl) ?_
  (try simp only [Act.put]); (try simp only [LsA, Ls0, LsS])
  refine heldStep 15 rfl (by kernel_rfl) (fun K hK => ?_)
  go_simp
  refine (HNM.out _ _).mono ?_
  rintro e wq3 ⟨rfl, rfl⟩
  refine (Hid.out hK) _ _ hS (fun hS2 => ?_)
  clear hK K hS
  have hS := hS2
  clear hS2
  (try simp only [Act.put]); (try simp only [LsA, Ls0, LsS])
  refine heldTake 16 _ rfl (by kernel_rfl) (by kernel_rfl) (by kernel_rfl) (fun _ _ _ h => h) rfl hS (fun wy hy => by first | (go_simp; done) | (go_simp; rfl) | rfl) ?_
  (try simp only [Act.put]); (try simp only [LsA, Ls0, LsS])
  refine heldTake 17 _ rfl (by kernel_rfl) (by kernel_rfl) (by kernel_rfl) (fun _ _ _ h => h) rfl hS (fun wy hy => by first | (go_simp; done) | (go_simp; rfl) | rfl) ?_
  (try simp only [Act.put]); (try simp only [LsA, Ls0, LsS])
  refine heldTake 18 _ rfl (by kernel_rfl) (by kernel_rfl) (by kernel_rfl) (fun _ _ _ h => h) rfl hS (fun wy hy => by first | (go_simp; done) | (go_simp; rfl) | rfl) ?_
  (try simp only [Act.put]); (try simp only [LsA, Ls0, LsS])
  refine heldTake 19 _ rfl (by kernel_rfl) (by kernel_rfl) (by kernel_rfl) (fun _ _ _ h => h) rfl hS (fun wy hy => by first | (go_simp; done) | (go_simp; rfl) | rfl) ?_
  (try simp only [Act.put]); (try simp only [LsA, Ls0, LsS])
  refine heldStep 20 rfl (by kernel_rfl) (fun K hK => ?_)
  go_simp
  refine (HNM.out _ _).mono ?_
  rintro e wq4 ⟨rfl, rfl⟩
  refine (Hid.out hK) _ _ hS (fun hS2 => ?_)
  clear hK K hS
  have hS := hS2
  clear hS2
  (try simp only [Act.put]); (try simp only [LsA, Ls0, LsS])
  refine heldTake 21 _ rfl (by kernel_rfl) (by kernel_rfl) (by kernel_rfl) (fun _ _ _ h => h) rfl hS (fun wy hy => by first | (go_simp; done) | (go_simp; rfl) | rfl) ?_
  (try simp only [Act.put]); (try simp only [LsA, Ls0, LsS])
  refine heldTake 22 _ rfl (by kernel_rfl) (by kernel_rfl) (by kernel_rfl) (fun _ _ _ h => h) rfl hS (fun wy hy => by first | (go_simp; done) | (go_simp; rfl) | rfl) ?_
  (try simp only [Act.put]); (try simp only [LsA, Ls0, LsS])
  refine heldTake 23 _ rfl (by kernel_rfl) (by kernel_rfl) (by kernel_rfl) (fun _ _ _ h => h) rfl hS (fun wy hy => by first | (go_simp; done) | (go_simp; rfl) | rfl) ?_
  (try simp only [Act.put]); (try simp only [LsA, Ls0, LsS])
  refine heldTake 24 _ rfl (by kernel_rfl) (by kernel_rfl) (by kernel_rfl) (fun _ _ _ h => h) rfl hS (fun wy hy => by first | (go_simp; done) | (go_simp; rfl) | rfl) ?_
  (try simp only [Act.put]); (try simp only [LsA, Ls0, LsS])
  refine heldStep 25 rfl (by kernel_rfl) (fun K hK => ?_)
  go_simp
  refine (len13_any _ g B 1 _ hS.l.n.s).mono ?_
  rintro e wl ⟨rfl, hsl, hkl⟩
  have hSl : Wkb w wl g B l p (.slice a 1 cap) := hS.of hsl (hkl.mono (fun _ _ e => .inl e))
  rw [show (([(l, [97])] : List Blk).length : Int) = 1 from rfl]
  refine (Hid.out hK) _ _ hSl (fun hS2 => ?_)
  clear hK K hS
  have hS := hS2
  clear hS2
  (try simp only [Act.put]); (try simp only [LsA, Ls0, LsS])
  have HSL := hide hSl
  clear hsl hkl hSl
  refine heldTake 26 _ rfl (by kernel_rfl) (by kernel_rfl) (by kernel_rfl) (fun _ _ _ h => h) rfl hS (fun wy hy => by first | (go_simp; done) | (go_simp; rfl) | rfl) ?_
  (try simp only [Act.put]); (try simp only [LsA, Ls0, LsS])
  refine heldTake 27 _ rfl (by kernel_rfl) (by kernel_rfl) (by kernel_rfl) (fun _ _ _ h => h) rfl hS (fun wy hy => by first | (go_simp; done) | (go_simp; rfl) | rfl) ?_
  (try simp only [Act.put]); (try simp only [LsA, Ls0, LsS])
  refine heldTake 28 _ rfl (by kernel_rfl) (by kernel_rfl) (by kernel_rfl) (fun _ _ _ h => h) rfl hS (fun wy hy => by first | (go_simp; done) | (go_simp; rfl) | rfl) ?_
  (try simp only [Act.put]); (try simp only [LsA, Ls0, LsS])
  refine heldTake 29 _ rfl (by kernel_rfl) (by kernel_rfl) (by kernel_rfl) (fun _ _ _ h => h) rfl hS (fun wq hq => exec_aggAt (g := p) (off := 0) (cs := #[.int .i64 l.v, .int .u64 (l.c : Nat), .int .u64 (l.h : Nat), .string (nstr l.d)]) info61 aggLk rfl rfl rfl (fun j u hj => by rw [Nat.zero_add]; exact blk_cell hq.l.lb hj)) ?_
  (try simp only [Act.put]); (try simp only [LsA, Ls0, LsS])
  refine heldStep 30 rfl (by kernel_rfl) (fun K hK => ?_)
  go_simp
  have hS5 : Wkb w (wl.alloc (.cells #[.int .u8 97] 5)) g B l p (.slice a 1 cap) := HSL.out.next (below_alloc4 wl _)
  refine (Hid.out hK) _ _ hS5 (fun hS2 => ?_)
  clear hK K hS
  have hS := hS2
  clear hS2
  (try simp only [Act.put]); (try simp only [LsA, Ls0, LsS])
  have cv4 := litc wl 97
  refine heldStep 31 rfl (by kernel_rfl) (fun K hK => ?_)
  go_simp
  have hS6 : Wkb w (wl.alloc (.cells #[.int .u8 97] 5 (1, 2))) g B l p (.slice a 1 cap) := HSL.out.next (below_alloc4 wl _)
  refine (Hid.out hK) _ _ hS6 (fun hS2 => ?_)
  clear hK K hS
  have hS := hS2
  clear hS2
  (try simp only [Act.put]); (try simp only [LsA, Ls0, LsS])
  refine heldStep 32 rfl (by kernel_rfl) (fun K hK => ?_)
  go_simp
  have HNA : Hid (Calls Tryz.prog 32 #[.int .u64 85, .slice (some ⟨wl.heap.size, 0, none⟩) 1 1] (wl.alloc (.cells #[.int .u8 97] 5 (1, 2))) fun e w' => e = .returned (.agg #[.int .i64 l.v, .int .u64 (l.c : Nat), .int .u64 (l.h : Nat), .string (nstr l.d)]) ∧ Below (wl.alloc (.cells #[.int .u8 97] 5 (1, 2))).heap.size (wl.alloc (.cells #[.int .u8 97] 5 (1, 2))) w') := by
    have h := name13_any (wl.alloc (.cells #[.int .u8 97] 5 (1, 2))) 85 (.slice (some ⟨wl.heap.size, 0, none⟩) 1 1) [97] (bsl_blk (c := 97) (heap_alloc_new wl (.cells #[.int .u8 97] 5 (1, 2))) (by decide)) (by decide)
    rw [HL1.out] at h
    exact h
  refine HNA.out.mono ?_
  rintro e wm ⟨rfl, hbm⟩
  have hS7 : Wkb w wm g B l p (.slice a 1 cap) := hS.next hbm
  refine (Hid.out hK) _ _ hS7 (fun hS2 => ?_)
  clear hK K hS
  have hS := hS2
  clear hS2
  (try simp only [Act.put]); (try simp only [LsA, Ls0, LsS])
  have HEQ : Hid (∀ wq, (Op.equalIn 10000 41 (.agg #[.int .i64 l.v, .int .u64 (l.c : Nat), .int .u64 (l.h : Nat), .string (nstr l.d)]) (.agg #[.int .i64 l.v, .int .u64 (l.c : Nat), .int .u64 (l.h : Nat), .string (nstr l.d)])).run Tryz.prog wq = .ok true wq) := fun wq => by
    have h := eqlk wq (a := l) (b := l) HLX.out.d HLX.out.d
    rw [decide_eq_true rfl] at h
    exact h
  refine heldTake 33 _ rfl (by kernel_rfl) (by kernel_rfl) (by kernel_rfl) (fun _ _ _ h => h) rfl hS (fun wq hq => exec_eqlk rfl rfl rfl (HEQ.out wq)) ?_
  (try simp only [Act.put]); (try simp only [LsA, Ls0, LsS])
  refine heldTake 34 _ rfl (by kernel_rfl) (by kernel_rfl) (by kernel_rfl) (fun _ _ _ h => h) rfl hS (fun wy hy => by first | (go_simp; done) | (go_simp; rfl) | rfl) ?_
  (try simp only [Act.put]); (try simp only [LsA, Ls0, LsS])
  refine heldTake 35 _ rfl (by kernel_rfl) (by kernel_rfl) (by kernel_rfl) (fun _ _ _ h => h) rfl hS (fun wy hy => by first | (go_simp; done) | (go_simp; rfl) | rfl) ?_
  simp only [Act.put]
  simp only [List.setIfInBounds_toArray, List.set_cons_zero]
  refine heldDone (by kernel_rfl) ?_
  have HBE := hide hS.l.n.b
  clear hS hS5 hS6 hS7 hbm
  go_wp2_with fail
  go_ret
  exact ⟨rfl, HBE.out⟩
end
section
open Go.RowKit Go
def blk4 (i : Nat) : List Nat := [i % 256, i / 256 % 256, i / 65536 % 256, 107]
end
section
open Go.RowKit Go.Maps Go
theorem kll_same {a b : Lk} (ha : Lkx a) (hb : Lkx b) : (kll a).sameKey (kll b) = decide (a = b) := by
  rw [Bool.eq_iff_iff, decide_eq_true_iff]
  constructor
  · intro h
    refine kll_inj ha hb ?_
    unfold kll at h ⊢
    simpa [Lit.sameKey] using h
  · rintro rfl
    unfold kll
    simp [Lit.sameKey]
def LCol (D0 : DataW Unit) (left : Lit → Bool) (ss : List Lk) : Prop := ss.Nodup ∧ (∀ x ∈ ss, Lkx x) ∧ ∀ x, Lkx x → (x ∈ ss ↔ (has D0 (kll x) = true ∧ left (kll x) = false))
theorem LCol.start (D0 : DataW Unit) : LCol D0 (has D0) [] := ⟨List.nodup_nil, fun _ h => (nomatch h), fun x _ => by cases h : has D0 (kll x) <;> simp⟩
theorem LCol.step {D0 : DataW Unit} {left : Lit → Bool} {ss : List Lk} (h : LCol D0 left ss) {x : Lk} (hx : Lkx x) {y : DataW Unit} (hlk : left (kll x) = true) (hat : ∀ zd, D0.atKey (kll x) zd = y) : LCol D0 (fun z => left z && !z.sameKey (kll x)) (ss ++ [x]) := by
  have hhas : has D0 (kll x) = true := has_true_of_atKey hat
  have hn : x ∉ ss := fun hm => by
    have := ((h.2.2 x hx).1 hm).2
    rw [hlk] at this
    cases this
  refine ⟨?_, fun z hz => ?_, fun z hz => ?_⟩
  · rw [List.nodup_append]
    exact ⟨h.1, by simp, fun a ha b hb => by
      rw [List.mem_singleton.1 hb]
      exact fun e => hn (e ▸ ha)⟩
  · rcases List.mem_append.1 hz with hz | hz
    · exact h.2.1 z hz
    · rw [List.mem_singleton.1 hz]
      exact hx
  · rw [List.mem_append, h.2.2 z hz, List.mem_singleton]
    show _ ↔ _ ∧ (left (kll z) && !(kll z).sameKey (kll x)) = false
    rw [kll_same hz hx]
    by_cases e : z = x
    · subst e
      simp [hhas]
    · simp [e]
theorem LCol.perm {w : World} {B : Nat} {L : List Blk} (h : Mlb w B L) {D0 : DataW Unit} (hD : ∀ l, Lkx l → has D0 (kll l) = (atB L l).isSome) {left : Lit → Bool} {ss : List Lk} (hc : LCol D0 left ss) (hl : ∀ kl, left kl = false) : ss.Perm (L.map (·.1)) := by
  refine (List.perm_ext_iff_of_nodup hc.1 h.nd).2 fun x => ?_
  constructor
  · intro hm
    have hx := hc.2.1 x hm
    have h1 := ((hc.2.2 x hx).1 hm).1
    rw [hD x hx] at h1
    obtain ⟨b, hb⟩ := Option.isSome_iff_exists.1 h1
    exact List.mem_map.2 ⟨(x, b), atB_mem hb, rfl⟩
  · intro hm
    obtain ⟨p, hp, rfl⟩ := List.mem_map.1 hm
    have hx := (h.ok p hp).l
    refine (hc.2.2 _ hx).2 ⟨?_, hl _⟩
    rw [hD _ hx]
    cases hg : atB L p.1 with
    | none => exact absurd (List.mem_map.2 ⟨p, hp, rfl⟩) (atB_none.1 hg)
    | some b => rfl
end
end Go.Proofs.YtnkghcndaafmoaaGreatDoor
