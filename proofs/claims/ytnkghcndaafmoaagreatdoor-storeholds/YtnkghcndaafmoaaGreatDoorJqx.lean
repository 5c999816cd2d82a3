import Derived.Test.YtnkghcndaafmoaaGreatDoorJqt
import Derived.Test.YtnkghcndaafmoaaGreatDoorJqp
import Derived.Test.YtnkghcndaafmoaaGreatDoorJqw
namespace Go.Proofs.YtnkghcndaafmoaaGreatDoor
section
open Go.RowKit Go
theorem lof_lkb {c : Nat} (b : List Nat) (hc : c < 18446744073709551616) : Lkb (lof c b).1 := by
  unfold lof
  split
  · exact ⟨hc, by simp, sha_byte b, by simp only [sha_len]; decide⟩
  · exact ⟨by simp [Lk.none], by simp [Lk.none], by simp [Lk.none], by simp [Lk.none]⟩
set_option maxRecDepth 1000000 in
set_option maxHeartbeats 1000000 in
theorem of_any (w : World) (c : Nat) (vb : Value) (b : List Nat) (hcb : Cb w) (hb : BSl w vb b) (hbl : b.length ≤ 140737488351232) :
    Calls Tryz.prog 35 #[.int .u64 (c : Nat), vb] w fun e w' => e = .returned (.tuple #[lkv (lof c b).1, .int .i64 ((lof c b).2 : Nat)]) ∧ Below w.heap.size w w' := by
  have HB := hide hb
  have HBL := hide hbl
  have HCB := hide hcb
  obtain ⟨⟨a, cap, rfl, hn, hc⟩, hmax, hby⟩ := hb
  clear hn hc hby hbl hcb
  have HR0 : Hid ((w.alloc (.cells #[.int .i64 0, .int .u64 0, .int .u64 0, .string ⟨#[]⟩] 41)).heap[w.heap.size]? = some (.cells zlk 41 (0, 0))) := heap_alloc_new w _
  have HB0 := hide (below_alloc4 w (.cells #[.int .i64 0, .int .u64 0, .int .u64 0, .string ⟨#[]⟩] 41))
  generalize hn : (c : Int) = n at *
  have HN := hide hn
  clear hn
  by_cases hc63 : n < 9223372036854775808
  · have HP : Hid (lof c b = (⟨1, c, 18, sha b⟩, 0)) := by show _ = _; unfold lof; rw [if_pos (by have := HN.out; omega)]
    rw [HP.out]
    have hc64 : ¬ (9223372036854775808 : Int) ≤ n := by omega
    clear HP
    go_enter Tryz.func35, Tryz.ntmps35
    go_wp2_with fail
    generalize w.alloc (.cells #[.int .i64 0, .int .u64 0, .int .u64 0, .string ⟨#[]⟩] 41) = w0 at *
    refine (sum_any w0 _ b (HCB.out.below HB0.out) (HB.out.move (keep_below HB0.out)) HBL.out).mono ?_
    rintro e w1 ⟨rfl, hb1⟩
    have HI := hide (info32d b)
    have HON := hide (one32 b)
    have HSL := hide (sha_len b)
    have HSB := hide (sha_byte b)
    have hb2 := hb1.trans ((below_alloc4 w1 (.cells (bv (sha b)).toArray 155)).mono hb1.size)
    have HR2 : Hid ((w1.alloc (.cells (bv (sha b)).toArray 155)).heap[w.heap.size]? = some (.cells zlk 41 (0, 0))) := (hb2.block _ (blk_lt HR0.out)).trans HR0.out
    have HB2 : Hid (Below w.heap.size w (w1.alloc (.cells (bv (sha b)).toArray 155))) := HB0.out.trans (hb2.mono HB0.out.size)
    have HBD := hide (bsl_block (heap_alloc_new w1 (.cells (bv (sha b)).toArray 155)) HSB.out (by rw [HSL.out]; decide))
    rw [HSL.out] at HBD
    clear hb1 hb2 HR0 HB0
    generalize hD : sha b = D at HI HON HSL HSB HR2 HB2 HBD ⊢
    have HDE := hide hD
    clear hD
    have cv := HBD.out.text
    have HAG : Hid (lcs ⟨1, c, 18, D⟩ = #[.int .i64 1, .int .u64 n, .int .u64 18, .string (nstr D)]) := by show _ = _; rw [← HN.out]; rfl
    go_wp2_with (first
      | (refine wpList_storeRow rfl rfl w1.heap.size _ (bv D).toArray 155 rfl rfl (heap_alloc_new w1 _) HI.out (by simp [bv_len, HSL.out]) HON.out ?_; rw [World.setRow_alloc_new])
      | (refine wpList_storeLk rfl rfl w.heap.size zlk ⟨1, c, 18, D⟩ rfl (by rw [HAG.out]; rfl) rfl HR2.out ?_))
    exact bodyPost_ret (end_c2 rfl Tryz.underlying41 info61 rfl (row_same HR2.out) rfl rfl) rfl ⟨by rw [HDE.out]; rfl, HB2.out.trans ((row_kp _ _ _).below HB2.out.size (fun q e => by omega))⟩
  · have HP : Hid (lof c b = (Lk.none, 40)) := by show _ = _; unfold lof; rw [if_neg (by have := HN.out; omega)]
    rw [HP.out]
    have hc64 : (9223372036854775808 : Int) ≤ n := by omega
    clear HP hc63
    go_enter Tryz.func35, Tryz.ntmps35
    go_wp2_with (refine wpList_zero rfl rfl w.heap.size rfl rfl HR0.out ?_)
    exact bodyPost_ret (end_c2 rfl Tryz.underlying41 info61 rfl HR0.out rfl rfl) rfl ⟨rfl, HB0.out⟩
end
section
open Go.RowKit Go
def putr13 (r : Nat) (L : List Blk) (c : Nat) (b : List Nat) : (Lk × Nat) × List Blk :=
  if c < 9223372036854775808 then
    if 67108864 < b.length then ((Lk.none, 133), L)
    else if (layr r L [((lof c b).1, b)] 0).1.2 = 0 then (((lof c b).1, 0), (layr r L [((lof c b).1, b)] 0).2) else ((Lk.none, (layr r L [((lof c b).1, b)] 0).1.2), (layr r L [((lof c b).1, b)] 0).2)
  else ((Lk.none, 131), L)
structure PutP (w : World) (g B r : Nat) (R : (Lk × Nat) × List Blk) (e : Ending) (w' : World) : Prop where
  e : e = .returned (.tuple #[lkv R.1.1, .int .i64 (R.1.2 : Nat)])
  s : Sto w' g B r R.2
  k : Kp (fun q => q = g ∨ q = B) w w'
theorem layr_le (r : Nat) (L X : List Blk) : (layr r L X 0).1.2 ≤ 135 := by
  unfold layr
  split
  · simp
  · split
    · split <;> simp
    · simp
theorem Sto.next {w wx : World} {g B r : Nat} {L : List Blk} (h : Sto w g B r L) (hb : Below w.heap.size w wx) : Sto wx g B r L := ⟨(hb.block _ (blk_lt h.c)).trans h.c, h.m.next hb, h.h, h.n⟩
set_option maxRecDepth 1000000 in
set_option maxHeartbeats 1000000 in
theorem put13_any (w : World) (g B r : Nat) (L : List Blk) (hS : Sto w g B r L) (c : Nat) (hc : c < 18446744073709551616) (vb : Value) (b : List Nat) (hb : ∀ wy, Kp (fun q => q = g) w wy → BSl wy vb b) (hbl : b.length ≤ 140737488351232) (hcb : ∀ wy, Kp (fun q => q = g) w wy → Cb wy) :
    Calls Tryz.prog 12 #[.pointer (some ⟨g, 0, none⟩), .int .u64 (c : Nat), vb] w (PutP w g B r (putr13 r L c b)) := by
  have hb0 := hb w (Kp.refl _ _)
  have hcb0 := hcb w (Kp.refl _ _)
  have HS := hide hS
  have HBH := hide hb
  have HCB := hide hcb
  have HC0 := hide hcb0
  have HB0 := hide hb0
  have HBL := hide hbl
  have HC := hide hc
  obtain ⟨⟨a, cap, rfl, -, -⟩, -, hby⟩ := hb0
  have HBY := hide hby
  have HR0 : Hid ((w.alloc (.cells #[.int .i64 0, .int .u64 0, .int .u64 0, .string ⟨#[]⟩] 41)).heap[w.heap.size]? = some (.cells zlk 41 (0, 0))) := heap_alloc_new w _
  have HB1 := hide (below_alloc4 w (.cells #[.int .i64 0, .int .u64 0, .int .u64 0, .string ⟨#[]⟩] 41))
  clear hS hb hcb hcb0 hbl hc hby
  generalize hn : (c : Int) = n at *
  have HN := hide hn
  clear hn
  go_enter Tryz.func12, Tryz.ntmps12
  go_upto_region 1 with fail
  generalize w.alloc (.cells #[.int .i64 0, .int .u64 0, .int .u64 0, .string ⟨#[]⟩] 41) = w1 at *
  have HS1 := hide (HS.out.next HB1.out)
  have HK1 : Hid (Kp (fun q => q = g ∨ q = B) w w1) := Kp.of_below HB1.out
  by_cases hc63 : n < 9223372036854775808
  · have hc64 : ¬ (9223372036854775808 : Int) ≤ n := by omega
    have HCC : Hid (c < 9223372036854775808) := by have := HN.out; show _ < _; omega
    clear hc63
    by_cases hbl : 67108864 < b.length
    · have g3 : (67108864 : Int) < b.length := by omega
      have HPR : Hid (putr13 r L c b = ((Lk.none, 133), L)) := by show _ = _; unfold putr13; rw [if_pos HCC.out, if_pos hbl]
      clear hbl
      go_wp2_with (refine wpList_zero rfl rfl w.heap.size rfl rfl HR0.out ?_)
      have HP : PutP w g B r (putr13 r L c b) (.returned (.tuple #[lkv Lk.none, .int .i64 133])) w1 := by rw [HPR.out]; exact ⟨rfl, HS1.out, HK1.out⟩
      exact bodyPost_ret (end_c2 rfl Tryz.underlying41 info61 rfl HR0.out rfl rfl) rfl HP
    · have g3 : ¬ (67108864 : Int) < b.length := by omega
      have HB6 : Hid (b.length ≤ 67108864) := by show _ ≤ _; omega
      have HPR : Hid (putr13 r L c b = if (layr r L [((lof c b).1, b)] 0).1.2 = 0 then (((lof c b).1, 0), (layr r L [((lof c b).1, b)] 0).2) else ((Lk.none, (layr r L [((lof c b).1, b)] 0).1.2), (layr r L [((lof c b).1, b)] 0).2)) := by show _ = _; unfold putr13; rw [if_pos HCC.out, if_neg hbl]
      clear hbl
      have HOF := hide (of_any w1 c (.slice a b.length cap) b (HC0.out.below HB1.out) (HB0.out.move (keep_below HB1.out)) HBL.out)
      rw [HN.out] at HOF
      have HLB := hide (lof_lkb b HC.out)
      have HLV : Hid ((lof c b).1.v = 1) := by show _ = _; unfold lof; rw [if_pos HCC.out]
      obtain ⟨l, hl⟩ : ∃ l, (lof c b).1 = l := ⟨_, rfl⟩
      rw [hl] at HOF HLB HLV HPR
      clear hl
      simp only [lkv] at HOF
      go_upto_region 6 with (go_at_call 35; refine HOF.out.mono ?_; rintro e w2 ⟨rfl, hb2⟩)
      have HB3 : Hid (Below w.heap.size w (w2.alloc (.cells #[.int .i64 l.v, .int .u64 (l.c : Nat), .int .u64 (l.h : Nat), .string (nstr l.d)] 41))) := (HB1.out.trans (hb2.mono HB1.out.size)).trans ((below_alloc4 w2 _).mono (HB1.out.trans (hb2.mono HB1.out.size)).size)
      have HR3 : Hid ((w2.alloc (.cells #[.int .i64 l.v, .int .u64 (l.c : Nat), .int .u64 (l.h : Nat), .string (nstr l.d)] 41)).heap[w.heap.size]? = some (.cells zlk 41 (0, 0))) := blk_alloc _ ((hb2.block _ (blk_lt HR0.out)).trans HR0.out)
      have HT3 : Hid ((w2.alloc (.cells #[.int .i64 l.v, .int .u64 (l.c : Nat), .int .u64 (l.h : Nat), .string (nstr l.d)] 41)).heap[w2.heap.size]? = some (.cells (lcs l) 41 (0, 0))) := heap_alloc_new w2 _
      have HLZ : Hid (w.heap.size < w2.heap.size) := Nat.lt_of_lt_of_le (blk_lt HR0.out) hb2.size
      clear HOF hb2 HR0 HS1 HK1
      generalize w2.alloc (.cells #[.int .i64 l.v, .int .u64 (l.c : Nat), .int .u64 (l.h : Nat), .string (nstr l.d)] 41) = w3 at *
      have c0 : w3.cell? ⟨w2.heap.size, 0, none⟩ = some (.int .i64 l.v) := blk_cell (j := 0) HT3.out rfl
      have c1 : w3.cell? ⟨w2.heap.size, 1, none⟩ = some (.int .u64 (l.c : Nat)) := blk_cell (j := 1) HT3.out rfl
      have c2 : w3.cell? ⟨w2.heap.size, 2, none⟩ = some (.int .u64 (l.h : Nat)) := blk_cell (j := 2) HT3.out rfl
      have c3 : w3.cell? ⟨w2.heap.size, 3, none⟩ = some (.string (nstr l.d)) := blk_cell (j := 3) HT3.out rfl
      have HB4 : Hid (Below w.heap.size w (w3.alloc (.cells #[.int .i64 l.v, .int .u64 (l.c : Nat), .int .u64 (l.h : Nat), .string (nstr l.d), .slice a b.length cap] 60))) := HB3.out.trans ((below_alloc4 w3 _).mono HB3.out.size)
      have HS4 : Hid (Sto (w3.alloc (.cells #[.int .i64 l.v, .int .u64 (l.c : Nat), .int .u64 (l.h : Nat), .string (nstr l.d), .slice a b.length cap] 60)) g B r L) := HS.out.next HB4.out
      have hgz : g < w.heap.size := blk_lt HS.out.c
      have hBz : B < w.heap.size := HS.out.m.lt
      have hz3 : w.heap.size ≤ w3.heap.size := HB3.out.size
      have HT4 : Hid ((w3.alloc (.cells #[.int .i64 l.v, .int .u64 (l.c : Nat), .int .u64 (l.h : Nat), .string (nstr l.d), .slice a b.length cap] 60)).heap[w3.heap.size]? = some (.cells (bcs (l, b) (.slice a b.length cap)) 60 (0, 0))) := heap_alloc_new w3 _
      have HKS : Hid (∀ wy, Kp (fun q => q = g) (w3.alloc (.cells #[.int .i64 l.v, .int .u64 (l.c : Nat), .int .u64 (l.h : Nat), .string (nstr l.d), .slice a b.length cap] 60)) wy → KSl wy (.slice (some ⟨w3.heap.size, 0, none⟩) 1 1) [(l, b)]) := fun wy hy => by
        refine ⟨⟨_, 1, rfl, ⟨Nat.le_refl _, fun h => by cases h⟩, .inr ⟨w3.heap.size, 0, rfl, fun i x hx => ?_⟩⟩, by simp⟩
        rcases i with _ | i
        · obtain rfl : (l, b) = x := by simpa using hx
          have hbk := (hy.block _ (blk_lt HT4.out) (by omega)).trans HT4.out
          refine ⟨bcs (l, b) (.slice a b.length cap), ⟨⟨_, rfl, HBH.out wy ((Kp.of_below HB4.out).trans hy (fun _ _ e => e))⟩, ⟨HLB.out, by rw [HLV.out]; decide⟩, HBL.out⟩, fun j u hj => ?_⟩
          rw [show 0 + 0 * 5 + j = j by omega]
          exact blk_cell hbk hj
        · simp at hx
      have HLY := hide (lay13_any (w3.alloc (.cells #[.int .i64 l.v, .int .u64 (l.c : Nat), .int .u64 (l.h : Nat), .string (nstr l.d), .slice a b.length cap] 60)) g B r L HS4.out (.slice (some ⟨w3.heap.size, 0, none⟩) 1 1) [(l, b)] HKS.out (fun x hx => by obtain rfl : x = (l, b) := (by simpa using hx); exact HB6.out) (by simp) (fun wy hy => HCB.out wy ((Kp.of_below HB4.out).trans hy (fun _ _ e => e))) 0)
      have HR4 : Hid ((w3.alloc (.cells #[.int .i64 l.v, .int .u64 (l.c : Nat), .int .u64 (l.h : Nat), .string (nstr l.d), .slice a b.length cap] 60)).heap[w.heap.size]? = some (.cells zlk 41 (0, 0))) := blk_alloc _ HR3.out
      have HT5 : Hid ((w3.alloc (.cells #[.int .i64 l.v, .int .u64 (l.c : Nat), .int .u64 (l.h : Nat), .string (nstr l.d), .slice a b.length cap] 60)).heap[w2.heap.size]? = some (.cells (lcs l) 41 (0, 0))) := blk_alloc _ HT3.out
      have HE := hide (layr_le r L [(l, b)])
      obtain ⟨R, hR⟩ : ∃ R, layr r L [(l, b)] 0 = R := ⟨_, rfl⟩
      rw [hR] at HLY HPR HE
      clear hR HKS HT4 HR3 HT3 HS4
      go_upto_region 7 with (go_at_call 36; refine HLY.out.mono ?_; rintro e w5 ⟨rfl, hs5, hk5⟩)
      generalize w3.alloc (.cells #[.int .i64 l.v, .int .u64 (l.c : Nat), .int .u64 (l.h : Nat), .string (nstr l.d), .slice a b.length cap] 60) = w4 at *
      have HS5 := hide hs5
      have HR5 : Hid (w5.heap[w.heap.size]? = some (.cells zlk 41 (0, 0))) := (hk5.block _ (blk_lt HR4.out) (by omega)).trans HR4.out
      have hzz := HLZ.out
      have HT6 : Hid (w5.heap[w2.heap.size]? = some (.cells (lcs l) 41 (0, 0))) := (hk5.block _ (blk_lt HT5.out) (by omega)).trans HT5.out
      have HK5 : Hid (Kp (fun q => q = g ∨ q = B) w w5) := (Kp.of_below HB4.out).trans hk5 (fun _ _ e => e)
      obtain ⟨⟨n1, er⟩, L2⟩ := R
      simp only at HPR HE HS5
      clear hs5 hk5 HLY HB4 HT5 HR4 HB3 c0 c1 c2 c3
      by_cases he0 : er = 0
      · subst he0
        have HQ : Hid (putr13 r L c b = ((l, 0), L2)) := by show _ = _; rw [HPR.out]; simp
        have d0 : w5.cell? ⟨w2.heap.size, 0, none⟩ = some (.int .i64 l.v) := blk_cell (j := 0) HT6.out rfl
        have d1 : w5.cell? ⟨w2.heap.size, 1, none⟩ = some (.int .u64 (l.c : Nat)) := blk_cell (j := 1) HT6.out rfl
        have d2 : w5.cell? ⟨w2.heap.size, 2, none⟩ = some (.int .u64 (l.h : Nat)) := blk_cell (j := 2) HT6.out rfl
        have d3 : w5.cell? ⟨w2.heap.size, 3, none⟩ = some (.string (nstr l.d)) := blk_cell (j := 3) HT6.out rfl
        go_wp2_with (refine wpList_storeLk rfl rfl w.heap.size zlk l rfl rfl rfl HR5.out ?_)
        have hk6 := row_kp w5 w.heap.size (lcs l)
        have HP : PutP w g B r (putr13 r L c b) (.returned (.tuple #[lkv l, .int .i64 0])) (w5.setRow w.heap.size (lcs l)) := by
          rw [HQ.out]
          exact ⟨rfl, ⟨(hk6.block _ (blk_lt HS5.out.c) (by omega)).trans HS5.out.c, HS5.out.m.kp hk6 (by omega), HS5.out.h, HS5.out.n⟩, HK5.out.trans hk6 (fun q hq e => by omega)⟩
        exact bodyPost_ret (end_c2 rfl Tryz.underlying41 info61 rfl (row_same HR5.out) rfl rfl) rfl HP
      · have g7 : (((er : Nat) : Int) != 0) = true := by rw [bne_iff_ne]; omega
        have HQ : Hid (putr13 r L c b = ((Lk.none, er), L2)) := by show _ = _; rw [HPR.out, if_neg he0]
        clear he0
        go_wp2_with (refine wpList_zero rfl rfl w.heap.size rfl rfl HR5.out ?_)
        have HP : PutP w g B r (putr13 r L c b) (.returned (.tuple #[lkv Lk.none, .int .i64 (er : Nat)])) w5 := by rw [HQ.out]; exact ⟨rfl, HS5.out, HK5.out⟩
        exact bodyPost_ret (end_c2 rfl Tryz.underlying41 info61 rfl HR5.out rfl rfl) rfl HP
  · have hc64 : (9223372036854775808 : Int) ≤ n := by omega
    have HPR : Hid (putr13 r L c b = ((Lk.none, 131), L)) := by show _ = _; unfold putr13; rw [if_neg (by have := HN.out; omega)]
    clear hc63
    go_wp2_with (refine wpList_zero rfl rfl w.heap.size rfl rfl HR0.out ?_)
    have HP : PutP w g B r (putr13 r L c b) (.returned (.tuple #[lkv Lk.none, .int .i64 131])) w1 := by rw [HPR.out]; exact ⟨rfl, HS1.out, HK1.out⟩
    exact bodyPost_ret (end_c2 rfl Tryz.underlying41 info61 rfl HR0.out rfl rfl) rfl HP
end
section
open Go.RowKit Go
theorem infoSb : (Tryz.prog.info? 130).map (·.size) = some 1 := by kernel_rfl
set_option maxRecDepth 1000000 in
theorem size13_any (w : World) (g B r : Nat) (L : List Blk) (hS : Sto w g B r L) : Calls Tryz.prog 34 #[.pointer (some ⟨g, 0, none⟩)] w fun e w' => e = .returned (.int .i64 (szB L : Nat)) ∧ w' = w := by
  have HL := hide (load64_any ⟨g, 4, none⟩ (szB L) w (blk_cell (j := 4) hS.c rfl))
  clear hS
  go_enter Tryz.func34, Tryz.ntmps34
  go_wp2_with (go_at_call 53; refine HL.out.mono ?_; rintro e w1 ⟨rfl, rfl⟩)
  go_ret
  exact ⟨rfl, rfl⟩
structure SamP (w : World) (g B r : Nat) (L : List Blk) (v : Value) (e : Ending) (w' : World) : Prop where
  e : e = .returned v
  s : Sto w' g B r L
  k : Kp (fun q => q = g) w w'
set_option maxRecDepth 1000000 in
set_option maxHeartbeats 1000000 in
theorem len13_any (w : World) (g B r : Nat) (L : List Blk) (hS : Sto w g B r L) : Calls Tryz.prog 31 #[.pointer (some ⟨g, 0, none⟩)] w (SamP w g B r L (.int .i64 (L.length : Nat))) := by
  have hlk := hS.lock
  have HE := hide hlk.1
  have HK1 := hide hlk.2
  have HS := hide hS
  have c1 : w.cell? ⟨g, 1, none⟩ = some (.int .i32 0) := blk_cell (j := 1) hS.c rfl
  have f1 := blk_frozen 1 hS.c
  clear hlk hS
  go_enter_defers Tryz.func31, Tryz.ntmps31
  go_upto_region 3 with (go_at_call 43; refine (lockFree ⟨g, 1, none⟩ _ c1 f1).mono ?_; rintro e w' ⟨rfl, rfl⟩)
  generalize w.setCell ⟨g, 1, none⟩ (.int .i32 1) = w1 at *
  clear c1 f1
  have s3 : w1.cell? ⟨g, 3, none⟩ = some (.map (some B)) := blk_cell (j := 3) HE.out.c rfl
  go_wp2_with (refine wpList_lenB (B := B) (L := L) rfl rfl rfl HE.out.m ?_)
  refine leaves_cons (f := 44) (args := #[.pointer (some ⟨g, 1, none⟩)]) (by simp) (by simp [go_sem]) ?_
  refine (unlockLate ⟨g, 1, none⟩ .returning _ (blk_cell (j := 1) HE.out.c rfl) (blk_frozen 1 HE.out.c)).mono ?_
  rintro e u' w'' ⟨rfl, rfl, rfl⟩
  have hu := HE.out.unlock rfl HS.out.h HS.out.n
  refine ⟨.int .i64 (L.length : Nat), (results_tmp (t := 2) rfl _ _ _).trans ?_, ⟨rfl, hu.1, HK1.out.trans hu.2 (fun _ _ e => e)⟩⟩
  rfl
set_option maxRecDepth 1000000 in
set_option maxHeartbeats 1000000 in
theorem under13_any (w : World) (g B r : Nat) (L : List Blk) (hS : Sto w g B r L) (l : Lk) (hl : Lkx l) : Calls Tryz.prog 46 #[.pointer (some ⟨g, 0, none⟩), lkv l] w (SamP w g B r L (.tuple #[bval ((atB L l).getD []), .bool (atB L l).isSome])) := by
  have hlk := hS.lock
  have HS := hide hS
  have HLK := hide hl
  obtain ⟨q, hq⟩ : ∃ q, (atB L l).getD [] = q := ⟨_, rfl⟩
  obtain ⟨f, hf⟩ : ∃ f, (atB L l).isSome = f := ⟨_, rfl⟩
  rw [hq, hf]
  have HQ := hide hq
  have HF := hide hf
  have HT : Hid (((w.alloc (.cells #[.int .i64 l.v, .int .u64 (l.c : Nat), .int .u64 (l.h : Nat), .string (nstr l.d)] 41)).alloc (.cells #[.string ⟨#[]⟩] 130)).heap[w.heap.size]? = some (.cells (lcs l) 41 (0, 0))) := blk_alloc _ (heap_alloc_new w _)
  have HT2 : Hid (((w.alloc (.cells #[.int .i64 l.v, .int .u64 (l.c : Nat), .int .u64 (l.h : Nat), .string (nstr l.d)] 41)).alloc (.cells #[.string ⟨#[]⟩] 130)).heap[w.heap.size + 1]? = some (.cells #[.string ⟨#[]⟩] 130 (0, 0))) := by
    have h := heap_alloc_new (w.alloc (.cells #[.int .i64 l.v, .int .u64 (l.c : Nat), .int .u64 (l.h : Nat), .string (nstr l.d)] 41)) (.cells #[.string ⟨#[]⟩] 130)
    rw [show (w.alloc (.cells #[.int .i64 l.v, .int .u64 (l.c : Nat), .int .u64 (l.h : Nat), .string (nstr l.d)] 41)).heap.size = w.heap.size + 1 by simp] at h
    exact h
  have HB0 : Hid (Below w.heap.size w ((w.alloc (.cells #[.int .i64 l.v, .int .u64 (l.c : Nat), .int .u64 (l.h : Nat), .string (nstr l.d)] 41)).alloc (.cells #[.string ⟨#[]⟩] 130))) := (below_alloc4 w _).trans ((below_alloc4 _ _).mono (by simp))
  clear hlk hq hf hl hS
  simp only [lkv]
  go_enter_defers Tryz.func46, Tryz.ntmps46
  go_upto_region 1 with fail
  generalize (w.alloc (.cells #[.int .i64 l.v, .int .u64 (l.c : Nat), .int .u64 (l.h : Nat), .string (nstr l.d)] 41)).alloc (.cells #[.string ⟨#[]⟩] 130) = w0 at *
  have HS0 := hide (HS.out.next HB0.out)
  have hlk := HS0.out.lock
  have HE := hide hlk.1
  have HK1 := hide hlk.2
  have c1 : w0.cell? ⟨g, 1, none⟩ = some (.int .i32 0) := blk_cell (j := 1) HS0.out.c rfl
  have f1 := blk_frozen 1 HS0.out.c
  clear hlk
  go_upto_region 3 with (go_at_call 43; refine (lockFree ⟨g, 1, none⟩ _ c1 f1).mono ?_; rintro e w' ⟨rfl, rfl⟩)
  generalize w0.setCell ⟨g, 1, none⟩ (.int .i32 1) = w1 at *
  clear c1 f1
  have hgz : g < w.heap.size := blk_lt HS.out.c
  have HT1 : Hid (w1.heap[w.heap.size]? = some (.cells (lcs l) 41 (0, 0))) := (HK1.out.block _ (blk_lt HT.out) (by omega)).trans HT.out
  have HU1 : Hid (w1.heap[w.heap.size + 1]? = some (.cells #[.string ⟨#[]⟩] 130 (0, 0))) := (HK1.out.block _ (blk_lt HT2.out) (by omega)).trans HT2.out
  have hlk : (Instr.lookup 105 (.map (some B)) (.agg #[.int .i64 l.v, .int .u64 (l.c : Nat), .int .u64 (l.h : Nat), .string (nstr l.d)]) true).run Tryz.prog w1.drew = .ok (.tuple #[.agg #[.string (nstr q)], .bool f]) w1.drew := by
    have h := (HE.out.m.block (w' := w1.drew) rfl).look HLK.out
    rw [HQ.out, HF.out] at h
    exact h
  have hlk2 : (Instr.lookup 105 (.map (some B)) (.agg #[.int .i64 l.v, .int .u64 (l.c : Nat), .int .u64 (l.h : Nat), .string (nstr l.d)]) true).run Tryz.prog (w1.alloc (.cells #[.string ⟨#[]⟩] 130)).drew = .ok (.tuple #[.agg #[.string (nstr q)], .bool f]) (w1.alloc (.cells #[.string ⟨#[]⟩] 130)).drew := by
    have h := ((HE.out.m.next (below_alloc4 w1 _)).block (w' := (w1.alloc (.cells #[.string ⟨#[]⟩] 130)).drew) rfl).look HLK.out
    rw [HQ.out, HF.out] at h
    exact h
  have d0 : w1.cell? ⟨w.heap.size, 0, none⟩ = some (.int .i64 l.v) := blk_cell (j := 0) HT1.out rfl
  have d1 : w1.cell? ⟨w.heap.size, 1, none⟩ = some (.int .u64 (l.c : Nat)) := blk_cell (j := 1) HT1.out rfl
  have d2 : w1.cell? ⟨w.heap.size, 2, none⟩ = some (.int .u64 (l.h : Nat)) := blk_cell (j := 2) HT1.out rfl
  have d3 : w1.cell? ⟨w.heap.size, 3, none⟩ = some (.string (nstr l.d)) := blk_cell (j := 3) HT1.out rfl
  have s3 : w1.cell? ⟨g, 3, none⟩ = some (.map (some B)) := blk_cell (j := 3) HE.out.c rfl
  have l1 : w.heap.size < w1.heap.size := blk_lt HT1.out
  have l2 : g < w1.heap.size := blk_lt HE.out.c
  go_cut [6, 7] from 15 to 25 (fun a b wx => a = .pointer (some ⟨w1.heap.size, 0, none⟩) ∧ b = .bool f ∧ wx = (w1.alloc (.cells #[.string (nstr q)] 130)).drew)
  case first => as_aux_lemma =>
    go_region
    all_goals (go_wp2_with fail; go_meet; exact ⟨rfl, rfl, rfl⟩)
  case rest =>
    obtain ⟨rfl, rfl, rfl⟩ := hcut
    have HB3 : Hid (Below w1.heap.size w1 (w1.alloc (.cells #[.string (nstr q)] 130)).drew) := (below_alloc4 w1 _).drew
    have a0 : (w1.alloc (.cells #[.string (nstr q)] 130)).drew.cell? ⟨w1.heap.size, 0, none⟩ = some (.string (nstr q)) := blk_cell (j := 0) (heap_alloc_new w1 _) rfl
    clear hlk hlk2 d0 d1 d2 d3 s3
    generalize (w1.alloc (.cells #[.string (nstr q)] 130)).drew = w2 at *
    have HE2 := hide (HE.out.next HB3.out)
    have HU2 : Hid (w2.heap[w.heap.size + 1]? = some (.cells #[.string ⟨#[]⟩] 130 (0, 0))) := (HB3.out.block _ (blk_lt HU1.out)).trans HU1.out
    have u0 : w2.cell? ⟨w.heap.size + 1, 0, none⟩ = some (.string ⟨#[]⟩) := blk_cell (j := 0) HU2.out rfl
    have z0 := blk_frozen 0 HU2.out
    have HU3 := hide (blk_set 0 (.string (nstr q)) HU2.out)
    have hk3 : Kp (fun y => y = w.heap.size + 1) w2 (w2.setCell ⟨w.heap.size + 1, 0, none⟩ (.string (nstr q))) := (Kp.refl _ w2).setCell _ _ (fun _ => rfl)
    have hBz : B < w.heap.size := HS.out.m.lt
    have HE3 : Hid (Stl (w2.setCell ⟨w.heap.size + 1, 0, none⟩ (.string (nstr q))) g B r (szB L) L) := ⟨(hk3.block _ (blk_lt HE2.out.c) (by omega)).trans HE2.out.c, HE2.out.m.kp hk3 (by omega)⟩
    have HK3 : Hid (Kp (fun y => y = g) w (w2.setCell ⟨w.heap.size + 1, 0, none⟩ (.string (nstr q)))) := (((Kp.of_below HB0.out).trans HK1.out (fun _ _ e => e)).trans (Kp.of_below (S := fun _ => False) HB3.out) (fun _ _ h => h.elim)).trans hk3 (fun y hy e => by omega)
    clear hk3
    go_wp2_with fail
    generalize w2.setCell ⟨w.heap.size + 1, 0, none⟩ (.string (nstr q)) = w3 at *
    refine leaves_cons (f := 44) (args := #[.pointer (some ⟨g, 1, none⟩)]) (by simp) (by simp [go_sem]) ?_
    refine (unlockLate ⟨g, 1, none⟩ .returning _ (blk_cell (j := 1) HE3.out.c rfl) (blk_frozen 1 HE3.out.c)).mono ?_
    rintro e u' w'' ⟨rfl, rfl, rfl⟩
    have hu := HE3.out.unlock rfl HS.out.h HS.out.n
    have hU4 := (hu.2.block _ (blk_lt HU3.out) (by omega)).trans HU3.out
    exact ⟨_, end_c2 rfl Tryz.underlying130 infoSb rfl hU4 rfl rfl, ⟨rfl, hu.1, HK3.out.trans hu.2 (fun _ _ e => e)⟩⟩
set_option maxRecDepth 1000000 in
set_option maxHeartbeats 1000000 in
theorem has13_any (w : World) (g B r : Nat) (L : List Blk) (hS : Sto w g B r L) (l : Lk) (hl : Lkx l) : Calls Tryz.prog 20 #[.pointer (some ⟨g, 0, none⟩), lkv l] w (SamP w g B r L (.bool (atB L l).isSome)) := by
  have HS := hide hS
  have HLK := hide hl
  obtain ⟨q, hq⟩ : ∃ q, (atB L l).getD [] = q := ⟨_, rfl⟩
  obtain ⟨f, hf⟩ : ∃ f, (atB L l).isSome = f := ⟨_, rfl⟩
  rw [hf]
  have HQ := hide hq
  have HF := hide hf
  clear hq hf
  have HT : Hid ((w.alloc (.cells #[.int .i64 l.v, .int .u64 (l.c : Nat), .int .u64 (l.h : Nat), .string (nstr l.d)] 41)).heap[w.heap.size]? = some (.cells (lcs l) 41 (0, 0))) := heap_alloc_new w _
  have HB0 := hide (below_alloc4 w (.cells #[.int .i64 l.v, .int .u64 (l.c : Nat), .int .u64 (l.h : Nat), .string (nstr l.d)] 41))
  clear hS hl
  simp only [lkv]
  go_enter Tryz.func20, Tryz.ntmps20
  go_upto_region 1 with fail
  generalize w.alloc (.cells #[.int .i64 l.v, .int .u64 (l.c : Nat), .int .u64 (l.h : Nat), .string (nstr l.d)] 41) = w0 at *
  have HU := hide (under13_any w0 g B r L (HS.out.next HB0.out) l HLK.out)
  rw [HQ.out, HF.out] at HU
  simp only [lkv, bval] at HU
  have d0 : w0.cell? ⟨w.heap.size, 0, none⟩ = some (.int .i64 l.v) := blk_cell (j := 0) HT.out rfl
  have d1 : w0.cell? ⟨w.heap.size, 1, none⟩ = some (.int .u64 (l.c : Nat)) := blk_cell (j := 1) HT.out rfl
  have d2 : w0.cell? ⟨w.heap.size, 2, none⟩ = some (.int .u64 (l.h : Nat)) := blk_cell (j := 2) HT.out rfl
  have d3 : w0.cell? ⟨w.heap.size, 3, none⟩ = some (.string (nstr l.d)) := blk_cell (j := 3) HT.out rfl
  go_wp2_with (go_at_call 46; refine HU.out.mono ?_; rintro e w1 ⟨rfl, hs1, hk1⟩)
  have hb2 := below_alloc4 w1 (.cells #[.string (nstr q)] 130)
  have HP : SamP w g B r L (.bool f) (.returned (.bool f)) (w1.alloc (.cells #[.string (nstr q)] 130)) := ⟨rfl, hs1.next hb2, ((Kp.of_below HB0.out).trans hk1 (fun _ _ e => e)).trans (Kp.of_below (S := fun _ => False) hb2) (fun _ _ h => h.elim)⟩
  go_ret
  exact HP
end
section
open Go.RowKit Go
theorem KSl.take {w : World} {a : Option Addr} {cap : Nat} {L : List Blk} (h : KSl w (.slice a L.length cap) L) (k : Nat) (hk : k ≤ L.length) : KSl w (.slice a k cap) (L.take k) := by
  obtain ⟨⟨a', cap', he, hn, hc⟩, hm⟩ := h
  injection he with e1 e2 e3
  subst e1 e3
  have hl : (L.take k).length = k := by simp; omega
  refine ⟨⟨a, cap, by rw [hl], ⟨by rw [hl]; omega, hn.2⟩, ?_⟩, by rw [hl]; omega⟩
  rcases hc with hc | ⟨b, off, ha, hc⟩
  · exact .inl (by rw [hc]; simp)
  · refine .inr ⟨b, off, ha, fun i x hx => hc i x ?_⟩
    rw [List.getElem?_take] at hx
    split at hx
    · exact hx
    · cases hx
theorem frt_le : ∀ X : List Blk, (frt X).1 ≤ X.length ∧ (frt X).2 ≤ 137
  | [] => ⟨Nat.le_refl _, by decide⟩
  | x :: r => by
    have h := frt_le r
    have h2 := fit13_le x
    rw [frt]
    split
    · split
      · simp only [List.length_cons]
        omega
      · simp
    · simp
      omega
theorem frt_good : ∀ (X : List Blk) (x : Blk), x ∈ X.take (frt X).1 → fit13 x = 0 ∧ dholds x.1.h x.1.d x.2 = true
  | [], x, h => by simp at h
  | y :: r, x, h => by
    rw [frt] at h
    by_cases hf : fit13 y = 0
    · rw [if_pos hf] at h
      by_cases hd : dholds y.1.h y.1.d y.2 = true
      · rw [if_pos hd] at h
        rw [List.take_succ_cons] at h
        rcases List.mem_cons.1 h with rfl | h
        · exact ⟨hf, hd⟩
        · exact frt_good r x h
      · rw [if_neg hd] at h
        simp at h
    · rw [if_neg hf] at h
      simp at h
theorem fit13_len {x : Blk} (h : fit13 x = 0) : x.2.length ≤ 67108864 := by
  unfold fit13 at h
  split at h
  · split at h
    · cases h
    · omega
  · cases h
def addr13 (r : Nat) (L X : List Blk) : (Nat × Nat) × List Blk := layr r L (X.take (frt X).1) (frt X).2
set_option maxRecDepth 1000000 in
set_option maxHeartbeats 1000000 in
theorem adds13_any (w : World) (g B r : Nat) (L : List Blk) (hS : Sto w g B r L) (v : Value) (X : List Blk) (hX : ∀ wy, Kp (fun q => q = g) w wy → KSl wy v X) (hn : X.length ≤ 1048576) (hcb : ∀ wy, Kp (fun q => q = g) w wy → Cb wy) :
    Calls Tryz.prog 40 #[.pointer (some ⟨g, 0, none⟩), v, .func (.func 37) #[] #[]] w (LayP w g B r (addr13 r L X)) := by
  have hv := hX w (Kp.refl _ _)
  have HF := hide (front13_any w v X hv (hcb w (Kp.refl _ _)))
  have HS := hide hS
  have HX := hide hX
  have HCB := hide hcb
  obtain ⟨⟨a, cap, rfl, ⟨hcap, hcn⟩, -⟩, hmax⟩ := hv
  have HLE := hide (frt_le X)
  obtain ⟨i, hi⟩ : ∃ i, (frt X).1 = i := ⟨_, rfl⟩
  obtain ⟨er, her⟩ : ∃ e, (frt X).2 = e := ⟨_, rfl⟩
  have HG := hide (frt_good X)
  have HAD : Hid (addr13 r L X = layr r L (X.take i) er) := by show _ = _; unfold addr13; rw [hi, her]
  rw [hi, her] at HF HLE
  rw [hi] at HG
  have hil := HLE.out.1
  have hic : i ≤ cap := by omega
  clear hi her hX hcb hS
  go_enter Tryz.func40, Tryz.ntmps40
  go_upto_region 2 with (go_at_call 80; refine HF.out.mono ?_; rintro e w1 ⟨rfl, hb1⟩)
  have hk1 : Kp (fun q => q = g) w w1 := Kp.of_below hb1
  have HS1 : Hid (Sto w1 g B r L) := ⟨(hb1.block _ (blk_lt HS.out.c)).trans HS.out.c, HS.out.m.next hb1, HS.out.h, HS.out.n⟩
  have HLY := hide (lay13_any w1 g B r L HS1.out (.slice a i cap) (X.take i) (fun wy hy => (HX.out wy (hk1.trans hy (fun _ _ e => e))).take i hil) (fun x hx => fit13_len (HG.out x hx).1) (by simp; omega) (fun wy hy => HCB.out wy (hk1.trans hy (fun _ _ e => e))) er)
  have HK1 := hide hk1
  clear hb1 hk1
  go_wp2_with (go_at_call 36; refine HLY.out.mono ?_; rintro e w2 ⟨rfl, hs2, hk2⟩)
  have HP : LayP w g B r (addr13 r L X) (.returned (.tuple #[.int .i64 ((layr r L (X.take i) er).1.1 : Nat), .int .i64 ((layr r L (X.take i) er).1.2 : Nat)])) w2 := by
    rw [HAD.out]
    exact ⟨rfl, hs2, (HK1.out.mono (fun _ _ e => .inl e)).trans hk2 (fun _ _ e => e)⟩
  go_ret2
  exact HP
set_option maxRecDepth 1000000 in
theorem Adds13_any (w : World) (g B r : Nat) (L : List Blk) (hS : Sto w g B r L) (v : Value) (X : List Blk) (hX : ∀ wy, Kp (fun q => q = g) w wy → KSl wy v X) (hn : X.length ≤ 1048576) (hcb : ∀ wy, Kp (fun q => q = g) w wy → Cb wy) :
    Calls Tryz.prog 16 #[.pointer (some ⟨g, 0, none⟩), v] w (LayP w g B r (addr13 r L X)) := by
  have HA := hide (adds13_any w g B r L hS v X hX hn hcb)
  obtain ⟨⟨a, cap, rfl, -, -⟩, -⟩ := hX w (Kp.refl _ _)
  clear hS hX hcb
  go_enter Tryz.func16, Tryz.ntmps16
  go_wp2_with (go_at_call 40; refine HA.out.mono ?_; rintro e w2 ⟨rfl, hs2, hk2⟩)
  have HP : LayP w g B r (addr13 r L X) (.returned (.tuple #[.int .i64 ((addr13 r L X).1.1 : Nat), .int .i64 ((addr13 r L X).1.2 : Nat)])) w2 := ⟨rfl, hs2, hk2⟩
  go_ret2
  exact HP
end
end Go.Proofs.YtnkghcndaafmoaaGreatDoor
