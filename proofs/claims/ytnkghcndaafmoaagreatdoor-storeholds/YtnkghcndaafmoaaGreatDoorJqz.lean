import Derived.Test.YtnkghcndaafmoaaGreatDoorJqx
import Derived.Test.YtnkghcndaafmoaaGreatDoorJqy
import Derived.Test.YtnkghcndaafmoaaGreatDoorJql
import Derived.Laws.Rows
namespace Go.Proofs.YtnkghcndaafmoaaGreatDoor
section
open Go.RowKit Go
def getr13 (L : List Blk) (l : Lk) : List Nat × Nat :=
  if lok l then if l.h = 0 then (l.d, 0) else
    match atB L l with
    | none => ([], 136)
    | some b => if dholds l.h l.d b then (b, 0) else ([], 137)
  else ([], 132)
structure GetP (w : World) (g B r : Nat) (L : List Blk) (l : Lk) (e : Ending) (w' : World) : Prop where
  e : ∃ v, e = .returned (.tuple #[v, .int .i64 ((getr13 L l).2 : Nat)]) ∧ BSl w' v (getr13 L l).1 ∧ ∀ q, v.ownBlock = some q → w.heap.size ≤ q ∧ ∃ cs z, w'.heap[q]? = some (.cells cs 5 z)
  s : Sto w' g B r L
  k : Kp (fun q => q = g) w w'
theorem GetP.no {w w' : World} {g B r : Nat} {L : List Blk} {l : Lk} {er : Nat} (h : getr13 L l = ([], er)) (hs : Sto w' g B r L) (hk : Kp (fun q => q = g) w w') : GetP w g B r L l (.returned (.tuple #[.slice none 0 0, .int .i64 (er : Nat)])) w' := ⟨⟨.slice none 0 0, by rw [h], by rw [h]; exact ⟨⟨none, 0, rfl, ⟨Nat.le_refl _, fun _ => rfl⟩, .inl rfl⟩, by simp, by simp⟩, fun q hq => by simp [Value.ownBlock] at hq⟩, hs, hk⟩
set_option maxRecDepth 1000000 in
set_option maxHeartbeats 1000000 in
theorem get13_any (w : World) (g B r : Nat) (L : List Blk) (hS : Sto w g B r L) (l : Lk) (hl : Lkx l) (hcb : ∀ wy, Kp (fun q => q = g) w wy → Cb wy) : Calls Tryz.prog 30 #[.pointer (some ⟨g, 0, none⟩), lkv l] w (GetP w g B r L l) := by
  have HS := hide hS
  have HL := hide hl
  have HCB := hide hcb
  have HT : Hid ((w.alloc (.cells #[.int .i64 l.v, .int .u64 (l.c : Nat), .int .u64 (l.h : Nat), .string (nstr l.d)] 41)).heap[w.heap.size]? = some (.cells (lcs l) 41 (0, 0))) := heap_alloc_new w _
  have HB0 := hide (below_alloc4 w (.cells #[.int .i64 l.v, .int .u64 (l.c : Nat), .int .u64 (l.h : Nat), .string (nstr l.d)] 41))
  have hnot : ∀ (x : Bool) (w : World), (Op.unary .not (.bool x)).run Tryz.prog w = .ok (.bool (!x)) w := fun _ _ => rfl
  clear hS hl hcb
  simp only [lkv]
  go_enter Tryz.func30, Tryz.ntmps30
  go_upto_region 1 with fail
  generalize w.alloc (.cells #[.int .i64 l.v, .int .u64 (l.c : Nat), .int .u64 (l.h : Nat), .string (nstr l.d)] 41) = w0 at *
  have d0 : w0.cell? ⟨w.heap.size, 0, none⟩ = some (.int .i64 l.v) := blk_cell (j := 0) HT.out rfl
  have d1 : w0.cell? ⟨w.heap.size, 1, none⟩ = some (.int .u64 (l.c : Nat)) := blk_cell (j := 1) HT.out rfl
  have d2 : w0.cell? ⟨w.heap.size, 2, none⟩ = some (.int .u64 (l.h : Nat)) := blk_cell (j := 2) HT.out rfl
  have d3 : w0.cell? ⟨w.heap.size, 3, none⟩ = some (.string (nstr l.d)) := blk_cell (j := 3) HT.out rfl
  have HCK := hide (check_any w0 l HL.out.toLkb)
  simp only [lkv] at HCK
  by_cases hok : lok l
  · rw [if_pos hok] at HCK
    go_upto_region 3 with (go_at_call 38; refine HCK.out.mono ?_; rintro e w1 ⟨rfl, hb1⟩)
    have HB1 : Hid (Below w.heap.size w w1) := HB0.out.trans (hb1.mono HB0.out.size)
    have HT1 : Hid (w1.heap[w.heap.size]? = some (.cells (lcs l) 41 (0, 0))) := (hb1.block _ (blk_lt HT.out)).trans HT.out
    clear d0 d1 d2 d3 HCK hb1 HT HB0
    have d0 : w1.cell? ⟨w.heap.size, 0, none⟩ = some (.int .i64 l.v) := blk_cell (j := 0) HT1.out rfl
    have d1 : w1.cell? ⟨w.heap.size, 1, none⟩ = some (.int .u64 (l.c : Nat)) := blk_cell (j := 1) HT1.out rfl
    have d2 : w1.cell? ⟨w.heap.size, 2, none⟩ = some (.int .u64 (l.h : Nat)) := blk_cell (j := 2) HT1.out rfl
    have d3 : w1.cell? ⟨w.heap.size, 3, none⟩ = some (.string (nstr l.d)) := blk_cell (j := 3) HT1.out rfl
    have HS1 := hide (HS.out.next HB1.out)
    have HK1 : Hid (Kp (fun q => q = g) w w1) := Kp.of_below HB1.out
    by_cases hh : l.h = 0
    · have HG : Hid (getr13 L l = (l.d, 0)) := by show _ = _; unfold getr13; rw [if_pos hok, if_pos hh]
      have g2 : (((l.h : Nat) : Int) == 0) = true := by rw [hh]; rfl
      have cv := conv_sb w1 (nstr l.d)
      have HB2 := hide (conv_sb_below w1 (nstr l.d))
      have HS3 := hide (HS1.out.next HB2.out)
      have hBS := conv_sb_bsl w1 (nstr l.d) (by rw [HL.out.toLkb.size]; exact HL.out.n)
      rw [sl_nstr HL.out.d] at hBS
      have HBS := hide hBS
      clear hh hok hBS
      go_wp2_with fail
      have HP : GetP w g B r L l (.returned (.tuple #[.slice (some ⟨w1.heap.size, 0, none⟩) (nstr l.d).size (grownCap w1 (nstr l.d).size 0 5), .int .i64 0])) (Lib.bytesWorld w1 5 (nstr l.d)) :=
        ⟨⟨_, by rw [HG.out]; rfl, by rw [HG.out]; exact HBS.out, fun q hq => by have h1 : w1.heap.size = q := Option.some.inj hq; have h2 := HB1.out.size; subst h1; exact ⟨h2, _, _, Lib.bytesWorld_at_new w1 5 (nstr l.d)⟩⟩, HS3.out, HK1.out.trans (Kp.of_below (S := fun _ => False) HB2.out) (fun _ _ h => h.elim)⟩
      go_ret2
      exact HP
    · have g2 : (((l.h : Nat) : Int) == 0) = false := beq_eq_false_iff_ne.2 (by omega)
      have HU := hide (under13_any w1 g B r L HS1.out l HL.out)
      obtain ⟨A, hA⟩ : ∃ A, atB L l = A := ⟨_, rfl⟩
      rw [hA] at HU
      simp only [lkv, bval] at HU
      cases A with
      | none =>
        have HG : Hid (getr13 L l = ([], 136)) := by show _ = _; unfold getr13; rw [if_pos hok, if_neg hh, hA]
        simp only [Option.getD_none, Option.isSome_none] at HU
        clear hh hok hA
        go_wp2_with (go_at_call 46; refine HU.out.mono ?_; rintro e w2 ⟨rfl, hs2, hk2⟩)
        have hb3 := below_alloc4 w2 (.cells #[.string (nstr [])] 130)
        have HP := GetP.no HG.out (hs2.next hb3) ((HK1.out.trans hk2 (fun _ _ e => e)).trans (Kp.of_below (S := fun _ => False) hb3) (fun _ _ h => h.elim))
        go_ret2
        exact HP
      | some b =>
        have HA := hide hA
        have HBB := hide (HS.out.m.ok _ (atB_mem hA))
        simp only [Option.getD_some, Option.isSome_some] at HU
        have HGA : Hid (getr13 L l = if dholds l.h l.d b then (b, 0) else ([], 137)) := by show _ = _; unfold getr13; rw [if_pos hok, if_neg hh, hA]
        clear hh hok hA
        go_upto_region 8 with (go_at_call 46; refine HU.out.mono ?_; rintro e w2 ⟨rfl, hs2, hk2⟩)
        have hgz : g < w.heap.size := blk_lt HS.out.c
        have hb3 := below_alloc4 w2 (.cells #[.string (nstr b)] 130)
        have HS3 := hide (hs2.next hb3)
        have HK3 : Hid (Kp (fun q => q = g) w (w2.alloc (.cells #[.string (nstr b)] 130))) := (HK1.out.trans hk2 (fun _ _ e => e)).trans (Kp.of_below (S := fun _ => False) hb3) (fun _ _ h => h.elim)
        have HT3 : Hid ((w2.alloc (.cells #[.string (nstr b)] 130)).heap[w.heap.size]? = some (.cells (lcs l) 41 (0, 0))) := blk_alloc _ ((hk2.block _ (blk_lt HT1.out) (by omega)).trans HT1.out)
        have a0 : (w2.alloc (.cells #[.string (nstr b)] 130)).cell? ⟨w2.heap.size, 0, none⟩ = some (.string (nstr b)) := blk_cell (j := 0) (heap_alloc_new w2 _) rfl
        clear d0 d1 d2 d3 HT1 HS1 HU hs2 hk2 hb3
        generalize w2.alloc (.cells #[.string (nstr b)] 130) = w3 at *
        have cv := conv_sb w3 (nstr b)
        have HB4 := hide (conv_sb_below w3 (nstr b))
        have HS4 := hide (HS3.out.next HB4.out)
        have HK4 : Hid (Kp (fun q => q = g) w (Lib.bytesWorld w3 5 (nstr b))) := HK3.out.trans (Kp.of_below (S := fun _ => False) HB4.out) (fun _ _ h => h.elim)
        have hBS := conv_sb_bsl w3 (nstr b) (by rw [nstr_size HBB.out.b]; exact Nat.le_trans HBB.out.n (by decide))
        rw [sl_nstr HBB.out.b] at hBS
        have HBS := hide hBS
        have HT4 : Hid ((Lib.bytesWorld w3 5 (nstr b)).heap[w.heap.size]? = some (.cells (lcs l) 41 (0, 0))) := (HB4.out.block _ (blk_lt HT3.out)).trans HT3.out
        clear hBS
        go_upto_region 9 with fail
        have HOB : Hid (w.heap.size ≤ w3.heap.size) := HK3.out.size
        have HTB : Hid (∃ cs z, (Lib.bytesWorld w3 5 (nstr b)).heap[w3.heap.size]? = some (.cells cs 5 z)) := ⟨_, _, Lib.bytesWorld_at_new w3 5 (nstr b)⟩
        generalize w3.heap.size = gg at *
        generalize grownCap w3 (nstr b).size 0 5 = G at *
        generalize Lib.bytesWorld w3 5 (nstr b) = w4 at *
        generalize (nstr b).size = N at *
        have d0 : w4.cell? ⟨w.heap.size, 0, none⟩ = some (.int .i64 l.v) := blk_cell (j := 0) HT4.out rfl
        have d1 : w4.cell? ⟨w.heap.size, 1, none⟩ = some (.int .u64 (l.c : Nat)) := blk_cell (j := 1) HT4.out rfl
        have d2 : w4.cell? ⟨w.heap.size, 2, none⟩ = some (.int .u64 (l.h : Nat)) := blk_cell (j := 2) HT4.out rfl
        have d3 : w4.cell? ⟨w.heap.size, 3, none⟩ = some (.string (nstr l.d)) := blk_cell (j := 3) HT4.out rfl
        have HH := hide (holds13_any w4 l HL.out.toLkb _ b (HCB.out _ HK4.out) HBS.out (Nat.le_trans HBB.out.n (by decide)))
        simp only [lkv] at HH
        clear cv a0 HT3 HS3 HK3 HB4 HT4
        cases hd : dholds l.h l.d b
        · rw [hd] at HH
          have HG : Hid (getr13 L l = ([], 137)) := by show _ = _; rw [HGA.out, hd]; rfl
          clear hd HGA
          go_wp2_with (go_at_call 37; refine HH.out.mono ?_; rintro e w5 ⟨rfl, hb5⟩)
          have HP := GetP.no HG.out (HS4.out.next hb5) (HK4.out.trans (Kp.of_below (S := fun _ => False) hb5) (fun _ _ h => h.elim))
          go_ret2
          exact HP
        · rw [hd] at HH
          have HG : Hid (getr13 L l = (b, 0)) := by show _ = _; rw [HGA.out, hd]; rfl
          clear hd HGA
          go_wp2_with (go_at_call 37; refine HH.out.mono ?_; rintro e w5 ⟨rfl, hb5⟩)
          have HP : GetP w g B r L l (.returned (.tuple #[.slice (some ⟨gg, 0, none⟩) N G, .int .i64 0])) w5 :=
            ⟨⟨_, by rw [HG.out]; rfl, by rw [HG.out]; exact HBS.out.move (keep_below hb5), fun q hq => by have h1 : gg = q := Option.some.inj hq; subst h1; obtain ⟨cs, z, hz⟩ := HTB.out; exact ⟨HOB.out, cs, z, (hb5.block _ (blk_lt hz)).trans hz⟩⟩, HS4.out.next hb5, HK4.out.trans (Kp.of_below (S := fun _ => False) hb5) (fun _ _ h => h.elim)⟩
          go_ret2
          exact HP
  · rw [if_neg hok] at HCK
    have HG : Hid (getr13 L l = ([], 132)) := by show _ = _; unfold getr13; rw [if_neg hok]
    clear hok
    go_wp2_with (go_at_call 38; refine HCK.out.mono ?_; rintro e w1 ⟨rfl, hb1⟩)
    have HB1 : Below w.heap.size w w1 := HB0.out.trans (hb1.mono HB0.out.size)
    have HP := GetP.no HG.out (HS.out.next HB1) (Kp.of_below HB1)
    go_ret2
    exact HP
end
section
open Go.RowKit Go
theorem num13_any (w : World) (n : Int) : Calls Tryz.prog 8 #[.int .i64 n] w fun e w' => e = .returned (.int .i64 n) ∧ w' = w := by
  go_enter Tryz.func8, Tryz.ntmps8
  go_wp2_with fail
  go_ret
  exact ⟨rfl, rfl⟩
set_option maxRecDepth 1000000 in
set_option maxHeartbeats 1000000 in
theorem name13_any (w : World) (c : Nat) (vb : Value) (b : List Nat) (hb : BSl w vb b) (hbl : b.length ≤ 140737488351232) :
    Calls Tryz.prog 32 #[.int .u64 (c : Nat), vb] w fun e w' => e = .returned (lkv ⟨1, c, 18, sha b⟩) ∧ Below w.heap.size w w' := by
  have HB := hide hb
  have HBL := hide hbl
  obtain ⟨⟨a, cap, rfl, hn, hc⟩, hmax, hby⟩ := hb
  clear hn hc hby hbl
  have HR0 : Hid ((w.alloc (.cells #[.int .i64 0, .int .u64 0, .int .u64 0, .string ⟨#[]⟩] 41)).heap[w.heap.size]? = some (.cells zlk 41 (0, 0))) := heap_alloc_new w _
  have HB0 := hide (below_alloc4 w (.cells #[.int .i64 0, .int .u64 0, .int .u64 0, .string ⟨#[]⟩] 41))
  generalize hn : (c : Int) = n at *
  have HN := hide hn
  clear hn
  go_enter Tryz.func32, Tryz.ntmps32
  go_wp2_with fail
  generalize w.alloc (.cells #[.int .i64 0, .int .u64 0, .int .u64 0, .string ⟨#[]⟩] 41) = w0 at *
  refine (refSum_any w0 _ b (HB.out.move (keep_below HB0.out)) HBL.out).mono ?_
  rintro e w1 ⟨rfl, hb1⟩
  have HI := hide (info32d b)
  have HON := hide (one32 b)
  have HSL := hide (sha_len b)
  have HSB := hide (sha_byte b)
  have hb2 := hb1.trans ((below_alloc4 w1 (.cells (bv (sha b)).toArray 155)).mono hb1.size)
  have HR2 : Hid ((w1.alloc (.cells (bv (sha b)).toArray 155)).heap[w.heap.size]? = some (.cells zlk 41 (0, 0))) := (hb2.block _ (blk_lt HR0.out)).trans HR0.out
  have HB2 : Hid (Below w.heap.size w (w1.alloc (.cells (bv (sha b)).toArray 155))) := HB0.out.trans (hb2.mono HB0.out.size)
  have HBD := hide (bsl_block (heap_alloc_new w1 (.cells (bv (sha b)).toArray 155)) HSB.out (by rw [HSL.out]; decide))
  rw [HSL.out] at HBD
  clear hb1 hb2 HR0 HB0
  generalize hD : sha b = D at HI HON HSL HSB HR2 HB2 HBD ⊢
  have HDE := hide hD
  clear hD
  have cv := HBD.out.text
  have HAG : Hid (lcs ⟨1, c, 18, D⟩ = #[.int .i64 1, .int .u64 n, .int .u64 18, .string (nstr D)]) := by show _ = _; rw [← HN.out]; rfl
  go_wp2_with (first
    | (refine wpList_storeRow rfl rfl w1.heap.size _ (bv D).toArray 155 rfl rfl (heap_alloc_new w1 _) HI.out (by simp [bv_len, HSL.out]) HON.out ?_; rw [World.setRow_alloc_new])
    | (refine wpList_storeLk rfl rfl w.heap.size zlk ⟨1, c, 18, D⟩ rfl (by rw [HAG.out]; rfl) rfl HR2.out ?_))
  exact bodyPost_ret (results_cell_row rfl _ _ _ _ _ _ _ rfl (row_same HR2.out) Tryz.underlying41 rfl info61) rfl ⟨by rw [HDE.out]; rfl, HB2.out.trans ((row_kp _ _ _).below HB2.out.size (fun q e => by omega))⟩
theorem sha_ab : sha [97] ≠ sha [98] := by decide +kernel
theorem sha_ac : sha [97] ≠ sha [99] := by decide +kernel
theorem dh18 (d b : List Nat) : dholds 18 d b = decide (d = sha b) := by unfold dholds; rw [if_pos rfl]
def la13 : Lk := ⟨1, 85, 18, sha [97]⟩
def lc13 : Lk := ⟨1, 85, 18, sha [99]⟩
theorem putr_a : putr13 1 [] 85 [97] = ((la13, 0), [(la13, [97])]) := by
  unfold putr13
  rw [if_pos (by decide), if_neg (by simp)]
  have h1 : (lof 85 [97]).1 = la13 := rfl
  rw [h1]
  have h2 : layr 1 [] [(la13, [97])] 0 = ((1, 0), [(la13, [97])]) := by
    unfold layr
    rw [drf_new (by rfl) (by rfl), drf]
    simp [mrg, putB, delB]
  rw [h2]
  rfl
theorem lok_la : lok la13 := .inr ⟨rfl, by decide, .inl ⟨rfl, sha_len [97]⟩⟩
theorem at_la : atB [(la13, [97])] la13 = some [97] := by rw [atB_cons, if_pos rfl]
theorem getr_a : getr13 [(la13, [97])] la13 = ([97], 0) := by
  unfold getr13
  rw [if_pos lok_la, if_neg (by decide), at_la]
  simp only
  exact if_pos (show dholds 18 (sha [97]) [97] = true by rw [dh18]; exact decide_eq_true rfl)
theorem addr_b : addr13 1 [(la13, [97])] [(la13, [98])] = ((0, 137), [(la13, [97])]) := by
  have hf : frt [(la13, [98])] = (0, 137) := by
    rw [frt, if_pos (by unfold fit13; rw [if_pos ⟨lok_la, rfl⟩, if_neg (by decide)])]
    exact if_neg (show ¬ dholds 18 (sha [97]) [98] = true by rw [dh18, decide_eq_false sha_ab]; decide)
  unfold addr13
  rw [hf]
  unfold layr
  simp [drf]
theorem lc_ne : la13 ≠ lc13 := fun e => sha_ac (congrArg Lk.d e)
theorem putr_c : putr13 1 [(la13, [97])] 85 [99] = ((Lk.none, 135), [(la13, [97])]) := by
  unfold putr13
  rw [if_pos (by decide), if_neg (by simp)]
  have h1 : (lof 85 [99]).1 = lc13 := rfl
  rw [h1]
  have h2 : layr 1 [(la13, [97])] [(lc13, [99])] 0 = ((0, 135), [(la13, [97])]) := by
    unfold layr
    rw [drf_new (by rfl) (by rw [atB_cons, if_neg lc_ne]; rfl), drf]
    simp
  rw [h2]
  simp
end
end Go.Proofs.YtnkghcndaafmoaaGreatDoor
