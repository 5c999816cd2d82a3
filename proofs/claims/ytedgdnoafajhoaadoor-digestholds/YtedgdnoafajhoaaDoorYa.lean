import Derived.Test.YtedgdnoafajhoaaDoorOq
import Derived.Test.YtedgdnoafajhoaaDoorRv
import Derived.Test.YtedgdnoafajhoaaDoorDh
import Derived.StillTailTactics
namespace Go.Proofs.YtedgdnoafajhoaaDoor
open Go.RowKit Go

/-- What DigestHolds has in hand. -/
structure Hq (w wx : World) (T : Nat) (vs : Array Value) : Prop where
  t : wx.heap[T]? = some (.cells vs 47 (0, 0))
  c : Cb wx
  l : Below w.heap.size w wx
theorem Hq.below {w wx wy : World} {T : Nat} {vs : Array Value} (h : Hq w wx T vs) (hb : Below wx.heap.size wx wy) : Hq w wy T vs :=
  ⟨(hb.block T (blk_lt h.t)).trans h.t, h.c.below hb, h.l.trans (hb.mono h.l.size)⟩
theorem RowsIn.rowA {w : World} {a : Option Addr} {len cap : Nat} (h : RowsIn w (.slice a len cap) len) (hl : 0 < len) : ∃ b off, a = some ⟨b, off, none⟩ ∧ ∀ i, i < len → ∃ u xs, w.cell? ⟨b, off + i, none⟩ = some u ∧ BSl w u xs ∧ xs.length ≤ 140737488351232 := by
  obtain ⟨⟨a', cap', hv, _, hr⟩, _⟩ := h
  injection hv with h1 h2 h3
  subst h1
  rcases hr with hr | hr
  · omega
  · exact hr
theorem Own.kp {S : Nat → Prop} {w w' : World} {B : Nat} {f} (h : Own w B f) (hk : Kp S w w') (hs : ∀ j u ys k, f j = some (u, ys) → u.ownBlock = some k → ¬ S k) : Own w' B f :=
  ⟨fun i v xs e => ⟨hk.owns (h.row i v xs e).1 (fun k hk' => hs i v xs k e hk'), (h.row i v xs e).2⟩, h.apart⟩
/-- The rows that are held against each hash. -/
structure Six (w5 wx : World) (D xs : List Nat) (vr : Value) (n : Nat) (es : List Value) (v1 v2 v3 v5 : Value) (f : Nat → Option (Value × List Nat)) : Prop where
  own : Own wx w5.heap.size f
  e1 : f 1 = some (v1, D)
  e2 : f 2 = some (v2, xs)
  e3 : f 3 = some (v3, xs ++ [0])
  e5 : f 5 = some (v5, D ++ [0])
  r : wx.ownsRow w5.heap.size 27 1 vr n es
  l : Below w5.heap.size w5 wx
theorem row6 (w : World) (B : Nat) (hB : B ≤ w.heap.size) (a b c d e f : Value) : (w.alloc (.cells #[a, b, c, d, e, f] 27)).ownsRow B 27 1 (.slice (some ⟨w.heap.size, 0, none⟩) 6 6) 6 [a, b, c, d, e, f] :=
  ⟨rfl, .inr ⟨w.heap.size, 6, _, rfl, hB, heap_alloc_new w _, Nat.le_refl _, by unfold maxLen; omega, rfl, rfl⟩⟩

theorem hash_any2 (w : World) (vh vd vb : Value) (hs : List Nat) (i k : Nat) (h : U64In w vh hs) (hi : i + k ≤ 9223372036854775807) :
    Calls Tryd.prog 24 #[.agg #[vh, vd, vb], .int .i64 ((i : Int) + (k : Int))] w fun e w' => e = .returned (.int .u64 (hashOf hs (i + k) : Nat)) ∧ Below w.heap.size w w' := by
  have h2 := hash_any w vh vd vb hs (i + k) h hi
  rwa [Int.natCast_add] at h2
theorem cells4 (w : World) (c d : Nat) (hc : c < 18446744073709551616) (hd : d < 18446744073709551616) (t : TypeId) : ∀ m, m < 4 → ∃ h, h < 18446744073709551616 ∧ (w.alloc (.cells #[.int .u64 18, .int .u64 0, .int .u64 ((c : Nat) : Int), .int .u64 ((d : Nat) : Int)] t)).cell? ⟨w.heap.size, m, none⟩ = some (.int .u64 ((h : Nat) : Int)) := by
  intro m hm
  have e := heap_alloc_new w (.cells #[.int .u64 18, .int .u64 0, .int .u64 ((c : Nat) : Int), .int .u64 ((d : Nat) : Int)] t)
  obtain h | h | h | h : m = 0 ∨ m = 1 ∨ m = 2 ∨ m = 3 := by omega
  · subst h
    exact ⟨18, by decide, blk_cell e rfl⟩
  · subst h
    exact ⟨0, by decide, blk_cell e rfl⟩
  · subst h
    exact ⟨c, hc, blk_cell e rfl⟩
  · subst h
    exact ⟨d, hd, blk_cell e rfl⟩
/-- The rows' bytes, once a bit of the second is turned. -/
theorem six_rows {w5 wc : World} {D xs : List Nat} {R n cr : Nat} {es : List Value} {v1 v2 v3 v5 : Value} {f : Nat → Option (Value × List Nat)} {dd g1 c1 z : Nat} (j : Nat) (h : Six w5 wc D xs (.slice (some ⟨R, 0, none⟩) n cr) n es v1 v2 v3 v5 f) (hv1 : v1 = .slice (some ⟨g1, 0, none⟩) 32 c1)
    (hes : ∀ e, e ∈ es → e = .slice (some ⟨dd, 0, none⟩) 32 32 ∨ e = .slice (some ⟨dd, 0, none⟩) 31 32 ∨ e = v1 ∨ e = v2 ∨ e = v3 ∨ e = v5 ∨ ∃ ys, BSl w5 e ys ∧ ys.length ≤ 140737488351232) (hd : w5.heap[dd]? = some (.cells (bv D).toArray 28 (0, 0))) (hsb : ∀ x ∈ D, x < 256) (hsl : D.length = 32) (hxl : xs.length ≤ 262144) (hz : z < 256) :
    Below w5.heap.size w5 (wc.setCell ⟨g1, j, none⟩ (.int .u8 ((z : Nat) : Int))).drew ∧ ∀ k, k < n → ∃ v ys, (wc.setCell ⟨g1, j, none⟩ (.int .u8 ((z : Nat) : Int))).drew.cell? ⟨R, k, none⟩ = some v ∧ BSl (wc.setCell ⟨g1, j, none⟩ (.int .u8 ((z : Nat) : Int))).drew v ys ∧ ys.length ≤ 140737488351232 := by
  subst hv1
  have hO := ownl_set h.own 1 g1 32 c1 j z h.e1 hz
  have hK : Kp (fun q => q = g1) wc (wc.setCell ⟨g1, j, none⟩ (.int .u8 ((z : Nat) : Int))) := (Kp.refl _ _).setCell _ _ (fun _ => rfl)
  have hg : w5.heap.size ≤ g1 := ((h.own.row 1 _ D h.e1).1.lt g1 rfl).1
  have hl : Below w5.heap.size w5 (wc.setCell ⟨g1, j, none⟩ (.int .u8 ((z : Nat) : Int))) := h.l.trans (hK.below h.l.size (fun k e => by omega))
  have hr := hK.owns h.r (fun k hk e => own_apart h.r (h.own.row 1 _ D h.e1).1 (by decide) hk (by rw [e]; rfl))
  generalize wc.setCell ⟨g1, j, none⟩ (.int .u8 ((z : Nat) : Int)) = wz at *
  have hdr : ∀ p u, wz.cell? p = some u → wz.drew.cell? p = some u := fun _ _ h => h
  refine ⟨hl.trans ((Below.refl _ _).drew), fun k hk => ?_⟩
  have hlen : es.length = n := by have := hr.1; omega
  have hek : es[k]? = some es[k] := List.getElem?_eq_getElem (by omega)
  have hc := (own_cell hr hek).1
  have hD : BSl wz (.slice (some ⟨dd, 0, none⟩) 32 32) D := bslD_of ((hl.block dd (blk_lt hd)).trans hd) hsb hsl
  rcases hes _ (List.getElem_mem (by omega : k < es.length)) with e | e | e | e | e | e | ⟨ys, e1, e2⟩
  · exact ⟨_, D, hc, by rw [e]; exact hD.move hdr, by omega⟩
  · exact ⟨_, D.take 31, hc, by rw [e]; exact (hD.take 31 (by omega)).move hdr, by rw [List.length_take]; omega⟩
  · exact ⟨_, _, hc, by rw [e]; exact (hO.bsl 1 (upd_same _ _ _)).move hdr, by rw [List.length_set]; omega⟩
  · exact ⟨_, _, hc, by rw [e]; exact (hO.bsl 2 ((upd_ne _ _ _ (by decide)).trans h.e2)).move hdr, by omega⟩
  · exact ⟨_, _, hc, by rw [e]; exact (hO.bsl 3 ((upd_ne _ _ _ (by decide)).trans h.e3)).move hdr, by rw [List.length_append, List.length_singleton]; omega⟩
  · exact ⟨_, _, hc, by rw [e]; exact (hO.bsl 5 ((upd_ne _ _ _ (by decide)).trans h.e5)).move hdr, by rw [List.length_append, List.length_singleton]; omega⟩
  · exact ⟨_, ys, hc, (e1.move (keep_below hl)).move hdr, e2⟩

set_option maxRecDepth 1000000 in
set_option maxHeartbeats 4000000 in
theorem dholds_walk (w : World) (vh : Value) (aD aB : Option Addr) (nD cD nB cB : Nat) (hs : List Nat) (hcb : Cb w) (hh : U64In w vh hs) (hD : RowsIn w (.slice aD nD cD) nD) (hB : RowsIn w (.slice aB nB cB) nB) :
    Calls Tryd.prog 6 #[.agg #[vh, .slice aD nD cD, .slice aB nB cB]] w fun e w' => e = .returned (.bool true) ∧ Below w.heap.size w w' := by
  have HCB := hide hcb
  have HH := hide hh
  have HD := hide hD
  have HB := hide hB
  have hmD := hD.max
  have hmB := hB.max
  obtain ⟨aH, cH, hvh, hz⟩ := hh.form
  clear hz
  have hmH := hh.max
  subst hvh
  clear hcb hh hD hB
  generalize hs.length = nH at *
  go_enter Tryd.func6, Tryd.ntmps6
  go_wp2_with fail
  have HX0 : Hid (Hq w (w.alloc (.cells #[Value.slice aH nH cH, Value.slice aD nD cD, Value.slice aB nB cB] 47)) w.heap.size #[Value.slice aH nH cH, Value.slice aD nD cD, Value.slice aB nB cB]) := ⟨heap_alloc_new w _, HCB.out.below (below_alloc w _), below_alloc w _⟩
  generalize w.alloc (.cells #[Value.slice aH nH cH, Value.slice aD nD cD, Value.slice aB nB cB] 47) = w0 at *
  generalize hT : w.heap.size = T at *
  have HTE := hide hT
  clear hT
  refine (begun_any w0 HX0.out.c).mono ?_
  rintro e w1 ⟨rfl, hb1⟩
  have HX1 := hide (HX0.out.below hb1)
  clear hb1 HX0
  go_wp2_with fail
  go_loopw [3, 4] (fun aa ii wx => ∃ (i a : Nat), i ≤ nB ∧ i ≤ 2000 ∧ a ≤ 262144 ∧ ii = .int .i64 (i : Nat) ∧ aa = .int .i64 (a : Nat) ∧ Hid (Hq w wx T #[Value.slice aH nH cH, Value.slice aD nD cD, Value.slice aB nB cB])) (fun _ ii _ => 2000 - (intOf ii).toNat)
  case atStart => exact ⟨0, 0, by omega, by omega, by omega, rfl, rfl, HX1⟩
  case round =>
    obtain ⟨i, a, hi, hi2, ha, rfl, rfl, HX⟩ := hrel
    clear HX1
    have q2 : wr.cell? ⟨T, 2, none⟩ = some (.slice aB nB cB) := blk_cell HX.out.t rfl
    by_cases hil : i < nB ∧ i < 2000
    · obtain ⟨hil, hi2000⟩ := hil
      have g1 : (i : Int) < (nB : Int) := by omega
      have g2 : (i : Int) < 2000 := by omega
      obtain ⟨b, off, rfl, hrow⟩ := HB.out.rowA (by omega)
      obtain ⟨u, xs, hcu, hbu, hxl⟩ := hrow i hil
      have cu : wr.cell? ⟨b, off + i, none⟩ = some u := keep_below HX.out.l _ _ hcu
      have HU : Hid (BSl wr u xs) := hbu.move (keep_below HX.out.l)
      have HXL := hide hxl
      have HU0 := hide hbu
      obtain ⟨⟨au, cau, hu, hnu, hcau⟩, hmu, hbyu⟩ := hbu
      subst hu
      clear hcu hxl hnu hcau hbyu hrow
      have hxl2 := HXL.out
      by_cases hsz : 262144 < a + xs.length
      · have g3 : (262144 : Int) < (a : Int) + (xs.length : Int) := by omega
        go_wp2_with fail
        refine (begun_any wr HX.out.c).mono ?_
        rintro e w9 ⟨rfl, hb9⟩
        have HB9 : Hid (Below w.heap.size w w9) := HX.out.l.trans (hb9.mono HX.out.l.size)
        clear hb9
        go_wp2_with fail
        go_ret
        exact ⟨rfl, HB9.out⟩
      · have g3 : ¬ (262144 : Int) < (a : Int) + (xs.length : Int) := by omega
        have hx6 : xs.length ≤ 262144 := by omega
        have HZ : Hid (a + xs.length ≤ 262144) := by show _ ≤ _; omega
        go_wp2_with fail
        refine (refSum_any wr _ xs HU.out HXL.out).mono ?_
        rintro e w4 ⟨rfl, hb4⟩
        have HI := hide (info32d xs)
        have HON := hide (one32 xs)
        have HSL := hide (sha_len xs)
        have HSB := hide (sha_byte xs)
        have HX5 : Hid (Hq w (w4.alloc (.cells (bv (sha xs)).toArray 28)) T #[Value.slice aH nH cH, Value.slice aD nD cD, Value.slice (some ⟨b, off, none⟩) nB cB]) :=
          HX.out.below (hb4.trans ((below_alloc w4 (.cells (bv (sha xs)).toArray 28)).mono hb4.size))
        have HD5 : Hid ((w4.alloc (.cells (bv (sha xs)).toArray 28)).heap[w4.heap.size]? = some (.cells (bv (sha xs)).toArray 28 (0, 0))) := heap_alloc_new w4 _
        clear hb4 cu HU q2
        generalize sha xs = D at *
        go_wp2_with (refine wpList_storeRow rfl rfl w4.heap.size _ (bv D).toArray 28 rfl rfl (heap_alloc_new w4 _) HI.out (by simp [bv_len, HSL.out]) HON.out ?_; rw [World.setRow_alloc_new]; generalize w4.alloc (.cells (bv D).toArray 28) = w5 at *; generalize w4.heap.size = dd at *)
        have HU5 : Hid (BSl w5 (.slice au xs.length cau) xs) := HU0.out.move (keep_below HX5.out.l)
        have hPos : Hid (0 < w5.heap.size) := HX5.out.c.pos
        clear g1 g2 g3
        simp only [Act.put]
        go_cut [7] (fun vr wx => ∃ (v1 v2 v3 v5 : Value) (f : Nat → Option (Value × List Nat)), Hid (Six w5 wx D xs vr 6 [.slice (some ⟨dd, 0, none⟩) 32 32, v1, v2, v3, .slice (some ⟨dd, 0, none⟩) 31 32, v5] v1 v2 v3 v5 f))
        case first =>
          rename_i hJm hKm
          refine heldStartN (S := fun w' => Below w5.heap.size w5 w') 16 rfl (by kernel_rfl) ?_
          have hS : Below w5.heap.size w5 w5.drew := (Below.refl _ _).drew
          refine heldTake 0 _ rfl (by kernel_rfl) (by kernel_rfl) (by kernel_rfl) (fun _ _ _ h => h) rfl hS (fun wy hy => by first | (go_simp; done) | (go_simp; rfl) | rfl) ?_
          (try simp only [Act.put]); (try simp only [List.setIfInBounds_toArray, List.set_cons_zero, List.set_cons_succ])
          refine heldTake 1 _ rfl (by kernel_rfl) (by kernel_rfl) (by kernel_rfl) (fun _ _ _ h => h) rfl hS (fun wy hy => by first | (go_simp; done) | (go_simp; rfl) | rfl) ?_
          (try simp only [Act.put]); (try simp only [List.setIfInBounds_toArray, List.set_cons_zero, List.set_cons_succ])
          refine heldTake 3 _ rfl (by kernel_rfl) (by kernel_rfl) (by kernel_rfl) (fun _ _ _ h => h) rfl hS (fun wy hy => by first | (go_simp; done) | (go_simp; rfl) | rfl) ?_
          (try simp only [Act.put]); (try simp only [List.setIfInBounds_toArray, List.set_cons_zero, List.set_cons_succ])
          refine heldTake 5 _ rfl (by kernel_rfl) (by kernel_rfl) (by kernel_rfl) (fun _ _ _ h => h) rfl hS (fun wy hy => by first | (go_simp; done) | (go_simp; rfl) | rfl) ?_
          (try simp only [Act.put]); (try simp only [List.setIfInBounds_toArray, List.set_cons_zero, List.set_cons_succ])
          refine heldTake 9 _ rfl (by kernel_rfl) (by kernel_rfl) (by kernel_rfl) (fun _ _ _ h => h) rfl hS (fun wy hy => by first | (go_simp; done) | (go_simp; rfl) | rfl) ?_
          (try simp only [Act.put]); (try simp only [List.setIfInBounds_toArray, List.set_cons_zero, List.set_cons_succ])
          refine heldTake 10 _ rfl (by kernel_rfl) (by kernel_rfl) (by kernel_rfl) (fun _ _ _ h => h) rfl hS (fun wy hy => by first | (go_simp; done) | (go_simp; rfl) | rfl) ?_
          (try simp only [Act.put]); (try simp only [List.setIfInBounds_toArray, List.set_cons_zero, List.set_cons_succ])
          refine reg11a (dd := dd) (D := D) (xs := xs) (vu := .slice au xs.length cau) (by simp) rfl rfl rfl rfl (fun wx hb => bslD_of ((hb.block dd (blk_lt HD5.out)).trans HD5.out) HSB.out HSL.out) (fun wx hb => HU5.out.move (keep_below hb)) (by rw [HSL.out]; decide) HXL.out HSB.out HU0.out.byte ?_ (by kernel_rfl) hS
          clear hS
          intro v45 v47 v49 v50 v51 v54 v55 v56 wn f hS HO e1 e2 e3 e5
          simp only [put8]
          (try simp only [Act.put]); (try simp only [List.setIfInBounds_toArray, List.set_cons_zero, List.set_cons_succ])
          obtain ⟨b1, d1, hf1, _⟩ := own_form (HO.row 1 _ _ e1).1
          obtain ⟨b2, d2, hf2, _⟩ := own_form (HO.row 2 _ _ e2).1
          have hr3 := (HO.row 3 _ _ e3).1
          rw [List.length_append, List.length_singleton] at hr3
          obtain ⟨b3, d3, hf3, _⟩ := own_form hr3
          have hr5 := (HO.row 5 _ _ e5).1
          rw [List.length_append, List.length_singleton] at hr5
          obtain ⟨b5, d5, hf5, _⟩ := own_form hr5
          subst hf1
          subst hf2
          subst hf3
          subst hf5
          refine heldStep 14 rfl (by kernel_rfl) (fun K hK => ?_)
          go_simp
          refine (Hid.out hK) _ _ (hS.trans ((below_alloc _ _).mono hS.size)) (fun hS2 => ?_)
          clear hK K
          (try simp only [Act.put]); (try simp only [List.setIfInBounds_toArray, List.set_cons_zero, List.set_cons_succ])
          refine heldTake 15 _ rfl (by kernel_rfl) (by kernel_rfl) (by kernel_rfl) (fun _ _ _ h => h) rfl hS2 (fun wy hy => by first | (go_simp; done) | (go_simp; rfl) | rfl) ?_
          (try simp only [Act.put]); (try simp only [List.setIfInBounds_toArray, List.set_cons_zero, List.set_cons_succ])
          refine heldDone (by kernel_rfl) ?_
          refine hKm _ _ (Met.intro (hJm _ _ ?_))
          repeat apply Exists.intro
          refine ⟨?relA, rfl⟩
          exact ⟨_, _, _, _, f, ⟨HO.below (below_alloc _ _), e1, e2, e3, e5, row6 wn _ hS.size _ _ _ _ _ _, hS2⟩⟩
        case rest => as_aux_lemma =>
          obtain ⟨v1, v2, v3, v5, f, HS6⟩ := hcut
          have q1 : wc.cell? ⟨T, 1, none⟩ = some (.slice aD nD cD) := blk_cell (HX5.out.below HS6.out.l).t rfl
          go_upto_if 61 with fail
          go_cut [7] (fun vr wx => ∃ (n : Nat) (es : List Value) (v1 v2 v3 v5 : Value) (f : Nat → Option (Value × List Nat)), 2 ≤ n ∧ n ≤ 7 ∧ Hid (es[1]? = some v1 ∧ ∀ e, e ∈ es → e = .slice (some ⟨dd, 0, none⟩) 32 32 ∨ e = .slice (some ⟨dd, 0, none⟩) 31 32 ∨ e = v1 ∨ e = v2 ∨ e = v3 ∨ e = v5 ∨ ∃ ys, BSl w5 e ys ∧ ys.length ≤ 140737488351232) ∧ Hid (Six w5 wx D xs vr n es v1 v2 v3 v5 f))
          case first =>
            by_cases hn : nD = 0
            · have g3 : ¬ (0 : Int) < (nD : Int) := by omega
              clear hn
              go_wp2_with fail
              go_meet
              case rel =>
              refine ⟨6, _, v1, v2, v3, v5, f, by omega, by omega, ⟨rfl, fun e he => ?_⟩, HS6⟩
              simp only [List.mem_cons, List.not_mem_nil, or_false] at he
              rcases he with h | h | h | h | h | h
              · exact .inl h
              · exact .inr (.inr (.inl h))
              · exact .inr (.inr (.inr (.inl h)))
              · exact .inr (.inr (.inr (.inr (.inl h))))
              · exact .inr (.inl h)
              · exact .inr (.inr (.inr (.inr (.inr (.inl h)))))
            · rename_i hJm hKm
              have g3 : (0 : Int) < (nD : Int) := by omega
              obtain ⟨bD, oD, rfl, hrD⟩ := HD.out.rowA (by omega)
              have hmod : i % nD < nD := Nat.mod_lt _ (by omega)
              obtain ⟨u, ys, hcu, hbu, hyl⟩ := hrD (i % nD) hmod
              have HCU := hide hcu
              have HY : Hid (BSl w5 u ys ∧ ys.length ≤ 140737488351232) := ⟨hbu.move (keep_below HX5.out.l), hyl⟩
              obtain ⟨⟨ay, cy, hu, hny, hcy⟩, hmy, hbyy⟩ := hbu
              subst hu
              have hn0 : ¬ (nD : Int) = 0 := by omega
              have hn1 : ¬ nD = 0 := by omega
              have hmi : (i : Int) % (nD : Int) = ((i % nD : Nat) : Int) := by omega
              have htm : (i : Int).tmod (nD : Int) = ((i % nD : Nat) : Int) := by rw [Int.tmod_eq_emod_of_nonneg (by omega)]; omega
              have hml : ((i % nD : Nat) : Int) < (nD : Int) := by omega
              clear hrD hcu hyl hny hcy hbyy hmod
              generalize i % nD = im at *
              go_wp2_with fail
              refine heldStartN (S := fun w' => Below w5.heap.size w5 w') 13 rfl (by kernel_rfl) ?_
              have hS : Below w5.heap.size w5 wc.drew := HS6.out.l.trans ((Below.refl _ _).drew)
              refine heldTake 0 _ rfl (by kernel_rfl) (by kernel_rfl) (by kernel_rfl) (fun _ _ _ h => h) rfl hS (fun wy hy => by first | (go_simp; done) | (go_simp; rfl) | rfl) ?_
              (try simp only [Act.put]); (try simp only [List.setIfInBounds_toArray, List.set_cons_zero, List.set_cons_succ])
              refine heldTake 1 _ rfl (by kernel_rfl) (by kernel_rfl) (by kernel_rfl) (fun _ _ _ h => h) rfl hS (fun wy hy => by first | (go_simp; done) | (go_simp; rfl) | rfl) ?_
              (try simp only [Act.put]); (try simp only [List.setIfInBounds_toArray, List.set_cons_zero, List.set_cons_succ])
              refine heldTake 2 _ rfl (by kernel_rfl) (by kernel_rfl) (by kernel_rfl) (fun _ _ _ h => h) rfl hS (fun wy hy => by have q1 : wy.cell? ⟨T, 1, none⟩ = some (.slice (some ⟨bD, oD, none⟩) nD cD) := blk_cell ((hy.block T (blk_lt HX5.out.t)).trans HX5.out.t) rfl; go_simp; rfl) ?_
              (try simp only [Act.put]); (try simp only [List.setIfInBounds_toArray, List.set_cons_zero, List.set_cons_succ])
              refine heldTake 3 _ rfl (by kernel_rfl) (by kernel_rfl) (by kernel_rfl) (fun _ _ _ h => h) rfl hS (fun wy hy => by first | (go_simp; done) | (go_simp; rfl) | rfl) ?_
              (try simp only [Act.put]); (try simp only [List.setIfInBounds_toArray, List.set_cons_zero, List.set_cons_succ])
              refine heldTake 4 _ rfl (by kernel_rfl) (by kernel_rfl) (by kernel_rfl) (fun _ _ _ h => h) rfl hS (fun wy hy => by first | (go_simp; done) | (go_simp; rfl) | rfl) ?_
              (try simp only [Act.put]); (try simp only [List.setIfInBounds_toArray, List.set_cons_zero, List.set_cons_succ])
              refine heldTake 5 _ rfl (by kernel_rfl) (by kernel_rfl) (by kernel_rfl) (fun _ _ _ h => h) rfl hS (fun wy hy => by have q1 : wy.cell? ⟨T, 1, none⟩ = some (.slice (some ⟨bD, oD, none⟩) nD cD) := blk_cell ((hy.block T (blk_lt HX5.out.t)).trans HX5.out.t) rfl; go_simp; rfl) ?_
              (try simp only [Act.put]); (try simp only [List.setIfInBounds_toArray, List.set_cons_zero, List.set_cons_succ])
              refine heldTake 6 _ rfl (by kernel_rfl) (by kernel_rfl) (by kernel_rfl) (fun _ _ _ h => h) rfl hS (fun wy hy => by first | (go_simp; done) | (go_simp; rfl) | rfl) ?_
              (try simp only [Act.put]); (try simp only [List.setIfInBounds_toArray, List.set_cons_zero, List.set_cons_succ])
              refine heldTake 7 _ rfl (by kernel_rfl) (by kernel_rfl) (by kernel_rfl) (fun _ _ _ h => h) rfl hS (fun wy hy => by first | (go_simp; done) | (go_simp; rfl) | rfl) ?_
              (try simp only [Act.put]); (try simp only [List.setIfInBounds_toArray, List.set_cons_zero, List.set_cons_succ])
              refine heldTake 8 _ rfl (by kernel_rfl) (by kernel_rfl) (by kernel_rfl) (fun _ _ _ h => h) rfl hS (fun wy hy => by first | (go_simp; done) | (go_simp; rfl) | rfl) ?_
              (try simp only [Act.put]); (try simp only [List.setIfInBounds_toArray, List.set_cons_zero, List.set_cons_succ])
              refine heldTake 9 _ rfl (by kernel_rfl) (by kernel_rfl) (by kernel_rfl) (fun _ _ _ h => h) rfl hS (fun wy hy => by have cu : wy.cell? ⟨bD, oD + im, none⟩ = some (.slice ay ys.length cy) := keep_below hy _ _ (keep_below HX5.out.l _ _ HCU.out); go_simp; rfl) ?_
              (try simp only [Act.put]); (try simp only [List.setIfInBounds_toArray, List.set_cons_zero, List.set_cons_succ])
              refine heldStep 10 rfl (by kernel_rfl) (fun K hK => ?_)
              go_simp
              refine (Hid.out hK) _ _ (hS.trans ((below_alloc _ _).mono hS.size)) (fun hS2 => ?_)
              clear hK K
              (try simp only [Act.put]); (try simp only [List.setIfInBounds_toArray, List.set_cons_zero, List.set_cons_succ])
              refine heldStep 11 rfl (by kernel_rfl) (fun K hK => ?_)
              have HS6' : Six w5 wc.drew D xs _ 6 _ v1 v2 v3 v5 f := ⟨HS6.out.own.below ((Below.refl _ _).drew), HS6.out.e1, HS6.out.e2, HS6.out.e3, HS6.out.e5, own_below HS6.out.r ((Below.refl _ _).drew) (rfl : 0 = 0), hS⟩
              have hal := below_alloc wc.drew (.cells #[Value.slice ay ys.length cy] 27)
              refine step_append_row_at rfl (.tmp 62) (.tmp 72) rfl w5.heap.size u7 6 _ rfl (own_below HS6'.r hal (rfl : 0 = 0)) (.slice ay ys.length cy) wc.drew.heap.size rfl (cell_one _ _ _) rfl (by omega) hS2.size ?_
              intro v' w' r1 r2 r4
              have hO2 := HS6'.own.below hal
              have hK2 : Kp (fun q => u7.ownBlock = some q) _ w' := (Kp.refl _ _).grown r2 (fun k _ h => h)
              have hO3 : Own w' w5.heap.size f := hO2.kp hK2 (fun j u ys k e h1 h2 => own_apart (hO2.row j u ys e).1 (own_below HS6'.r hal (rfl : 0 = 0)) (by decide) h1 h2)
              have hS3 : Below w5.heap.size w5 w' := hS2.trans (hK2.below hS2.size (fun k hk => ((own_below HS6'.r hal (rfl : 0 = 0)).lt k hk).1))
              refine (Hid.out hK) _ _ hS3 (fun _ => ?_)
              clear hK K
              (try simp only [Act.put]); (try simp only [List.setIfInBounds_toArray, List.set_cons_zero, List.set_cons_succ])
              refine heldTake 12 _ rfl (by kernel_rfl) (by kernel_rfl) (by kernel_rfl) (fun _ _ _ h => h) rfl hS3 (fun wy hy => by first | (go_simp; done) | (go_simp; rfl) | rfl) ?_
              (try simp only [Act.put]); (try simp only [List.setIfInBounds_toArray, List.set_cons_zero, List.set_cons_succ])
              refine heldDone (by kernel_rfl) ?_
              refine hKm _ _ (Met.intro (hJm _ _ ?_))
              repeat apply Exists.intro
              refine ⟨?relB, rfl⟩
              refine ⟨7, _, v1, v2, v3, v5, f, by omega, by omega, ⟨rfl, fun e he => ?_⟩, ⟨hO3, HS6.out.e1, HS6.out.e2, HS6.out.e3, HS6.out.e5, r1, hS3⟩⟩
              simp only [List.mem_append, List.mem_cons, List.not_mem_nil, or_false] at he
              rcases he with (h | h | h | h | h | h) | h
              · exact .inl h
              · exact .inr (.inr (.inl h))
              · exact .inr (.inr (.inr (.inl h)))
              · exact .inr (.inr (.inr (.inr (.inl h))))
              · exact .inr (.inl h)
              · exact .inr (.inr (.inr (.inr (.inr (.inl h)))))
              · exact .inr (.inr (.inr (.inr (.inr (.inr ⟨ys, by rw [h]; exact HY.out⟩)))))
          case rest => as_aux_lemma =>
            obtain ⟨n, es, v1, v2, v3, v5, f, hn2, hn7, HES, HS7⟩ := hcut
            clear HS6 q1
            obtain ⟨ar, cr, hu7, hncr, hnmax, hcells⟩ := own_form HS7.out.r
            obtain ⟨R, har, hc1⟩ := hcells 1 v1 HES.out.1
            subst har
            subst hu7
            have hm32 : i % 32 < 32 := Nat.mod_lt _ (by decide)
            have hcd0 : (bv D)[i % 32]? = some (.int .u8 ((D.getD (i % 32) 0 : Nat) : Int)) := bv_get (by rw [HSL.out]; exact hm32)
            have hrow1 := (HS7.out.own.row 1 v1 D HS7.out.e1).1
            rw [HSL.out] at hrow1
            obtain ⟨a1, c1, hv1, h32c, hmax1, hd⟩ := own_form hrow1
            obtain ⟨g1, ha1, hcd⟩ := hd (i % 32) _ hcd0
            subst ha1
            subst hv1
            have hfz : wc.drew.frozen? ⟨g1, i % 32, none⟩ = false := (own_cell hrow1 hcd0).2
            have HZB : Hid (D.getD (i % 32) 0 < 256) := getD_lt HSB.out _
            clear hcells hd hcd0 hrow1
            have hcd2 : wc.drew.cell? ⟨g1, i % 32, none⟩ = some (.int .u8 ((D.getD (i % 32) 0 : Nat) : Int)) := hcd
            have hc12 : wc.drew.cell? ⟨R, 1, none⟩ = some (.slice (some ⟨g1, 0, none⟩) 32 c1) := hc1
            have ht32 : (i : Int).tmod 32 = ((i % 32 : Nat) : Int) := by rw [Int.tmod_eq_emod_of_nonneg (by omega)]; omega
            have ht8 : (i : Int).tmod 8 = ((i % 8 : Nat) : Int) := by rw [Int.tmod_eq_emod_of_nonneg (by omega)]; omega
            have hm32i : ((i % 32 : Nat) : Int) < 32 := by omega
            have hm8i : ((i % 8 : Nat) : Int) < 8 := by omega
            have hn1i : (1 : Int) < (n : Int) := by omega
            generalize D.getD (i % 32) 0 = z0 at *
            generalize i % 32 = i3 at *
            generalize i % 8 = i8 at *
            go_wp2_with fail
            refine wp_region_still_tail 17 (by kernel_rfl) (by kernel_rfl) ?_
            simp only [List.take_succ_cons, List.take_zero, List.drop_succ_cons, List.drop_zero]
            repeat (
              refine wpStill_step (fun K hK => ?_)
              go_simp
              (refine hK _ ?_; clear hK K))
            refine wpStill_nil ?_
            go_wp2_with fail
            obtain ⟨z, hzx, hz256, hzne⟩ := flip_bit z0 (min i8 8) HZB.out (by omega)
            rw [hzx]
            obtain ⟨hlz, hrz⟩ := six_rows (c1 := c1) i3 HS7.out rfl HES.out.2 HD5.out HSB.out HSL.out hx6 hz256
            have HLZ := hide hlz
            have HRZ := hide hrz
            clear hlz hrz hzx hz256 hzne hfz hcd hc1 hcd2 hc12 HZB ht8 ht32 hm32i hm8i hm32 hn1i HES HS7 h32c hmax1
            generalize (wc.setCell ⟨g1, i3, none⟩ (.int .u8 ((z : Nat) : Int))).drew = wz at *
            have HXZ := hide (HX5.out.below HLZ.out)
            have HUZ := hide (HU5.out.move (keep_below HLZ.out))
            clear HX HX5 HU5 HD5 HLZ HSB HSL HON HI hPos
            go_loopw [8] (fun kk wx => ∃ k : Nat, k ≤ n ∧ kk = .int .i64 (k : Nat) ∧ Hid (Below wz.heap.size wz wx)) (fun kk _ => n - (intOf kk).toNat)
            case atStart => exact ⟨0, by omega, rfl, Below.refl _ _⟩
            case round =>
              obtain ⟨k, hk, rfl, HL⟩ := hrel
              by_cases hkn : k < n
              · have g5 : (k : Int) < (n : Int) := by omega
                obtain ⟨v, ys, hcv, hbv, hyl⟩ := HRZ.out k hkn
                have HCV := hide hcv
                have HBV := hide hbv
                have HYL := hide hyl
                obtain ⟨⟨av, cv, hv, hnv, hcv2⟩, hmv, hbyv⟩ := hbv
                subst hv
                clear hcv hyl hnv hcv2 hbyv
                have HUH : Hid (∀ wx, Below wz.heap.size wz wx → U64In wx (.slice aH nH cH) hs) := fun wx hb => (HH.out.move (keep_below HXZ.out.l)).move (keep_below hb)
                have HTC : Hid (∀ wx, Below wz.heap.size wz wx → wx.heap[T]? = some (.cells #[Value.slice aH nH cH, Value.slice aD nD cD, Value.slice (some ⟨b, off, none⟩) nB cB] 47 (0, 0))) := fun wx hb => (hb.block T (blk_lt HXZ.out.t)).trans HXZ.out.t
                have HHL := hide HH.out.lt
                have hwr : IntKind.i64.wrap ((i : Int) + (k : Int)) = (i : Int) + (k : Int) := by rw [IntKind.wrap_i64]; omega
                go_wp2_with fail
                go_cut [9] (fun vg wx => ∃ G : Nat, vg = .slice (some ⟨G, 0, none⟩) 4 4 ∧ Hid (∀ m, m < 4 → ∃ h, h < 18446744073709551616 ∧ wx.cell? ⟨G, m, none⟩ = some (.int .u64 ((h : Nat) : Int))) ∧ Hid (Below wz.heap.size wz wx))
                case first => as_aux_lemma =>
                  rename_i hJm hKm
                  refine heldStartN (S := fun w' => Below wz.heap.size wz w') 10 rfl (by kernel_rfl) ?_
                  have hS : Below wz.heap.size wz wr.drew := HL.out.trans ((Below.refl _ _).drew)
                  refine heldTake 0 _ rfl (by kernel_rfl) (by kernel_rfl) (by kernel_rfl) (fun _ _ _ h => h) rfl hS (fun wy hy => by have q0 : wy.cell? ⟨T, 0, none⟩ = some (.slice aH nH cH) := blk_cell (HTC.out _ hy) rfl; have q1 : wy.cell? ⟨T, 1, none⟩ = some (.slice aD nD cD) := blk_cell (HTC.out _ hy) rfl; have q2 : wy.cell? ⟨T, 2, none⟩ = some (.slice (some ⟨b, off, none⟩) nB cB) := blk_cell (HTC.out _ hy) rfl; go_simp; rfl) ?_
                  (try simp only [Act.put]); (try simp only [List.setIfInBounds_toArray, List.set_cons_zero, List.set_cons_succ])
                  refine heldTake 1 _ rfl (by kernel_rfl) (by kernel_rfl) (by kernel_rfl) (fun _ _ _ h => h) rfl hS (fun wy hy => by first | (go_simp; done) | (go_simp; rfl) | rfl) ?_
                  (try simp only [Act.put]); (try simp only [List.setIfInBounds_toArray, List.set_cons_zero, List.set_cons_succ])
                  refine heldTake 3 _ rfl (by kernel_rfl) (by kernel_rfl) (by kernel_rfl) (fun _ _ _ h => h) rfl hS (fun wy hy => by have q0 : wy.cell? ⟨T, 0, none⟩ = some (.slice aH nH cH) := blk_cell (HTC.out _ hy) rfl; have q1 : wy.cell? ⟨T, 1, none⟩ = some (.slice aD nD cD) := blk_cell (HTC.out _ hy) rfl; have q2 : wy.cell? ⟨T, 2, none⟩ = some (.slice (some ⟨b, off, none⟩) nB cB) := blk_cell (HTC.out _ hy) rfl; go_simp; rfl) ?_
                  (try simp only [Act.put]); (try simp only [List.setIfInBounds_toArray, List.set_cons_zero, List.set_cons_succ])
                  refine heldTake 4 _ rfl (by kernel_rfl) (by kernel_rfl) (by kernel_rfl) (fun _ _ _ h => h) rfl hS (fun wy hy => by first | (go_simp; done) | (go_simp; rfl) | rfl) ?_
                  (try simp only [Act.put]); (try simp only [List.setIfInBounds_toArray, List.set_cons_zero, List.set_cons_succ])
                  refine heldTake 5 _ rfl (by kernel_rfl) (by kernel_rfl) (by kernel_rfl) (fun _ _ _ h => h) rfl hS (fun wy hy => by first | (go_simp; done) | (go_simp; rfl) | rfl) ?_
                  (try simp only [Act.put]); (try simp only [List.setIfInBounds_toArray, List.set_cons_zero, List.set_cons_succ])
                  refine heldTake 6 _ rfl (by kernel_rfl) (by kernel_rfl) (by kernel_rfl) (fun _ _ _ h => h) rfl hS (fun wy hy => by first | (go_simp; done) | (go_simp; rfl) | rfl) ?_
                  (try simp only [Act.put]); (try simp only [List.setIfInBounds_toArray, List.set_cons_zero, List.set_cons_succ])
                  refine heldStep 2 rfl (by kernel_rfl) (fun K hK => ?_)
                  go_simp
                  refine (hash_any _ _ _ _ hs i (HUH.out _ hS) (by omega)).mono ?_
                  rintro e wn ⟨rfl, hbn⟩
                  refine (Hid.out hK) _ _ (hS.trans (hbn.mono hS.size)) (fun hS2 => ?_)
                  clear hK K hS
                  have hS := hS2
                  clear hS2
                  (try simp only [Act.put]); (try simp only [List.setIfInBounds_toArray, List.set_cons_zero, List.set_cons_succ])
                  clear hbn
                  refine heldStep 7 rfl (by kernel_rfl) (fun K hK => ?_)
                  go_simp
                  refine (hash_any2 _ _ _ _ hs i k (HUH.out _ hS) (by omega)).mono ?_
                  rintro e wn ⟨rfl, hbn⟩
                  refine (Hid.out hK) _ _ (hS.trans (hbn.mono hS.size)) (fun hS2 => ?_)
                  clear hK K hS
                  have hS := hS2
                  clear hS2
                  (try simp only [Act.put]); (try simp only [List.setIfInBounds_toArray, List.set_cons_zero, List.set_cons_succ])
                  clear hbn
                  refine heldStep 8 rfl (by kernel_rfl) (fun K hK => ?_)
                  go_simp
                  refine (Hid.out hK) _ _ (hS.trans ((below_alloc _ _).mono hS.size)) (fun hS2 => ?_)
                  clear hK K hS
                  (try simp only [Act.put]); (try simp only [List.setIfInBounds_toArray, List.set_cons_zero, List.set_cons_succ])
                  refine heldTake 9 _ rfl (by kernel_rfl) (by kernel_rfl) (by kernel_rfl) (fun _ _ _ h => h) rfl hS2 (fun wy hy => by first | (go_simp; done) | (go_simp; rfl) | rfl) ?_
                  (try simp only [Act.put]); (try simp only [List.setIfInBounds_toArray, List.set_cons_zero, List.set_cons_succ])
                  refine heldDone (by kernel_rfl) ?_
                  refine hKm _ _ (Met.intro (hJm _ _ ?_))
                  repeat apply Exists.intro
                  refine ⟨?relC, rfl⟩
                  exact ⟨wn.heap.size, rfl, cells4 wn (hashOf hs i) (hashOf hs (i + k)) (hashOf_lt HHL.out _) (hashOf_lt HHL.out _) 74, hS2⟩
                case rest => as_aux_lemma =>
                  obtain ⟨G, rfl, HG, HLK⟩ := hcut
                  clear HUH HTC HHL hwr HL
                  have HCV2 := hide (keep_below HLK.out _ _ HCV.out)
                  have HBV2 := hide (HBV.out.move (keep_below HLK.out))
                  have HU2 := hide (HUZ.out.move (keep_below HLK.out))
                  have HC2 := hide (HXZ.out.c.below HLK.out)
                  have HVL : Hid (ys.length ≤ 140737488351232) := HYL
                  go_wp2_with fail
                  go_loopw [10] (fun mm wx => ∃ m : Nat, m ≤ 4 ∧ mm = .int .i64 (m : Nat) ∧ Hid (Below wc.heap.size wc wx)) (fun mm _ => 4 - (intOf mm).toNat)
                  case atStart => exact ⟨0, by omega, rfl, Below.refl _ _⟩
                  case round =>
                    obtain ⟨m, hm, rfl, HLM⟩ := hrel
                    by_cases hm4 : m < 4
                    · have g6 : (m : Int) < 4 := by omega
                      obtain ⟨h, hh64, hch⟩ := HG.out m hm4
                      have HCH := hide hch
                      have HH64 := hide hh64
                      clear hch hh64
                      have cv : wr.cell? ⟨R, k, none⟩ = some (.slice av ys.length cv) := keep_below HLM.out _ _ HCV2.out
                      go_wp2_with fail
                      refine (lend_any wr _ ys (HBV2.out.move (keep_below HLM.out)) HYL.out).mono ?_
                      rintro e w6 ⟨gx, cx, rfl, ho6, hb6⟩
                      have HL6 : Hid (Lnt w6 wr.heap.size gx cx ys) := ⟨ho6, HBV.out.byte, HYL.out⟩
                      have HLN6 : Hid (Below wc.heap.size wc w6) := HLM.out.trans (hb6.mono HLM.out.size)
                      clear ho6 hb6 cv
                      go_wp2_with fail
                      refine (lend_any w6 _ xs (HU2.out.move (keep_below HLN6.out)) HXL.out).mono ?_
                      rintro e w7 ⟨gy, cy, rfl, ho7, hb7⟩
                      have HL7 : Hid (Lnt w7 w6.heap.size gy cy xs) := ⟨ho7, HU0.out.byte, HXL.out⟩
                      have HL67 := hide (HL6.out.belowq hb7)
                      have HLN7 : Hid (Below wc.heap.size wc w7) := HLN6.out.trans (hb7.mono HLN6.out.size)
                      clear ho7 hb7 HL6 HLN6
                      go_wp2_with fail
                      refine heldStartN (S := fun w' => Below wc.heap.size wc w' ∧ Lnt w' wr.heap.size gx cx ys ∧ Lnt w' w6.heap.size gy cy xs) 33 rfl (by kernel_rfl) ?_
                      have hdr := (Below.refl w7.heap.size w7).drew
                      have hS : Below wc.heap.size wc w7.drew ∧ Lnt w7.drew wr.heap.size gx cx ys ∧ Lnt w7.drew w6.heap.size gy cy xs := ⟨HLN7.out.trans (hdr.mono HLN7.out.size), HL67.out.belowq hdr, HL7.out.belowq hdr⟩
                      clear hdr HLN7 HL67 HL7
                      refine heldTake 0 _ rfl (by kernel_rfl) (by kernel_rfl) (by kernel_rfl) (fun _ _ _ h => h) rfl hS (fun wy hy => by first | (go_simp; done) | (go_simp; rfl) | rfl) ?_
                      (try simp only [Act.put]); (try simp only [List.setIfInBounds_toArray, List.set_cons_zero, List.set_cons_succ])
                      refine heldTake 1 _ rfl (by kernel_rfl) (by kernel_rfl) (by kernel_rfl) (fun _ _ _ h => h) rfl hS (fun wy hy => by first | (go_simp; done) | (go_simp; rfl) | rfl) ?_
                      (try simp only [Act.put]); (try simp only [List.setIfInBounds_toArray, List.set_cons_zero, List.set_cons_succ])
                      refine heldTake 2 _ rfl (by kernel_rfl) (by kernel_rfl) (by kernel_rfl) (fun _ _ _ h => h) rfl hS (fun wy hy => by first | (go_simp; done) | (go_simp; rfl) | rfl) ?_
                      (try simp only [Act.put]); (try simp only [List.setIfInBounds_toArray, List.set_cons_zero, List.set_cons_succ])
                      refine heldTake 3 _ rfl (by kernel_rfl) (by kernel_rfl) (by kernel_rfl) (fun _ _ _ h => h) rfl hS (fun wy hy => by have ch : wy.cell? ⟨G, m, none⟩ = some (.int .u64 ((h : Nat) : Int)) := keep_below hy.1 _ _ HCH.out; go_simp; rfl) ?_
                      (try simp only [Act.put]); (try simp only [List.setIfInBounds_toArray, List.set_cons_zero, List.set_cons_succ])
                      refine heldTake 4 _ rfl (by kernel_rfl) (by kernel_rfl) (by kernel_rfl) (fun _ _ _ h => h) rfl hS (fun wy hy => by first | (go_simp; done) | (go_simp; rfl) | rfl) ?_
                      (try simp only [Act.put]); (try simp only [List.setIfInBounds_toArray, List.set_cons_zero, List.set_cons_succ])
                      refine heldTake 5 _ rfl (by kernel_rfl) (by kernel_rfl) (by kernel_rfl) (fun _ _ _ h => h) rfl hS (fun wy hy => by first | (go_simp; done) | (go_simp; rfl) | rfl) ?_
                      (try simp only [Act.put]); (try simp only [List.setIfInBounds_toArray, List.set_cons_zero, List.set_cons_succ])
                      refine heldTake 7 _ rfl (by kernel_rfl) (by kernel_rfl) (by kernel_rfl) (fun _ _ _ h => h) rfl hS (fun wy hy => by first | (go_simp; done) | (go_simp; rfl) | rfl) ?_
                      (try simp only [Act.put]); (try simp only [List.setIfInBounds_toArray, List.set_cons_zero, List.set_cons_succ])
                      refine heldTake 8 _ rfl (by kernel_rfl) (by kernel_rfl) (by kernel_rfl) (fun _ _ _ h => h) rfl hS (fun wy hy => by first | (go_simp; done) | (go_simp; rfl) | rfl) ?_
                      (try simp only [Act.put]); (try simp only [List.setIfInBounds_toArray, List.set_cons_zero, List.set_cons_succ])
                      refine heldTake 9 _ rfl (by kernel_rfl) (by kernel_rfl) (by kernel_rfl) (fun _ _ _ h => h) rfl hS (fun wy hy => by first | (go_simp; done) | (go_simp; rfl) | rfl) ?_
                      (try simp only [Act.put]); (try simp only [List.setIfInBounds_toArray, List.set_cons_zero, List.set_cons_succ])
                      refine heldTake 10 _ rfl (by kernel_rfl) (by kernel_rfl) (by kernel_rfl) (fun _ _ _ h => h) rfl hS (fun wy hy => by have ch : wy.cell? ⟨G, m, none⟩ = some (.int .u64 ((h : Nat) : Int)) := keep_below hy.1 _ _ HCH.out; go_simp; rfl) ?_
                      (try simp only [Act.put]); (try simp only [List.setIfInBounds_toArray, List.set_cons_zero, List.set_cons_succ])
                      refine heldTake 11 _ rfl (by kernel_rfl) (by kernel_rfl) (by kernel_rfl) (fun _ _ _ h => h) rfl hS (fun wy hy => by first | (go_simp; done) | (go_simp; rfl) | rfl) ?_
                      (try simp only [Act.put]); (try simp only [List.setIfInBounds_toArray, List.set_cons_zero, List.set_cons_succ])
                      refine heldTake 12 _ rfl (by kernel_rfl) (by kernel_rfl) (by kernel_rfl) (fun _ _ _ h => h) rfl hS (fun wy hy => by first | (go_simp; done) | (go_simp; rfl) | rfl) ?_
                      (try simp only [Act.put]); (try simp only [List.setIfInBounds_toArray, List.set_cons_zero, List.set_cons_succ])
                      refine heldTake 13 _ rfl (by kernel_rfl) (by kernel_rfl) (by kernel_rfl) (fun _ _ _ h => h) rfl hS (fun wy hy => by first | (go_simp; done) | (go_simp; rfl) | rfl) ?_
                      (try simp only [Act.put]); (try simp only [List.setIfInBounds_toArray, List.set_cons_zero, List.set_cons_succ])
                      refine heldTake 14 _ rfl (by kernel_rfl) (by kernel_rfl) (by kernel_rfl) (fun _ _ _ h => h) rfl hS (fun wy hy => by have ch : wy.cell? ⟨R, k, none⟩ = some (.slice av ys.length cv) := keep_below hy.1 _ _ HCV2.out; go_simp; rfl) ?_
                      (try simp only [Act.put]); (try simp only [List.setIfInBounds_toArray, List.set_cons_zero, List.set_cons_succ])
                      refine heldTake 15 _ rfl (by kernel_rfl) (by kernel_rfl) (by kernel_rfl) (fun _ _ _ h => h) rfl hS (fun wy hy => by first | (go_simp; done) | (go_simp; rfl) | rfl) ?_
                      (try simp only [Act.put]); (try simp only [List.setIfInBounds_toArray, List.set_cons_zero, List.set_cons_succ])
                      refine heldStep 6 rfl (by kernel_rfl) (fun K hK => ?_)
                      go_simp
                      refine (holds3_any _ h _ _ ys xs (HC2.out.below hS.1) HH64.out hS.2.1.bsl hS.2.2.bsl HXL.out).mono ?_
                      rintro e wn ⟨rfl, hbn⟩
                      refine (Hid.out hK) _ _ ⟨hS.1.trans (hbn.mono hS.1.size), hS.2.1.belowq hbn, hS.2.2.belowq hbn⟩ (fun hS2 => ?_)
                      clear hK K hS
                      have hS := hS2
                      clear hS2
                      (try simp only [Act.put]); (try simp only [List.setIfInBounds_toArray, List.set_cons_zero, List.set_cons_succ])
                      clear hbn
                      refine heldStep 16 rfl (by kernel_rfl) (fun K hK => ?_)
                      go_simp
                      refine (refHolds_any _ h _ _ ys xs HH64.out (HBV2.out.move (keep_below hS.1)) (HU2.out.move (keep_below hS.1)) HXL.out).mono ?_
                      rintro e wn ⟨rfl, hbn⟩
                      refine (Hid.out hK) _ _ ⟨hS.1.trans (hbn.mono hS.1.size), hS.2.1.belowq hbn, hS.2.2.belowq hbn⟩ (fun hS2 => ?_)
                      clear hK K hS
                      have hS := hS2
                      clear hS2
                      (try simp only [Act.put]); (try simp only [List.setIfInBounds_toArray, List.set_cons_zero, List.set_cons_succ])
                      clear hbn
                      generalize dholds h ys xs = dh at *
                      refine heldTake 17 _ rfl (by kernel_rfl) (by kernel_rfl) (by kernel_rfl) (fun _ _ _ h => h) rfl hS (fun wy hy => by first | (go_simp; done) | (go_simp; rfl) | rfl) ?_
                      (try simp only [Act.put]); (try simp only [List.setIfInBounds_toArray, List.set_cons_zero, List.set_cons_succ])
                      refine heldTake 18 _ rfl (by kernel_rfl) (by kernel_rfl) (by kernel_rfl) (fun _ _ _ h => h) rfl hS (fun wy hy => by first | (go_simp; done) | (go_simp; rfl) | rfl) ?_
                      (try simp only [Act.put]); (try simp only [List.setIfInBounds_toArray, List.set_cons_zero, List.set_cons_succ])
                      refine heldTake 19 _ rfl (by kernel_rfl) (by kernel_rfl) (by kernel_rfl) (fun _ _ _ h => h) rfl hS (fun wy hy => by first | (go_simp; done) | (go_simp; rfl) | rfl) ?_
                      (try simp only [Act.put]); (try simp only [List.setIfInBounds_toArray, List.set_cons_zero, List.set_cons_succ])
                      refine heldTake 20 _ rfl (by kernel_rfl) (by kernel_rfl) (by kernel_rfl) (fun _ _ _ h => h) rfl hS (fun wy hy => by first | (go_simp; done) | (go_simp; rfl) | rfl) ?_
                      (try simp only [Act.put]); (try simp only [List.setIfInBounds_toArray, List.set_cons_zero, List.set_cons_succ])
                      refine heldTake 21 _ rfl (by kernel_rfl) (by kernel_rfl) (by kernel_rfl) (fun _ _ _ h => h) rfl hS (fun wy hy => by first | (go_simp; done) | (go_simp; rfl) | rfl) ?_
                      (try simp only [Act.put]); (try simp only [List.setIfInBounds_toArray, List.set_cons_zero, List.set_cons_succ])
                      refine heldTake 22 _ rfl (by kernel_rfl) (by kernel_rfl) (by kernel_rfl) (fun _ _ _ h => h) rfl hS (fun wy hy => by first | (go_simp; done) | (go_simp; rfl) | rfl) ?_
                      (try simp only [Act.put]); (try simp only [List.setIfInBounds_toArray, List.set_cons_zero, List.set_cons_succ])
                      refine heldTake 23 _ rfl (by kernel_rfl) (by kernel_rfl) (by kernel_rfl) (fun _ _ _ h => h) rfl hS (fun wy hy => by have ch : wy.cell? ⟨R, k, none⟩ = some (.slice av ys.length cv) := keep_below hy.1 _ _ HCV2.out; go_simp; rfl) ?_
                      (try simp only [Act.put]); (try simp only [List.setIfInBounds_toArray, List.set_cons_zero, List.set_cons_succ])
                      refine heldStep 24 rfl (by kernel_rfl) (fun K hK => ?_)
                      go_simp
                      refine (intactq hS.2.1 _ (HBV2.out.move (keep_below hS.1))).mono ?_
                      rintro e wn ⟨rfl, hbn⟩
                      refine (Hid.out hK) _ _ ⟨hS.1.trans (hbn.mono hS.1.size), hS.2.1.belowq hbn, hS.2.2.belowq hbn⟩ (fun hS2 => ?_)
                      clear hK K hS
                      have hS := hS2
                      clear hS2
                      (try simp only [Act.put]); (try simp only [List.setIfInBounds_toArray, List.set_cons_zero, List.set_cons_succ])
                      clear hbn
                      refine heldTake 25 _ rfl (by kernel_rfl) (by kernel_rfl) (by kernel_rfl) (fun _ _ _ h => h) rfl hS (fun wy hy => by first | (go_simp; done) | (go_simp; rfl) | rfl) ?_
                      (try simp only [Act.put]); (try simp only [List.setIfInBounds_toArray, List.set_cons_zero, List.set_cons_succ])
                      refine heldTake 26 _ rfl (by kernel_rfl) (by kernel_rfl) (by kernel_rfl) (fun _ _ _ h => h) rfl hS (fun wy hy => by first | (go_simp; done) | (go_simp; rfl) | rfl) ?_
                      (try simp only [Act.put]); (try simp only [List.setIfInBounds_toArray, List.set_cons_zero, List.set_cons_succ])
                      refine heldTake 27 _ rfl (by kernel_rfl) (by kernel_rfl) (by kernel_rfl) (fun _ _ _ h => h) rfl hS (fun wy hy => by first | (go_simp; done) | (go_simp; rfl) | rfl) ?_
                      (try simp only [Act.put]); (try simp only [List.setIfInBounds_toArray, List.set_cons_zero, List.set_cons_succ])
                      refine heldTake 28 _ rfl (by kernel_rfl) (by kernel_rfl) (by kernel_rfl) (fun _ _ _ h => h) rfl hS (fun wy hy => by first | (go_simp; done) | (go_simp; rfl) | rfl) ?_
                      (try simp only [Act.put]); (try simp only [List.setIfInBounds_toArray, List.set_cons_zero, List.set_cons_succ])
                      refine heldTake 29 _ rfl (by kernel_rfl) (by kernel_rfl) (by kernel_rfl) (fun _ _ _ h => h) rfl hS (fun wy hy => by first | (go_simp; done) | (go_simp; rfl) | rfl) ?_
                      (try simp only [Act.put]); (try simp only [List.setIfInBounds_toArray, List.set_cons_zero, List.set_cons_succ])
                      refine heldStep 30 rfl (by kernel_rfl) (fun K hK => ?_)
                      go_simp
                      refine (intactq hS.2.2 _ (HU2.out.move (keep_below hS.1))).mono ?_
                      rintro e wn ⟨rfl, hbn⟩
                      refine (Hid.out hK) _ _ ⟨hS.1.trans (hbn.mono hS.1.size), hS.2.1.belowq hbn, hS.2.2.belowq hbn⟩ (fun hS2 => ?_)
                      clear hK K hS
                      have hS := hS2
                      clear hS2
                      (try simp only [Act.put]); (try simp only [List.setIfInBounds_toArray, List.set_cons_zero, List.set_cons_succ])
                      clear hbn
                      refine heldTake 31 _ rfl (by kernel_rfl) (by kernel_rfl) (by kernel_rfl) (fun _ _ _ h => h) rfl hS (fun wy hy => by first | (go_simp; done) | (go_simp; rfl) | rfl) ?_
                      (try simp only [Act.put]); (try simp only [List.setIfInBounds_toArray, List.set_cons_zero, List.set_cons_succ])
                      refine heldTake 32 _ rfl (by kernel_rfl) (by kernel_rfl) (by kernel_rfl) (fun _ _ _ h => h) rfl hS (fun wy hy => by first | (go_simp; done) | (go_simp; rfl) | rfl) ?_
                      (try simp only [Act.put]); (try simp only [List.setIfInBounds_toArray, List.set_cons_zero, List.set_cons_succ])
                      refine heldDone (by kernel_rfl) ?_
                      have HLE := hide hS.1
                      clear hS
                      go_wp2_with fail
                      go_roundw
                      case rel => exact ⟨m + 1, by omega, by go_num, HLE⟩
                      case measure => simp [intOf]; omega
                    · have g6 : ¬ (m : Int) < 4 := by omega
                      go_wp2_with fail
                      go_roundw
                      case rel => exact ⟨k + 1, by omega, by go_num, HLK.out.trans (HLM.out.mono HLK.out.size)⟩
                      case measure => simp [intOf]; omega
              · have g5 : ¬ (k : Int) < (n : Int) := by omega
                go_wp2_with fail
                go_roundw
                case rel => exact ⟨i + 1, a + xs.length, by omega, by omega, by have := HZ.out; omega, by go_num, by go_num, HXZ.out.below HL.out⟩
                case measure => simp [intOf]; omega
    · have g0 : ¬ (i : Int) < (nB : Int) ∨ ((i : Int) < (nB : Int) ∧ ¬ (i : Int) < 2000) := by omega
      rcases g0 with g1 | ⟨g1, g2⟩
      all_goals
        go_wp2_with fail
        refine (begun_any wr HX.out.c).mono ?_
        rintro e w9 ⟨rfl, hb9⟩
        have HB9 : Hid (Below w.heap.size w w9) := HX.out.l.trans (hb9.mono HX.out.l.size)
        clear hb9
        go_wp2_with fail
        go_ret
        exact ⟨rfl, HB9.out⟩
end Go.Proofs.YtedgdnoafajhoaaDoor
