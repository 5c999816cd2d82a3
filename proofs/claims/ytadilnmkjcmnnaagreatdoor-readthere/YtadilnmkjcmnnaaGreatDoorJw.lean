import Derived.Test.YtadilnmkjcmnnaaGreatDoorJv
import Derived.Test.YtadilnmkjcmnnaaGreatDoorJi
import Derived.Test.YtadilnmkjcmnnaaGreatDoorJf
namespace Go.Proofs.YtadilnmkjcmnnaaGreatDoor
section
open Go.RowKit Go
theorem end_take {wx : World} {R : Nat} {c : Array Value} {e : Int} {tmps : Array Value} (hn : c.size = 11) (hr : wx.heap[R]? = some (.cells c 115 (0, 0))) (hp : tmps.getD 4 undef = .pointer (some ⟨R, 0, none⟩)) (he : tmps.getD 5 undef = .int .i64 e) : (results Tryz.f78 tmps).run Tryz.prog wx = .ok (.tuple #[.agg c, .int .i64 e]) wx := by
  have h1 := run_loadVar_row (P := Tryz.prog) wx R 115 115 c (0, 0) _ hr Tryz.underlying115 rfl (by rw [hn]; exact infoI)
  refine (results_cell_tmp rfl _ _ _).trans ?_
  rw [hp, he]
  simp [asAddr, h1, Result.andThen]
theorem rlook_key {want : Nat} {r : List Nat} (h : rlook want r = 0) (h1 : want = 1) : (hrd r).m = 3 := by
  unfold rlook at h
  by_cases h20 : (hrd r).e = 20
  · rw [if_pos h20] at h; cases h
  rw [if_neg h20] at h
  by_cases h2 : (hrd r).e ≠ 0 ∨ (hrd r).i = 31
  · rw [if_pos h2] at h; cases h
  rw [if_neg h2] at h
  by_cases h3 : ((hrd r).m = 2 ∨ (hrd r).m = 3) ∧ r.length - (hrd r).u < (hrd r).n
  · rw [if_pos h3] at h; cases h
  rw [if_neg h3] at h
  by_cases h4 : rmay (hrd r) (rbody r) = false ∨ rfit want (hrd r) (rbody r) = false
  · rw [if_pos h4] at h; cases h
  have h5 : rfit want (hrd r) (rbody r) ≠ false := fun e => h4 (.inr e)
  unfold rfit at h5
  rw [if_pos h1] at h5
  simpa using h5
theorem cell_blk {w : World} {g j : Nat} {cs : Array Value} {t : TypeId} {v : Value} (h : w.heap[g]? = some (.cells cs t (0, 0))) (hc : w.cell? ⟨g, j, none⟩ = some v) : cs[j]? = some v := by
  rcases hx : cs[j]? with _ | u
  · simp [World.cell?, h, hx] at hc
  · rw [blk_cell h hx] at hc
    exact hc
/-- Bytes do not lie where there are none. -/
theorem bsl_kp8 {w w' : World} {g : Nat} {cs : Array Value} {t : TypeId} {v : Value} {y : List Nat} (h : BSl w v y) (hg : w.heap[g]? = some (.cells cs t (0, 0))) (hn : ∀ (j : Nat) (x : Int), cs[j]? ≠ some (Value.int .u8 x)) (hk : Kp (fun q => q = g) w w') : BSl w' v y := by
  by_cases hy : y = []
  · rw [hy] at h ⊢
    exact bsl_nil6 h
  · refine hk.bsl h (fun q hq e => ?_)
    subst e
    obtain ⟨⟨a, cap, hv, _, hc⟩, _, _⟩ := h
    obtain ⟨b, off, ha, hcc⟩ := hc.resolve_left hy
    subst hv
    subst ha
    have e2 : b = q := by simpa [Value.ownBlock] using hq
    subst e2
    have h0 := hcc 0 (List.length_pos_iff.2 hy)
    exact hn _ _ (cell_blk hg h0)
theorem zi_no (j : Nat) (x : Int) : zi[j]? ≠ some (.int .u8 x) := by
  intro h
  have hj := (Array.getElem?_eq_some_iff.1 h).1
  have hj2 : j < 11 := hj
  have : j = 0 ∨ j = 1 ∨ j = 2 ∨ j = 3 ∨ j = 4 ∨ j = 5 ∨ j = 6 ∨ j = 7 ∨ j = 8 ∨ j = 9 ∨ j = 10 := by omega
  rcases this with rfl | rfl | rfl | rfl | rfl | rfl | rfl | rfl | rfl | rfl | rfl <;> simp [zi] at h
theorem mac_no (vB vo : Value) (p d : Int) (h1 : ∀ x, vB ≠ .int .u8 x) (h2 : ∀ x, vo ≠ .int .u8 x) (j : Nat) (x : Int) : (#[vB, .int .i64 p, .int .i64 d, vo] : Array Value)[j]? ≠ some (.int .u8 x) := by
  intro h
  have hj := (Array.getElem?_eq_some_iff.1 h).1
  have hj2 : j < 4 := hj
  have : j = 0 ∨ j = 1 ∨ j = 2 ∨ j = 3 := by omega
  rcases this with rfl | rfl | rfl | rfl <;> simp at h
  · exact h1 x h
  · exact h2 x h
/-- What take tells. -/
def TakeP (w : World) (lo M : Nat) (vB : Value) (b : List Nat) (d p : Nat) (vo : Value) (st : List Nst) (C : List (Array Value)) (K I : Nat → Value) (L : Nat → List (Array Value)) (want : Nat) (ks : List ByteArray) (e : Ending) (w' : World) : Prop :=
  Kp (fun q => q = M) w w' ∧ ∃ c, c.size = 11 ∧ c.all (·.oneCell') = true ∧ e = .returned (.tuple #[.agg c, .int .i64 (rtake want (decide (st.length = d)) ks (b.drop p) : Nat)]) ∧
    (rtake want (decide (st.length = d)) ks (b.drop p) ≠ 0 → Mac w' lo M vB b d p vo st C K I L) ∧
    (rtake want (decide (st.length = d)) ks (b.drop p) = 0 → Mac w' lo M vB b d (p + rused (b.drop p)) vo st C K I L ∧ ∃ vb, c = ics (hrd (b.drop p)) vb (rtext (hrd (b.drop p)) (rbody (b.drop p)) ⟨#[]⟩) (rlink want (hrd (b.drop p)) (rbody (b.drop p)) ⟨0, 0, 0, []⟩) ∧ BSl w' vb (rbody (b.drop p)))
theorem TakeP.bad {w w' : World} {lo M : Nat} {vB : Value} {b : List Nat} {d p : Nat} {vo : Value} {st : List Nst} {C : List (Array Value)} {K I : Nat → Value} {L : Nat → List (Array Value)} {want : Nat} {ks : List ByteArray} {k : Nat} (hk : rtake want (decide (st.length = d)) ks (b.drop p) = k) (h0 : k ≠ 0) (hb : Below w.heap.size w w') (hm : Mac w lo M vB b d p vo st C K I L) : TakeP w lo M vB b d p vo st C K I L want ks (.returned (.tuple #[.agg zi, .int .i64 (k : Nat)])) w' :=
  ⟨Kp.of_below hb, zi, rfl, zi_all, by rw [hk], fun _ => hm.next hb, fun h => absurd (hk.symm.trans h) h0⟩
set_option maxRecDepth 1000000 in
set_option maxHeartbeats 4000000 in
theorem take8_any (W : World) (hT : Tabs W) (w : World) (lo M : Nat) (vB : Value) (b : List Nat) (d p : Nat) (vo : Value) (st : List Nst) (C : List (Array Value)) (K I : Nat → Value) (L : Nat → List (Array Value)) (h : Mac w lo M vB b d p vo st C K I L) (hW : Below W.heap.size W w) (hbl : b.length ≤ 140737488351232) (hp : p ≤ b.length) (hst : st.length ≤ 100000) (want : Nat) (ks : List ByteArray) (hks : want = 1 → ∃ q x, st = q ++ [x] ∧ x.ks = ks ∧ x.ks.length ≤ 10000000) :
    Calls Tryz.prog 78 #[.pointer (some ⟨M, 0, none⟩), .int .i64 (want : Nat)] w (TakeP w lo M vB b d p vo st C K I L want ks) := by
  have HMC := hide h
  have HT := hide hT
  have HWW := hide hW
  have HKS := hide hks
  have HPP := hide hp
  have HM0 := hide (h.next (below_alloc4 w (.cells zi 115)))
  have HQ0 : Hid (Lkw w (w.alloc (.cells zi 115))) := ⟨below_alloc4 w _, heap_alloc_new w _⟩
  have hbB := h.b
  obtain ⟨⟨aB, cB, hvB, hnB, _⟩, _, _⟩ := hbB
  subst hvB
  obtain ⟨ao, co, hvo⟩ := own_slice8 h.o.o
  subst hvo
  have HBD := hide (bsl_drop8 (k := p) h.b hp)
  obtain ⟨a2, n2, c2, hd2⟩ : ∃ a2 n2 c2, dropS aB b.length cB p = .slice a2 n2 c2 := by
    obtain ⟨⟨a2, c2, h1, _⟩, _⟩ := HBD.out
    exact ⟨a2, _, c2, h1⟩
  have HD2 := hide hd2
  rw [hd2] at HBD
  have HEX : Hid (p ≤ b.length ∧ b.length ≤ cB ∧ (aB = none → cB = 0)) := ⟨hp, hnB.1, hnB.2⟩
  have HRL : Hid ((b.drop p).length ≤ 140737488351232) := by show _ ≤ _; rw [List.length_drop]; omega
  have HMZ : Hid (M < w.heap.size) := h.o.mz M h.lm
  clear h hT hW hks hp hd2 hnB
  unfold zi at HM0 HQ0
  go_enter Tryz.func78, Tryz.ntmps78
  go_wp2_with fail
  generalize w.alloc (.cells #[.int .i64 0, .int .i64 0, .int .u64 0, .int .i64 0, .bool false, .slice none 0 0, .string ⟨#[]⟩, .int .i64 0, .int .u64 0, .int .u64 0, .string ⟨#[]⟩] 115) = w0 at *
  generalize hr : b.drop p = r at *
  have HRR := hide hr
  clear hr
  go_cut [6] from 9 to 17 (fun vv wx => vv = .slice a2 n2 c2 ∧ Hid (Lkw w wx ∧ Mac wx lo M (.slice aB b.length cB) b d p (.slice ao st.length co) st C K I L))
  case first => as_aux_lemma =>
    refine heldStart (S := fun wy => wy.heap[M]? = some (.cells #[.slice aB b.length cB, .int .i64 (p : Nat), .int .i64 (d : Nat), .slice ao st.length co] 94 (0, 0))) (by kernel_rfl) ?_
    have hS : w0.drew.heap[M]? = some (.cells #[.slice aB b.length cB, .int .i64 (p : Nat), .int .i64 (d : Nat), .slice ao st.length co] 94 (0, 0)) := HM0.out.m
    refine heldTake 0 _ rfl (by kernel_rfl) (by kernel_rfl) (by kernel_rfl) (fun _ _ _ h => h) rfl hS (fun wy hy => by first | (go_simp; done) | (go_simp; rfl) | rfl) ?_
    (try simp only [Act.put]); (try simp only [List.setIfInBounds_toArray, List.set_cons_zero, List.set_cons_succ])
    refine heldTake 1 _ rfl (by kernel_rfl) (by kernel_rfl) (by kernel_rfl) (fun _ _ _ h => h) rfl hS (fun wy hy => by first | (go_simp; done) | (go_simp; rfl) | rfl) ?_
    (try simp only [Act.put]); (try simp only [List.setIfInBounds_toArray, List.set_cons_zero, List.set_cons_succ])
    refine heldTake 2 _ rfl (by kernel_rfl) (by kernel_rfl) (by kernel_rfl) (fun _ _ _ h => h) rfl hS (fun wy hy => by first | (go_simp; done) | (go_simp; rfl) | rfl) ?_
    (try simp only [Act.put]); (try simp only [List.setIfInBounds_toArray, List.set_cons_zero, List.set_cons_succ])
    refine heldTake 3 _ rfl (by kernel_rfl) (by kernel_rfl) (by kernel_rfl) (fun _ _ _ h => h) rfl hS (fun wy hy => by have h0 := blk_cell (j := 0) (v := .slice aB b.length cB) hy rfl; first | (go_simp; done) | (go_simp; rfl) | rfl) ?_
    (try simp only [Act.put]); (try simp only [List.setIfInBounds_toArray, List.set_cons_zero, List.set_cons_succ])
    refine heldTake 4 _ rfl (by kernel_rfl) (by kernel_rfl) (by kernel_rfl) (fun _ _ _ h => h) rfl hS (fun wy hy => by first | (go_simp; done) | (go_simp; rfl) | rfl) ?_
    (try simp only [Act.put]); (try simp only [List.setIfInBounds_toArray, List.set_cons_zero, List.set_cons_succ])
    refine heldTake 5 _ rfl (by kernel_rfl) (by kernel_rfl) (by kernel_rfl) (fun _ _ _ h => h) rfl hS (fun wy hy => by first | (go_simp; done) | (go_simp; rfl) | rfl) ?_
    (try simp only [Act.put]); (try simp only [List.setIfInBounds_toArray, List.set_cons_zero, List.set_cons_succ])
    refine heldTake 6 _ rfl (by kernel_rfl) (by kernel_rfl) (by kernel_rfl) (fun _ _ _ h => h) rfl hS (fun wy hy => by first | (go_simp; done) | (go_simp; rfl) | rfl) ?_
    (try simp only [Act.put]); (try simp only [List.setIfInBounds_toArray, List.set_cons_zero, List.set_cons_succ])
    refine heldTake 7 _ rfl (by kernel_rfl) (by kernel_rfl) (by kernel_rfl) (fun _ _ _ h => h) rfl hS (fun wy hy => by have h0 := blk_cell (j := 1) (v := .int .i64 (p : Nat)) hy rfl; first | (go_simp; done) | (go_simp; rfl) | rfl) ?_
    (try simp only [Act.put]); (try simp only [List.setIfInBounds_toArray, List.set_cons_zero, List.set_cons_succ])
    refine heldTake 8 (.slice a2 n2 c2) rfl (by kernel_rfl) (by kernel_rfl) (by kernel_rfl) (fun _ _ _ h => h) rfl hS (fun wy hy => by rw [← HD2.out]; exact exec_drop (k := p) rfl rfl rfl HEX.out.1 HEX.out.2.1 HEX.out.2.2) ?_
    refine heldTake 9 _ rfl (by kernel_rfl) (by kernel_rfl) (by kernel_rfl) (fun _ _ _ h => h) rfl hS (fun wy hy => by first | (go_simp; done) | (go_simp; rfl) | rfl) ?_
    (try simp only [Act.put]); (try simp only [List.setIfInBounds_toArray, List.set_cons_zero, List.set_cons_succ])
    refine heldDone (by kernel_rfl) ?_
    clear hS
    go_wp2_with fail
    go_meet
    case rel => exact ⟨rfl, HQ0.out.next (by refine Below.drew ?_; exact Below.refl _ _), HM0.out.next (by refine Below.drew ?_; exact Below.refl _ _)⟩
  obtain ⟨rfl, hcc⟩ := hcut
  obtain ⟨w1, hw1⟩ : ∃ x, x = wc := ⟨_, rfl⟩
  subst hw1
  have HQ1 := hide hcc.out.1
  have HM1 := hide hcc.out.2
  clear hcc HM0 HQ0
  go_wp2_with fail
  refine (toodeep8_any w1 M st.length d _ _ ao co HM1.out.m _ r (HBD.out.move (keep_below HQ1.out.b))).mono ?_
  rintro e w2 ⟨rfl, hb2⟩
  have HQ2 := hide (HQ1.out.next hb2)
  have HM2 := hide (HM1.out.next hb2)
  clear hb2 HQ1 HM1
  have HRT : Hid (rtake want (decide (st.length = d)) ks r = if rnest r = true ∧ decide (st.length = d) = true then 81 else if rlook want r ≠ 0 then rlook want r else if (hrd r).s = false ∨ (want = 1 ∧ rrise ks (nstr (rbody r)) = false) then 84 else 0) := rfl
  have HI1 : Hid ((Tryz.prog.info? 115).map (·.size) = some zi.size) := infoI
  have HA1 : Hid (zi.all (·.oneCell') = true) := zi_all
  cases hd : (rnest r && decide (st.length = d)) with
  | true => as_aux_lemma =>
    have HK : Hid (rtake want (decide (st.length = d)) ks (b.drop p) = 81) := by
      show _ = _
      rw [HRR.out, HRT.out, if_pos (by simpa using hd)]
    have HR2 := hide HQ2.out.r
    clear hd HRT
    go_wp2_with (refine wpList_storeRow rfl rfl w.heap.size zi zi 115 rfl rfl HR2.out HI1.out rfl HA1.out ?_)
    exact bodyPost_ret (end_take rfl (row_same HR2.out) rfl rfl) rfl (TakeP.bad HK.out (by decide) (HQ2.out.b.trans ((row_kp _ _ _).below HQ2.out.b.size (fun q e => by omega))) HMC.out)
  | false =>
    have HRT2 : Hid (rtake want (decide (st.length = d)) ks r = if rlook want r ≠ 0 then rlook want r else if (hrd r).s = false ∨ (want = 1 ∧ rrise ks (nstr (rbody r)) = false) then 84 else 0) := by
      show _ = _
      rw [HRT.out, if_neg (fun h => by rw [h.1, h.2] at hd; cases hd)]
    clear hd HRT
    go_wp2_with fail
    refine (look8_any W HT.out w2 (HWW.out.trans (HQ2.out.b.mono HWW.out.size)) _ r (HBD.out.move (keep_below HQ2.out.b)) HRL.out want).mono ?_
    rintro e w3 ⟨hb3, c, hc1, hc2, rfl, hc3⟩
    have HQ3 := hide (HQ2.out.next hb3)
    have HM3 := hide (HM2.out.next hb3)
    have HC1 := hide hc1
    have HC2 := hide hc2
    have HC3 := hide hc3
    clear hb3 HQ2 HM2 hc1 hc2 hc3
    have hmk : Below w3.heap.size w3 ((w3.alloc (.cells zi 115)).setRow w3.heap.size c) ∧ ((w3.alloc (.cells zi 115)).setRow w3.heap.size c).heap[w3.heap.size]? = some (.cells c 115 (0, 0)) := ⟨(below_alloc4 w3 _).trans ((row_kp _ _ _).below (below_alloc4 w3 _).size (fun q e => by omega)), row_same (heap_alloc_new w3 _)⟩
    have HN3 := hide (heap_alloc_new w3 (.cells zi 115))
    have HQ4 := hide (HQ3.out.next hmk.1)
    have HM4 := hide (HM3.out.next hmk.1)
    have HG4 := hide hmk.2
    have HB4 := hide hmk.1
    have HI4 : Hid ((Tryz.prog.info? 115).map (·.size) = some c.size) := by show _ = _; rw [HC1.out]; exact infoI
    have HZ4 : Hid (zi.size = c.size) := by show _ = _; rw [HC1.out]; rfl
    have HWG : Hid (w.heap.size < w3.heap.size) := blk_lt HQ3.out.r
    clear hmk HM3
    go_upto_region 5 with (refine wpList_storeRow rfl rfl w3.heap.size zi c 115 rfl rfl HN3.out HI4.out HZ4.out HC2.out ?_)
    unfold zi at HQ4 HM4 HG4 HB4
    generalize (w3.alloc (.cells #[.int .i64 0, .int .i64 0, .int .u64 0, .int .i64 0, .bool false, .slice none 0 0, .string ⟨#[]⟩, .int .i64 0, .int .u64 0, .int .u64 0, .string ⟨#[]⟩] 115)).setRow w3.heap.size c = w4 at *
    (try simp only [Act.put]); (try simp only [List.setIfInBounds_toArray, List.set_cons_zero, List.set_cons_succ])
    have HR4 := hide HQ4.out.r
    clear HQ3 HN3
    by_cases hlk : rlook want r = 0
    case neg => as_aux_lemma =>
      have gk : ((rlook want r : Int) != 0) = true := by rw [bne_iff_ne]; omega
      have HK : Hid (rtake want (decide (st.length = d)) ks (b.drop p) = rlook want r) := by
        show _ = _
        rw [HRR.out, HRT2.out, if_pos hlk]
      have HK0 := hide hlk
      clear hlk HRT2 HC3
      go_wp2_with (refine wpList_storeRow rfl rfl w.heap.size zi zi 115 rfl rfl HR4.out HI1.out rfl HA1.out ?_)
      exact bodyPost_ret (end_take rfl (row_same HR4.out) rfl rfl) rfl (TakeP.bad HK.out HK0.out (HQ4.out.b.trans ((row_kp _ _ _).below HQ4.out.b.size (fun q e => by omega))) HMC.out)
    have gk : ((rlook want r : Int) != 0) = false := by rw [bne_eq_false_iff_eq]; omega
    obtain ⟨vb, hcE, hvb⟩ := HC3.out hlk
    have HVB := hide hvb
    have HRT3 : Hid (rtake want (decide (st.length = d)) ks r = if (hrd r).s = false ∨ (want = 1 ∧ rrise ks (nstr (rbody r)) = false) then 84 else 0) := by
      show _ = _
      rw [HRT2.out, if_neg (fun h => h hlk)]
    have HLK := hide hlk
    subst hcE
    have HTX : Hid (want = 1 → rtext (hrd r) (rbody r) ⟨#[]⟩ = nstr (rbody r)) := fun h1 => by
      have h3 := rlook_key hlk h1
      unfold rtext
      rw [if_pos h3]
    clear HC3 HRT2 hvb hlk
    generalize hh : hrd r = hd at *
    have HHD := hide hh
    clear hh
    generalize htx : rtext hd (rbody r) ⟨#[]⟩ = tx at *
    have HTE := hide htx
    clear htx
    generalize hlx : rlink want hd (rbody r) ⟨0, 0, 0, []⟩ = lx at *
    have HLE := hide hlx
    clear hlx
    have i1 : w4.cell? ⟨w3.heap.size, 1, none⟩ = some (.int .i64 (hd.i : Nat)) := blk_cell (j := 1) HG4.out rfl
    have i4 : w4.cell? ⟨w3.heap.size, 4, none⟩ = some (.bool hd.s) := blk_cell (j := 4) HG4.out rfl
    have i6 : w4.cell? ⟨w3.heap.size, 6, none⟩ = some (.string tx) := blk_cell (j := 6) HG4.out rfl
    cases hsS : hd.s with
    | false => as_aux_lemma =>
      have HK : Hid (rtake want (decide (st.length = d)) ks (b.drop p) = 84) := by
        show _ = _
        rw [HRR.out, HRT3.out, if_pos (.inl (by first | exact hsS | (rw [HHD.out]; exact hsS)))]
      rw [hsS] at i4
      clear hsS
      go_wp2_with (refine wpList_storeRow rfl rfl w.heap.size zi zi 115 rfl rfl HR4.out HI1.out rfl HA1.out ?_)
      exact bodyPost_ret (end_take rfl (row_same HR4.out) rfl rfl) rfl (TakeP.bad HK.out (by decide) (HQ4.out.b.trans ((row_kp _ _ _).below HQ4.out.b.size (fun q e => by omega))) HMC.out)
    | true =>
    rw [hsS] at i4
    by_cases hw1 : want = 1
    case neg => as_aux_lemma =>
      have gw : ((want : Int) == 1) = false := beq_eq_false_iff_ne.2 (by omega)
      have HK : Hid (rtake want (decide (st.length = d)) ks (b.drop p) = 0) := by
        show _ = _
        rw [HRR.out, HRT3.out, if_neg (fun h => by rcases h with h | h; (first | (rw [hsS] at h; cases h) | (rw [HHD.out, hsS] at h; cases h)); exact hw1 h.1)]
      have HUL : Hid (hd.u + (rbody r).length ≤ r.length) := by
        have h := rlook_le HLK.out
        unfold rused at h
        rw [HHD.out] at h
        exact h
      have hul := HUL.out
      have hrl : r.length = b.length - p := by rw [← HRR.out, List.length_drop]
      have hpb := HPP.out
      obtain ⟨av, cv, hvE⟩ : ∃ av cv, vb = .slice av (rbody r).length cv := by
        obtain ⟨⟨av, cv, h1, _⟩, _⟩ := HVB.out
        exact ⟨av, cv, h1⟩
      subst hvE
      have k3 : w4.cell? ⟨w3.heap.size, 3, none⟩ = some (.int .i64 (hd.u : Nat)) := blk_cell (j := 3) HG4.out rfl
      have k5 : w4.cell? ⟨w3.heap.size, 5, none⟩ = some (.slice av (rbody r).length cv) := blk_cell (j := 5) HG4.out rfl
      have m1 : w4.cell? ⟨M, 1, none⟩ = some (.int .i64 (p : Nat)) := blk_cell (j := 1) HM4.out.m rfl
      have f1 := blk_frozen 1 HM4.out.m
      have e1 : IntKind.i64.wrap ((hd.u : Int) + ((rbody r).length : Int)) = (hd.u : Int) + ((rbody r).length : Int) := by rw [IntKind.wrap_i64]; omega
      have e2 : IntKind.i64.wrap ((p : Int) + ((hd.u : Int) + ((rbody r).length : Int))) = (p : Int) + ((hd.u : Int) + ((rbody r).length : Int)) := by rw [IntKind.wrap_i64]; omega
      have HMS : Hid (Mac (w4.setCell ⟨M, 1, none⟩ (.int .i64 ((p : Int) + ((hd.u : Int) + ((rbody r).length : Int))))).drew lo M (.slice aB b.length cB) b d (p + (hd.u + (rbody r).length)) (.slice ao st.length co) st C K I L) := by
        have h := HM4.out.set (p + (hd.u + (rbody r).length))
        simp only [Int.natCast_add] at h
        exact h.next (by refine Below.drew ?_; exact Below.refl _ _)
      have hkM : Kp (fun q => q = M) w4 (w4.setCell ⟨M, 1, none⟩ (.int .i64 ((p : Int) + ((hd.u : Int) + ((rbody r).length : Int))))).drew := ((Kp.refl (fun q => q = M) w4).setCell ⟨M, 1, none⟩ _ (fun _ => rfl)).drew
      have HKX : Hid (Kp (fun q => q = M) w (w4.setCell ⟨M, 1, none⟩ (.int .i64 ((p : Int) + ((hd.u : Int) + ((rbody r).length : Int))))).drew) := (Kp.of_below HQ4.out.b).trans hkM (fun _ _ h => h)
      have HR6 : Hid ((w4.setCell ⟨M, 1, none⟩ (.int .i64 ((p : Int) + ((hd.u : Int) + ((rbody r).length : Int))))).drew.heap[w.heap.size]? = some (.cells zi 115 (0, 0))) := (hkM.block _ (blk_lt HQ4.out.r) (by have := HMZ.out; omega)).trans HQ4.out.r
      have HG6 : Hid ((w4.setCell ⟨M, 1, none⟩ (.int .i64 ((p : Int) + ((hd.u : Int) + ((rbody r).length : Int))))).drew.heap[w3.heap.size]? = some (.cells (ics hd (.slice av (rbody r).length cv) tx lx) 115 (0, 0))) := (hkM.block _ (blk_lt HG4.out) (by have := HMZ.out; have := HWG.out; omega)).trans HG4.out
      have HBS : Hid (BSl (w4.setCell ⟨M, 1, none⟩ (.int .i64 ((p : Int) + ((hd.u : Int) + ((rbody r).length : Int))))).drew (.slice av (rbody r).length cv) (rbody r)) := bsl_kp8 (HVB.out.move (keep_below HB4.out)) HM4.out.m (mac_no _ _ _ _ (fun _ h => by cases h) (fun _ h => by cases h)) hkM
      have HRU : Hid (rused r = hd.u + (rbody r).length) := by
        show _ = _
        unfold rused
        rw [HHD.out]
      clear hw1 hsS
      clear hkM hul hrl hpb
      go_upto_region 9 with fail
      go_region
      clear k3 k5 m1 f1 e1 e2
      generalize (w4.setCell ⟨M, 1, none⟩ (.int .i64 ((p : Int) + ((hd.u : Int) + ((rbody r).length : Int))))).drew = w8 at *
      go_wp2_with (first
        | (refine wpList_exec rfl (exec_itemAt (g := w3.heap.size) rfl rfl HG6.out) ?_)
        | (refine wpList_storeRow rfl rfl w.heap.size zi (ics hd (.slice av (rbody r).length cv) tx lx) 115 rfl rfl HR6.out HI4.out HZ4.out HC2.out ?_))
      have hkr := row_kp w8 w.heap.size (ics hd (.slice av (rbody r).length cv) tx lx)
      have hkF : Kp (fun q => q = M) w (w8.setRow w.heap.size (ics hd (.slice av (rbody r).length cv) tx lx)) := HKX.out.trans hkr (fun q hq e => by omega)
      have hmz := HMZ.out
      refine bodyPost_ret (end_take rfl (row_same HR6.out) rfl rfl) rfl (show TakeP _ _ _ _ _ _ _ _ _ _ _ _ _ _ _ _ _ from ⟨hkF, _, rfl, HC2.out, by rw [HK.out]; rfl, fun hne => absurd HK.out hne, fun _ => ⟨?_, ?_⟩⟩)
      · rw [HRR.out, HRU.out]
        exact ⟨(hkr.block _ (blk_lt HMS.out.m) (by omega)).trans HMS.out.m, hkF.bsl HMC.out.b (fun r hr e => (HMC.out.q r hr).2 e), HMC.out.q, HMC.out.o.kp (hkF.mono (fun r _ e => by have := HMC.out.lm; show r < lo; omega)), HMC.out.lm, Nat.le_trans HMC.out.l hkF.size⟩
      · rw [HRR.out, HHD.out, HTE.out, HLE.out]
        refine ⟨_, rfl, ?_⟩
        exact bsl_kp8 HBS.out HR6.out zi_no hkr
    have gw : ((want : Int) == 1) = true := beq_iff_eq.2 (by omega)
    obtain ⟨q, x, hq1, hq2, hq3⟩ := HKS.out hw1
    have HTN := hide (HTX.out hw1)
    have hMq := HM4.out
    rw [hq1] at hMq
    have hql : q.length ≤ 100000 := by rw [hq1] at hst; simp at hst; omega
    have HRC := hide (rises8_any w4 lo M _ b d p _ q x C K I L hMq hql tx hq3)
    have HRE : Hid (rrise x.ks tx = rrise ks (nstr (rbody r))) := by show _ = _; rw [hq2, HTN.out]
    have HW1 := hide hw1
    clear hMq hql hq1 hq2 hq3 HTX hw1
    go_wp2_with fail
    refine HRC.out.mono ?_
    rintro e w5 ⟨rfl, hb5⟩
    have HQ5 := hide (HQ4.out.next hb5)
    have HM5 := hide (HM4.out.next hb5)
    have HG5 : Hid (w5.heap[w3.heap.size]? = _) := (hb5.block _ (blk_lt HG4.out)).trans HG4.out
    have HB5 : Hid (Below w3.heap.size w3 w5) := HB4.out.trans (hb5.mono HB4.out.size)
    have HR5 := hide HQ5.out.r
    rw [HRE.out]
    clear hb5 HQ4 HM4 HG4 HR4 HB4 HRC
    clear i1 i4 i6
    cases hrs : rrise ks (nstr (rbody r)) with
    | false => as_aux_lemma =>
      have HK : Hid (rtake want (decide (st.length = d)) ks (b.drop p) = 84) := by
        show _ = _
        rw [HRR.out, HRT3.out, if_pos (.inr ⟨HW1.out, hrs⟩)]
      clear hrs hsS
      go_wp2_with (refine wpList_storeRow rfl rfl w.heap.size zi zi 115 rfl rfl HR5.out HI1.out rfl HA1.out ?_)
      exact bodyPost_ret (end_take rfl (row_same HR5.out) rfl rfl) rfl (TakeP.bad HK.out (by decide) (HQ5.out.b.trans ((row_kp _ _ _).below HQ5.out.b.size (fun q e => by omega))) HMC.out)
    | true => as_aux_lemma =>
      have HRS := hide hrs
      clear hrs
      have HK : Hid (rtake want (decide (st.length = d)) ks (b.drop p) = 0) := by
        show _ = _
        rw [HRR.out, HRT3.out, if_neg (fun h => by rcases h with h | h; (first | (rw [hsS] at h; cases h) | (rw [HHD.out, hsS] at h; cases h)); rw [HRS.out] at h; cases h.2)]
      have HUL : Hid (hd.u + (rbody r).length ≤ r.length) := by
        have h := rlook_le HLK.out
        unfold rused at h
        rw [HHD.out] at h
        exact h
      have hul := HUL.out
      have hrl : r.length = b.length - p := by rw [← HRR.out, List.length_drop]
      have hpb := HPP.out
      obtain ⟨av, cv, hvE⟩ : ∃ av cv, vb = .slice av (rbody r).length cv := by
        obtain ⟨⟨av, cv, h1, _⟩, _⟩ := HVB.out
        exact ⟨av, cv, h1⟩
      subst hvE
      have k3 : w5.cell? ⟨w3.heap.size, 3, none⟩ = some (.int .i64 (hd.u : Nat)) := blk_cell (j := 3) HG5.out rfl
      have k5 : w5.cell? ⟨w3.heap.size, 5, none⟩ = some (.slice av (rbody r).length cv) := blk_cell (j := 5) HG5.out rfl
      have m1 : w5.cell? ⟨M, 1, none⟩ = some (.int .i64 (p : Nat)) := blk_cell (j := 1) HM5.out.m rfl
      have f1 := blk_frozen 1 HM5.out.m
      have e1 : IntKind.i64.wrap ((hd.u : Int) + ((rbody r).length : Int)) = (hd.u : Int) + ((rbody r).length : Int) := by rw [IntKind.wrap_i64]; omega
      have e2 : IntKind.i64.wrap ((p : Int) + ((hd.u : Int) + ((rbody r).length : Int))) = (p : Int) + ((hd.u : Int) + ((rbody r).length : Int)) := by rw [IntKind.wrap_i64]; omega
      have HMS : Hid (Mac (w5.setCell ⟨M, 1, none⟩ (.int .i64 ((p : Int) + ((hd.u : Int) + ((rbody r).length : Int))))).drew lo M (.slice aB b.length cB) b d (p + (hd.u + (rbody r).length)) (.slice ao st.length co) st C K I L) := by
        have h := HM5.out.set (p + (hd.u + (rbody r).length))
        simp only [Int.natCast_add] at h
        exact h.next (by refine Below.drew ?_; exact Below.refl _ _)
      have hkM : Kp (fun q => q = M) w5 (w5.setCell ⟨M, 1, none⟩ (.int .i64 ((p : Int) + ((hd.u : Int) + ((rbody r).length : Int))))).drew := ((Kp.refl (fun q => q = M) w5).setCell ⟨M, 1, none⟩ _ (fun _ => rfl)).drew
      have HKX : Hid (Kp (fun q => q = M) w (w5.setCell ⟨M, 1, none⟩ (.int .i64 ((p : Int) + ((hd.u : Int) + ((rbody r).length : Int))))).drew) := (Kp.of_below HQ5.out.b).trans hkM (fun _ _ h => h)
      have HR6 : Hid ((w5.setCell ⟨M, 1, none⟩ (.int .i64 ((p : Int) + ((hd.u : Int) + ((rbody r).length : Int))))).drew.heap[w.heap.size]? = some (.cells zi 115 (0, 0))) := (hkM.block _ (blk_lt HQ5.out.r) (by have := HMZ.out; omega)).trans HQ5.out.r
      have HG6 : Hid ((w5.setCell ⟨M, 1, none⟩ (.int .i64 ((p : Int) + ((hd.u : Int) + ((rbody r).length : Int))))).drew.heap[w3.heap.size]? = some (.cells (ics hd (.slice av (rbody r).length cv) tx lx) 115 (0, 0))) := (hkM.block _ (blk_lt HG5.out) (by have := HMZ.out; have := HWG.out; omega)).trans HG5.out
      have HBS : Hid (BSl (w5.setCell ⟨M, 1, none⟩ (.int .i64 ((p : Int) + ((hd.u : Int) + ((rbody r).length : Int))))).drew (.slice av (rbody r).length cv) (rbody r)) := bsl_kp8 (HVB.out.move (keep_below HB5.out)) HM5.out.m (mac_no _ _ _ _ (fun _ h => by cases h) (fun _ h => by cases h)) hkM
      have HRU : Hid (rused r = hd.u + (rbody r).length) := by
        show _ = _
        unfold rused
        rw [HHD.out]
      clear hsS
      clear hkM hul hrl hpb
      go_upto_region 9 with fail
      go_region
      clear k3 k5 m1 f1 e1 e2
      generalize (w5.setCell ⟨M, 1, none⟩ (.int .i64 ((p : Int) + ((hd.u : Int) + ((rbody r).length : Int))))).drew = w8 at *
      go_wp2_with (first
        | (refine wpList_exec rfl (exec_itemAt (g := w3.heap.size) rfl rfl HG6.out) ?_)
        | (refine wpList_storeRow rfl rfl w.heap.size zi (ics hd (.slice av (rbody r).length cv) tx lx) 115 rfl rfl HR6.out HI4.out HZ4.out HC2.out ?_))
      have hkr := row_kp w8 w.heap.size (ics hd (.slice av (rbody r).length cv) tx lx)
      have hkF : Kp (fun q => q = M) w (w8.setRow w.heap.size (ics hd (.slice av (rbody r).length cv) tx lx)) := HKX.out.trans hkr (fun q hq e => by omega)
      have hmz := HMZ.out
      refine bodyPost_ret (end_take rfl (row_same HR6.out) rfl rfl) rfl (show TakeP _ _ _ _ _ _ _ _ _ _ _ _ _ _ _ _ _ from ⟨hkF, _, rfl, HC2.out, by rw [HK.out]; rfl, fun hne => absurd HK.out hne, fun _ => ⟨?_, ?_⟩⟩)
      · rw [HRR.out, HRU.out]
        exact ⟨(hkr.block _ (blk_lt HMS.out.m) (by omega)).trans HMS.out.m, hkF.bsl HMC.out.b (fun r hr e => (HMC.out.q r hr).2 e), HMC.out.q, HMC.out.o.kp (hkF.mono (fun r _ e => by have := HMC.out.lm; show r < lo; omega)), HMC.out.lm, Nat.le_trans HMC.out.l hkF.size⟩
      · rw [HRR.out, HHD.out, HTE.out, HLE.out]
        refine ⟨_, rfl, ?_⟩
        exact bsl_kp8 HBS.out HR6.out zi_no hkr
end
section
open Go.RowKit Go
theorem row_cell_comm (w : World) (g gi j : Nat) (v : Value) (r : Array Value) (h : gi ≠ g) : (w.setCell ⟨g, j, none⟩ v).setRow gi r = (w.setRow gi r).setCell ⟨g, j, none⟩ v := by
  unfold World.setRow World.setCell
  congr 1
  apply Array.ext_getElem?
  intro k
  simp only [Array.getElem?_modify]
  by_cases h1 : gi = k
  · subst h1
    simp [show ¬ g = gi from fun e => h e.symm]
  · simp [h1]
theorem zv_one8 : one13 zv := by
  refine ⟨rfl, fun u hu => ?_⟩
  simp only [zv, List.mem_cons, List.not_mem_nil, or_false] at hu
  rcases hu with rfl | rfl | rfl | rfl | rfl | rfl | rfl | rfl | rfl | rfl | rfl | rfl | rfl <;> rfl
set_option maxRecDepth 1000000 in
set_option maxHeartbeats 2000000 in
theorem add8_any (w : World) (lo M : Nat) (vB : Value) (b : List Nat) (d p : Nat) (vo : Value) (q : List Nst) (x : Nst) (C : List (Array Value)) (K I : Nat → Value) (L : Nat → List (Array Value)) (h : Mac w lo M vB b d p vo (q ++ [x]) C K I L) (hst : q.length ≤ 100000) (u : Tv) (c : Array Value) (hu : Tis w (Lvs (fun r => r < lo) vo (q ++ [x]).length K I) u c) (hil : x.is.length ≤ 10000000) (hn : 0 < x.n) :
    Calls Tryz.prog 81 #[.pointer (some ⟨M, 0, none⟩), .agg c] w fun e w' => e = .returned (.tuple #[]) ∧ Kp (fun q => lo ≤ q) w w' ∧ ∃ C' K' I' L', Mac w' lo M vB b d p vo (q ++ [⟨x.k, x.ks, x.is ++ [u], x.n - 1⟩]) C' K' I' L' := by
  have HMC := hide h
  obtain ⟨-, -, -, g, cap, hvo, hcap, hlg⟩ := h.o.row
  subst hvo
  have hx := h.o.e q.length x (by simp)
  obtain ⟨ai, ci, hvi⟩ := own_slice8 hx.i
  have HVI := hide hvi
  have HUU := hide hu
  have HLL := hide hx.n
  have HL13 : Hid (∀ e ∈ L q.length ++ [zv], e.size = 13) := fun e he => by
    rcases List.mem_append.1 he with h1 | h1
    · exact hx.s e h1
    · simp only [List.mem_singleton] at h1
      rw [h1]; rfl
  have HXZ := hide hx.z
  have HIL : Hid (∀ r, (Value.slice ai x.is.length ci).ownBlock = some r → r < w.heap.size) := fun r hr => (hx.i.lt r (by rw [hvi]; exact hr)).2
  have HC13 := hide hu.tin.size13
  have HCO : Hid (∀ v ∈ c.toList, v.oneCell' = true) := fun v hv => by
    have h1 := hu.tin.all1
    rw [Array.all_eq_true'] at h1
    exact h1 v (by simpa using hv)
  have HZO := hide zv_one8
  have HP0 := hide (heap_alloc_new w (.cells c 62))
  have HM0 := hide (h.next (below_alloc4 w (.cells c 62)))
  have HB0 := hide (below_alloc4 w (.cells c 62))
  have HGS : Hid (g < w.heap.size) := (h.o.o.lt g rfl).2
  have HPG : Hid (w.heap.size ≠ g) := by have := HGS.out; show _ ≠ _; omega
  clear h hx hvi hu
  go_enter Tryz.func81, Tryz.ntmps81
  go_wp2_with fail
  generalize w.alloc (.cells c 62) = w0 at *
  refine (top_any w0 M g (q.length + 1) cap vB _ _ HM0.out.m (by omega) (by omega)).mono ?_
  rintro e w2 ⟨rfl, hb2, -⟩
  have HM2 := hide (HM0.out.next hb2)
  have HB2 : Hid (Below w.heap.size w w2) := HB0.out.trans (hb2.mono HB0.out.size)
  have HP2 : Hid (w2.heap[w.heap.size]? = some (.cells c 62 (0, 0))) := (hb2.block _ (blk_lt HP0.out)).trans HP0.out
  rw [Nat.add_sub_cancel]
  clear hb2 HM0 HB0 HP0
  go_wp2_with fail
  have HMD := hide (HM2.out.next (show Below w2.heap.size w2 w2.drew by refine Below.drew ?_; exact Below.refl _ _))
  have HBD : Hid (Below w.heap.size w w2.drew) := by refine Below.drew ?_; exact HB2.out
  have HPD : Hid (w2.drew.heap[w.heap.size]? = some (.cells c 62 (0, 0))) := HP2.out
  go_cut [] from 7 to 19 (fun wx => ∃ v5 w6, wx = w6.setCell ⟨g, q.length * 14 + 12, none⟩ v5 ∧ Hid (w6.ownsRow lo 62 13 v5 (x.is.length + 1) (vfl (L q.length ++ [c])) ∧ Kp (fun r => (Value.slice ai x.is.length ci).ownBlock = some r) w2.drew w6 ∧ (v5.ownBlock = (Value.slice ai x.is.length ci).ownBlock ∨ ∀ r, v5.ownBlock = some r → w2.drew.heap.size ≤ r)))
  case first => as_aux_lemma =>
    refine heldStart (S := fun wy => wy.heap[w.heap.size]? = some (.cells c 62 (0, 0))) (by kernel_rfl) ?_
    have hS : w2.drew.heap[w.heap.size]? = some (.cells c 62 (0, 0)) := HPD.out
    generalize w2.drew = w3 at *
    have HM3 := hide HMD.out
    have HP3 := hide HPD.out
    obtain ⟨curg, hcurg⟩ := HM3.out.o.cell.2
    have HCG := hide hcurg
    clear hcurg HMD HPD HM2 HP2 HB2
    refine heldTake 0 _ rfl (by kernel_rfl) (by kernel_rfl) (by kernel_rfl) (fun _ _ _ h => h) rfl hS (fun wy hy => by first | (go_simp; done) | (go_simp; rfl) | rfl) ?_
    (try simp only [Act.put]); (try simp only [List.setIfInBounds_toArray, List.set_cons_zero, List.set_cons_succ])
    refine heldTake 1 _ rfl (by kernel_rfl) (by kernel_rfl) (by kernel_rfl) (fun _ _ _ h => h) rfl hS (fun wy hy => by first | (go_simp; done) | (go_simp; rfl) | rfl) ?_
    (try simp only [Act.put]); (try simp only [List.setIfInBounds_toArray, List.set_cons_zero, List.set_cons_succ])
    refine heldTake 2 _ rfl (by kernel_rfl) (by kernel_rfl) (by kernel_rfl) (fun _ _ _ h => h) rfl hS (fun wy hy => by first | (go_simp; done) | (go_simp; rfl) | rfl) ?_
    (try simp only [Act.put]); (try simp only [List.setIfInBounds_toArray, List.set_cons_zero, List.set_cons_succ])
    refine heldTake 3 _ rfl (by kernel_rfl) (by kernel_rfl) (by kernel_rfl) (fun _ _ _ h => h) rfl hS (fun wy hy => by first | (go_simp; done) | (go_simp; rfl) | rfl) ?_
    (try simp only [Act.put]); (try simp only [List.setIfInBounds_toArray, List.set_cons_zero, List.set_cons_succ])
    refine heldTake 5 _ rfl (by kernel_rfl) (by kernel_rfl) (by kernel_rfl) (fun _ _ _ h => h) rfl hS (fun wy hy => exec_valAt (g := w.heap.size) (off := 0) (cs := c) rfl rfl HC13.out (fun k y hy2 => by rw [Nat.zero_add]; exact blk_cell hy hy2)) ?_
    (try simp only [Act.put]); (try simp only [List.setIfInBounds_toArray, List.set_cons_zero, List.set_cons_succ])
    refine wpAnyH_ready (rs := [4, 7]) (by kernel_rfl) (by simp) ?_
    refine AllReadyH.cons rfl (fun K hK => ?_) (AllReadyH.cons rfl (fun K hK => ?_) AllReadyH.nil)
    · as_aux_lemma =>
      have x12 : w3.cell? ⟨g, q.length * 14 + 12, none⟩ = some (.slice ai x.is.length ci) := HM3.out.o.cell.1 12 _ (by rw [HVI.out]; rfl)
      go_simp
      refine (Shut.out hK) _ _ hS (fun hS2 => ?_)
      clear hK K hS2 x12
      (try simp only [Act.put]); (try simp only [List.setIfInBounds_toArray, List.set_cons_zero, List.set_cons_succ])
      refine heldTake 6 _ rfl (by kernel_rfl) (by kernel_rfl) (by kernel_rfl) (fun _ _ _ h => h) rfl hS (fun wy hy => by first | (go_simp; done) | (go_simp; rfl) | rfl) ?_
      (try simp only [Act.put]); (try simp only [List.setIfInBounds_toArray, List.set_cons_zero, List.set_cons_succ])
      have HGA : Hid ((w3.alloc (.cells zv 62)).heap[w3.heap.size]? = some (.cells zv 62 (0, 0))) := heap_alloc_new w3 _
      have HBA : Hid (Below w3.heap.size w3 (w3.alloc (.cells zv 62))) := below_alloc4 w3 _
      have HMA := hide (HM3.out.next HBA.out)
      have HPA : Hid ((w3.alloc (.cells zv 62)).heap[w.heap.size]? = some (.cells c 62 (0, 0))) := blk_alloc _ HP3.out
      have HOA : Hid ((w3.alloc (.cells zv 62)).ownsRow lo 62 13 (.slice ai x.is.length ci) x.is.length (vfl (L q.length))) := by
        have h := (HMA.out.o.e q.length x (by simp)).i
        rw [HVI.out] at h
        exact h
      have HLB : Hid (lo ≤ (w3.alloc (.cells zv 62)).heap.size) := by have h1 := HMA.out.l; have h2 := HMA.out.o.mz M HMA.out.lm; show _ ≤ _; omega
      have HCU : Hid ((w3.alloc (.cells zv 62)).heap[g]? = some (.cells curg 121 (0, 0))) := blk_alloc _ HCG.out
      have HPI : Hid (¬ (Value.slice ai x.is.length ci).ownBlock = some w.heap.size) := fun e => by have := HIL.out _ e; omega
      have HGI : Hid (¬ (Value.slice ai x.is.length ci).ownBlock = some g) := fun e => own_not HOA.out HCU.out (by decide) e
      refine heldStep 7 rfl (by kernel_rfl) (fun K hK => ?_)
      refine step_val18 rfl rfl zv rfl rfl ?_
      refine (Hid.out hK) _ (w3.alloc (.cells zv 62)) HPA.out (fun hS2 => ?_)
      clear hK K hS
      (try simp only [Act.put]); (try simp only [List.setIfInBounds_toArray, List.set_cons_zero, List.set_cons_succ])
      generalize w3.alloc (.cells zv 62) = wA at *
      refine heldStep 8 rfl (by kernel_rfl) (fun K hK => ?_)
      refine step_append_val8 rfl _ _ rfl lo (.slice ai x.is.length ci) x.is.length (vfl (L q.length)) rfl HOA.out w3.heap.size zv HZO.out rfl HGA.out (by omega) HLB.out (fun v5 w5 ho5 hg5 hq5 => ?_)
      obtain ⟨gi, c5, hv5, cur5, hcur5, hcs5⟩ : ∃ gi c5, v5 = .slice (some ⟨gi, 0, none⟩) (x.is.length + 1) c5 ∧ ∃ cur5, w5.heap[gi]? = some (.cells cur5 62 (0, 0)) ∧ (x.is.length + 1) * 13 ≤ cur5.size := by
        rcases ho5.2 with ⟨_, h0⟩ | ⟨gi, c5, cur5, e, _, h1, h2, _, h3, _⟩
        · omega
        · exact ⟨gi, c5, e, cur5, h1, by rw [h3]; exact Nat.mul_le_mul_right 13 h2⟩
      subst hv5
      have hk5 : Kp (fun r => (Value.slice ai x.is.length ci).ownBlock = some r) wA w5 := (Kp.refl _ _).grown hg5 (fun _ _ h => h)
      have hP5 : w5.heap[w.heap.size]? = some (.cells c 62 (0, 0)) := (hk5.block _ (blk_lt HPA.out) HPI.out).trans HPA.out
      have hgi5 : (Value.slice ai x.is.length ci).ownBlock = some gi ∨ gi = wA.heap.size := by
        rcases hq5 with e | e
        · exact .inl e.symm
        · injection e with e
          exact .inr e
      have hgiP : gi ≠ w.heap.size := fun e => by
        rcases hgi5 with h | h
        · exact HPI.out (by rw [← e]; exact h)
        · have := blk_lt HPA.out
          omega
      have hgg : gi ≠ g := fun e => by
        rcases hgi5 with h | h
        · exact (HMA.out.o.d q.length (by simp) gi (.inr (by rw [HVI.out]; exact h))).2.1 (by rw [e]; rfl)
        · have := blk_lt HCU.out
          omega
      have hkS := row_kp w5 gi (splice cur5.toList (x.is.length * 13) c.toList).toArray
      have hrow6 : (w5.setRow gi (splice cur5.toList (x.is.length * 13) c.toList).toArray).ownsRow lo 62 13 (.slice (some ⟨gi, 0, none⟩) (x.is.length + 1) c5) (x.is.length + 1) (vfl (L q.length ++ [c])) := by
        have e1 : vfl (L q.length) ++ zv.toList = vfl (L q.length ++ [zv]) := by rw [vfl_app]; simp [vfl]
        have h0 := ho5
        rw [e1] at h0
        have h1 := own_part (c' := c) (j := x.is.length) h0 (by rw [List.length_append, HLL.out]; rfl) HL13.out hcur5 (by omega) HC13.out (row_same hcur5)
        have e2 : (L q.length ++ [zv]).set x.is.length c = L q.length ++ [c] := by
          rw [List.set_append_right _ _ (by rw [HLL.out]; exact Nat.le_refl _), HLL.out, Nat.sub_self]
          rfl
        rw [e2] at h1
        exact h1
      have HRW : Hid ((w5.setRow gi (splice cur5.toList (x.is.length * 13) c.toList).toArray).ownsRow lo 62 13 (.slice (some ⟨gi, 0, none⟩) (x.is.length + 1) c5) (x.is.length + 1) (vfl (L q.length ++ [c])) ∧ Kp (fun r => (Value.slice ai x.is.length ci).ownBlock = some r) w3 (w5.setRow gi (splice cur5.toList (x.is.length * 13) c.toList).toArray) ∧ ((Value.slice (some ⟨gi, 0, none⟩) (x.is.length + 1) c5).ownBlock = (Value.slice ai x.is.length ci).ownBlock ∨ ∀ r, (Value.slice (some ⟨gi, 0, none⟩) (x.is.length + 1) c5).ownBlock = some r → w3.heap.size ≤ r)) := by
        refine ⟨hrow6, ((Kp.of_below (S := fun r => (Value.slice ai x.is.length ci).ownBlock = some r) HBA.out).trans hk5 (fun _ _ h => h)).trans hkS (fun r hr e => ?_), ?_⟩
        · rcases hgi5 with h | h
          · rw [e]; exact h
          · have := HBA.out.size
            omega
        · rcases hgi5 with h | h
          · exact .inl h.symm
          · refine .inr (fun r hr => ?_)
            have e2 : gi = r := by simpa [Value.ownBlock] using hr
            have := HBA.out.size
            omega
      have hP6 : (w5.setRow gi (splice cur5.toList (x.is.length * 13) c.toList).toArray).heap[w.heap.size]? = some (.cells c 62 (0, 0)) := (hkS.block _ (blk_lt hP5) (fun e => hgiP e.symm)).trans hP5
      have hcu6 : (w5.setRow gi (splice cur5.toList (x.is.length * 13) c.toList).toArray).heap[g]? = some (.cells curg 121 (0, 0)) := (hkS.block _ (by have := blk_lt HCU.out; have := hk5.size; omega) (fun e => hgg e.symm)).trans ((hk5.block _ (blk_lt HCU.out) HGI.out).trans HCU.out)
      have HC6 : Hid ((w5.setRow gi (splice cur5.toList (x.is.length * 13) c.toList).toArray).cell? ⟨g, q.length * 14 + 12, none⟩ = some (.slice ai x.is.length ci)) := hkS.cell (hk5.cell (HMA.out.o.cell.1 12 _ (by rw [HVI.out]; rfl)) HGI.out) (fun e => hgg e.symm)
      have HF6 := hide (blk_frozen (q.length * 14 + 12) hcu6)
      have HI5 : Hid ((Tryz.prog.info? 62).map (·.size) = some c.size) := by show _ = _; rw [HC13.out]; exact infoV
      have HX5 : Hid (x.is.length * 13 + c.size ≤ cur5.size) := by have := HC13.out; show _ ≤ _; omega
      have HCR := hide hcur5
      have HGG : Hid (gi ≠ g) := hgg
      have HGP : Hid (gi ≠ w.heap.size) := hgiP
      have HC5a : Hid (w5.cell? ⟨g, q.length * 14 + 12, none⟩ = some (.slice ai x.is.length ci)) := hk5.cell (HMA.out.o.cell.1 12 _ (by rw [HVI.out]; rfl)) HGI.out
      have HF5a := hide (blk_frozen (q.length * 14 + 12) ((hk5.block _ (blk_lt HCU.out) HGI.out).trans HCU.out))
      have HIX : Hid ((((x.is.length : Nat) : Int) < ((x.is.length + 1 : Nat) : Int)) ∧ (x.is.length : Int) < (x.is.length : Int) + 1) := ⟨by omega, by omega⟩
      refine (Hid.out hK) _ _ hP5 (fun hS5 => ?_)
      clear hK K ho5 hg5 hq5 hk5 hgi5 hgiP hgg hrow6 hcs5 hkS hcur5 hcu6
      (try simp only [Act.put]); (try simp only [List.setIfInBounds_toArray, List.set_cons_zero, List.set_cons_succ])
      refine heldTake 9 (.pointer (some ⟨gi, x.is.length * 13, none⟩)) rfl (by kernel_rfl) (by kernel_rfl) (by kernel_rfl) (fun _ _ _ h => h) rfl hS5 (fun wy hy => by have h0 := HIX.out.1; have h1 := HIX.out.2; first | (go_simp; done) | (go_simp; omega) | (go_simp; rfl)) ?_
      refine heldTake 11 _ rfl (by kernel_rfl) (by kernel_rfl) (by kernel_rfl) (fun _ _ _ h => h) rfl hS5 (fun wy hy => by first | (go_simp; done) | (go_simp; rfl) | rfl) ?_
      (try simp only [Act.put]); (try simp only [List.setIfInBounds_toArray, List.set_cons_zero, List.set_cons_succ])
      refine heldTake 12 _ rfl (by kernel_rfl) (by kernel_rfl) (by kernel_rfl) (fun _ _ _ h => h) rfl hS5 (fun wy hy => by first | (go_simp; done) | (go_simp; rfl) | rfl) ?_
      (try simp only [Act.put]); (try simp only [List.setIfInBounds_toArray, List.set_cons_zero, List.set_cons_succ])
      refine heldTake 13 _ rfl (by kernel_rfl) (by kernel_rfl) (by kernel_rfl) (fun _ _ _ h => h) rfl hS5 (fun wy hy => by first | (go_simp; done) | (go_simp; rfl) | rfl) ?_
      (try simp only [Act.put]); (try simp only [List.setIfInBounds_toArray, List.set_cons_zero, List.set_cons_succ])
      have HC5 : Hid (w5.cell? ⟨g, q.length * 14 + 12, none⟩ = some (.slice ai x.is.length ci)) := HC5a
      have HF5 : Hid (w5.frozen? ⟨g, q.length * 14 + 12, none⟩ = false) := HF5a
      refine wpAnyH_ready (rs := [10, 14]) (by kernel_rfl) (by simp) ?_
      refine AllReadyH.cons rfl (fun K hK => ?_) (AllReadyH.cons rfl (fun K hK => ?_) AllReadyH.nil)
      · as_aux_lemma =>
        refine step_storePart8 rfl rfl gi (x.is.length * 13) cur5 c 62 rfl rfl HCR.out HI5.out HX5.out HCO.out ?_
        refine (Shut.out hK) _ _ hP6 (fun hS6 => ?_)
        clear hK K hP5 hS5
        (try simp only [Act.put])
        have c12 := HC6.out
        have f12 := HF6.out
        clear HC5 HF5
        generalize w5.setRow gi (splice cur5.toList (x.is.length * 13) c.toList).toArray = w6 at *
        refine heldStep 14 rfl (by kernel_rfl) (fun K hK => ?_)
        go_simp
        have hP7 : (w6.setCell ⟨g, q.length * 14 + 12, none⟩ (.slice (some ⟨gi, 0, none⟩) (x.is.length + 1) c5)).heap[w.heap.size]? = some (.cells c 62 (0, 0)) := blk_other _ _ hP6 HPG.out
        refine (Hid.out hK) _ _ hP7 (fun hS7 => ?_)
        clear hK K hP6 hS6 c12 f12 hP7
        (try simp only [Act.put])
        refine heldDone (by kernel_rfl) ?_
        clear hS7
        go_wp2_with fail
        go_meet
        case rel => exact ⟨_, w6, rfl, HRW⟩
      · as_aux_lemma =>
        have c12 := HC5.out
        have f12 := HF5.out
        go_simp
        have hP7 : (w5.setCell ⟨g, q.length * 14 + 12, none⟩ (.slice (some ⟨gi, 0, none⟩) (x.is.length + 1) c5)).heap[w.heap.size]? = some (.cells c 62 (0, 0)) := blk_other _ _ hP5 HPG.out
        have HCR7 : Hid ((w5.setCell ⟨g, q.length * 14 + 12, none⟩ (.slice (some ⟨gi, 0, none⟩) (x.is.length + 1) c5)).heap[gi]? = some (.cells cur5 62 (0, 0))) := blk_other _ _ HCR.out HGG.out
        have hrk := row_kp (w5.setCell ⟨g, q.length * 14 + 12, none⟩ (.slice (some ⟨gi, 0, none⟩) (x.is.length + 1) c5)) gi (splice cur5.toList (x.is.length * 13) c.toList).toArray
        have hP8 := (hrk.block _ (blk_lt hP7) (fun e => HGP.out e.symm)).trans hP7
        have HEQ := hide (row_cell_comm w5 g gi (q.length * 14 + 12) (.slice (some ⟨gi, 0, none⟩) (x.is.length + 1) c5) (splice cur5.toList (x.is.length * 13) c.toList).toArray HGG.out)
        refine (Shut.out hK) _ _ hP7 (fun hS7 => ?_)
        clear hK K hS5 c12 f12 hrk hP7
        (try simp only [Act.put])
        refine heldStep 10 rfl (by kernel_rfl) (fun K hK => ?_)
        refine step_storePart8 rfl rfl gi (x.is.length * 13) cur5 c 62 rfl rfl HCR7.out HI5.out HX5.out HCO.out ?_
        refine (Hid.out hK) _ _ hP8 (fun hS8 => ?_)
        clear hK K hS7 hP8 hP5 hP6
        (try simp only [Act.put])
        refine heldDone (by kernel_rfl) ?_
        clear hS8
        go_wp2_with fail
        go_meet
        case rel => exact ⟨_, _, HEQ.out, HRW⟩
    · as_aux_lemma =>
      have HGA : Hid ((w3.alloc (.cells zv 62)).heap[w3.heap.size]? = some (.cells zv 62 (0, 0))) := heap_alloc_new w3 _
      have HBA : Hid (Below w3.heap.size w3 (w3.alloc (.cells zv 62))) := below_alloc4 w3 _
      have HMA := hide (HM3.out.next HBA.out)
      have HPA : Hid ((w3.alloc (.cells zv 62)).heap[w.heap.size]? = some (.cells c 62 (0, 0))) := blk_alloc _ HP3.out
      have HOA : Hid ((w3.alloc (.cells zv 62)).ownsRow lo 62 13 (.slice ai x.is.length ci) x.is.length (vfl (L q.length))) := by
        have h := (HMA.out.o.e q.length x (by simp)).i
        rw [HVI.out] at h
        exact h
      have HLB : Hid (lo ≤ (w3.alloc (.cells zv 62)).heap.size) := by have h1 := HMA.out.l; have h2 := HMA.out.o.mz M HMA.out.lm; show _ ≤ _; omega
      have HCU : Hid ((w3.alloc (.cells zv 62)).heap[g]? = some (.cells curg 121 (0, 0))) := blk_alloc _ HCG.out
      have HPI : Hid (¬ (Value.slice ai x.is.length ci).ownBlock = some w.heap.size) := fun e => by have := HIL.out _ e; omega
      have HGI : Hid (¬ (Value.slice ai x.is.length ci).ownBlock = some g) := fun e => own_not HOA.out HCU.out (by decide) e
      refine step_val18 rfl rfl zv rfl rfl ?_
      refine (Shut.out hK) _ (w3.alloc (.cells zv 62)) HPA.out (fun hS2 => ?_)
      clear hK K hS
      (try simp only [Act.put]); (try simp only [List.setIfInBounds_toArray])
      generalize w3.alloc (.cells zv 62) = wA at *
      have x12 : wA.cell? ⟨g, q.length * 14 + 12, none⟩ = some (.slice ai x.is.length ci) := HMA.out.o.cell.1 12 _ (by rw [HVI.out]; rfl)
      refine heldStep 4 rfl (by kernel_rfl) (fun K hK => ?_)
      go_simp
      refine (Hid.out hK) _ _ hS2 (fun hS3 => ?_)
      clear hK K hS2 x12
      (try simp only [Act.put]); (try simp only [List.setIfInBounds_toArray, List.set_cons_zero, List.set_cons_succ])
      refine heldTake 6 _ rfl (by kernel_rfl) (by kernel_rfl) (by kernel_rfl) (fun _ _ _ h => h) rfl hS3 (fun wy hy => by first | (go_simp; done) | (go_simp; rfl) | rfl) ?_
      (try simp only [Act.put]); (try simp only [List.setIfInBounds_toArray, List.set_cons_zero, List.set_cons_succ])
      refine heldStep 8 rfl (by kernel_rfl) (fun K hK => ?_)
      refine step_append_val8 rfl _ _ rfl lo (.slice ai x.is.length ci) x.is.length (vfl (L q.length)) rfl HOA.out w3.heap.size zv HZO.out rfl HGA.out (by omega) HLB.out (fun v5 w5 ho5 hg5 hq5 => ?_)
      obtain ⟨gi, c5, hv5, cur5, hcur5, hcs5⟩ : ∃ gi c5, v5 = .slice (some ⟨gi, 0, none⟩) (x.is.length + 1) c5 ∧ ∃ cur5, w5.heap[gi]? = some (.cells cur5 62 (0, 0)) ∧ (x.is.length + 1) * 13 ≤ cur5.size := by
        rcases ho5.2 with ⟨_, h0⟩ | ⟨gi, c5, cur5, e, _, h1, h2, _, h3, _⟩
        · omega
        · exact ⟨gi, c5, e, cur5, h1, by rw [h3]; exact Nat.mul_le_mul_right 13 h2⟩
      subst hv5
      have hk5 : Kp (fun r => (Value.slice ai x.is.length ci).ownBlock = some r) wA w5 := (Kp.refl _ _).grown hg5 (fun _ _ h => h)
      have hP5 : w5.heap[w.heap.size]? = some (.cells c 62 (0, 0)) := (hk5.block _ (blk_lt HPA.out) HPI.out).trans HPA.out
      have hgi5 : (Value.slice ai x.is.length ci).ownBlock = some gi ∨ gi = wA.heap.size := by
        rcases hq5 with e | e
        · exact .inl e.symm
        · injection e with e
          exact .inr e
      have hgiP : gi ≠ w.heap.size := fun e => by
        rcases hgi5 with h | h
        · exact HPI.out (by rw [← e]; exact h)
        · have := blk_lt HPA.out
          omega
      have hgg : gi ≠ g := fun e => by
        rcases hgi5 with h | h
        · exact (HMA.out.o.d q.length (by simp) gi (.inr (by rw [HVI.out]; exact h))).2.1 (by rw [e]; rfl)
        · have := blk_lt HCU.out
          omega
      have hkS := row_kp w5 gi (splice cur5.toList (x.is.length * 13) c.toList).toArray
      have hrow6 : (w5.setRow gi (splice cur5.toList (x.is.length * 13) c.toList).toArray).ownsRow lo 62 13 (.slice (some ⟨gi, 0, none⟩) (x.is.length + 1) c5) (x.is.length + 1) (vfl (L q.length ++ [c])) := by
        have e1 : vfl (L q.length) ++ zv.toList = vfl (L q.length ++ [zv]) := by rw [vfl_app]; simp [vfl]
        have h0 := ho5
        rw [e1] at h0
        have h1 := own_part (c' := c) (j := x.is.length) h0 (by rw [List.length_append, HLL.out]; rfl) HL13.out hcur5 (by omega) HC13.out (row_same hcur5)
        have e2 : (L q.length ++ [zv]).set x.is.length c = L q.length ++ [c] := by
          rw [List.set_append_right _ _ (by rw [HLL.out]; exact Nat.le_refl _), HLL.out, Nat.sub_self]
          rfl
        rw [e2] at h1
        exact h1
      have HRW : Hid ((w5.setRow gi (splice cur5.toList (x.is.length * 13) c.toList).toArray).ownsRow lo 62 13 (.slice (some ⟨gi, 0, none⟩) (x.is.length + 1) c5) (x.is.length + 1) (vfl (L q.length ++ [c])) ∧ Kp (fun r => (Value.slice ai x.is.length ci).ownBlock = some r) w3 (w5.setRow gi (splice cur5.toList (x.is.length * 13) c.toList).toArray) ∧ ((Value.slice (some ⟨gi, 0, none⟩) (x.is.length + 1) c5).ownBlock = (Value.slice ai x.is.length ci).ownBlock ∨ ∀ r, (Value.slice (some ⟨gi, 0, none⟩) (x.is.length + 1) c5).ownBlock = some r → w3.heap.size ≤ r)) := by
        refine ⟨hrow6, ((Kp.of_below (S := fun r => (Value.slice ai x.is.length ci).ownBlock = some r) HBA.out).trans hk5 (fun _ _ h => h)).trans hkS (fun r hr e => ?_), ?_⟩
        · rcases hgi5 with h | h
          · rw [e]; exact h
          · have := HBA.out.size
            omega
        · rcases hgi5 with h | h
          · exact .inl h.symm
          · refine .inr (fun r hr => ?_)
            have e2 : gi = r := by simpa [Value.ownBlock] using hr
            have := HBA.out.size
            omega
      have hP6 : (w5.setRow gi (splice cur5.toList (x.is.length * 13) c.toList).toArray).heap[w.heap.size]? = some (.cells c 62 (0, 0)) := (hkS.block _ (blk_lt hP5) (fun e => hgiP e.symm)).trans hP5
      have hcu6 : (w5.setRow gi (splice cur5.toList (x.is.length * 13) c.toList).toArray).heap[g]? = some (.cells curg 121 (0, 0)) := (hkS.block _ (by have := blk_lt HCU.out; have := hk5.size; omega) (fun e => hgg e.symm)).trans ((hk5.block _ (blk_lt HCU.out) HGI.out).trans HCU.out)
      have HC6 : Hid ((w5.setRow gi (splice cur5.toList (x.is.length * 13) c.toList).toArray).cell? ⟨g, q.length * 14 + 12, none⟩ = some (.slice ai x.is.length ci)) := hkS.cell (hk5.cell (HMA.out.o.cell.1 12 _ (by rw [HVI.out]; rfl)) HGI.out) (fun e => hgg e.symm)
      have HF6 := hide (blk_frozen (q.length * 14 + 12) hcu6)
      have HI5 : Hid ((Tryz.prog.info? 62).map (·.size) = some c.size) := by show _ = _; rw [HC13.out]; exact infoV
      have HX5 : Hid (x.is.length * 13 + c.size ≤ cur5.size) := by have := HC13.out; show _ ≤ _; omega
      have HCR := hide hcur5
      have HGG : Hid (gi ≠ g) := hgg
      have HGP : Hid (gi ≠ w.heap.size) := hgiP
      have HC5a : Hid (w5.cell? ⟨g, q.length * 14 + 12, none⟩ = some (.slice ai x.is.length ci)) := hk5.cell (HMA.out.o.cell.1 12 _ (by rw [HVI.out]; rfl)) HGI.out
      have HF5a := hide (blk_frozen (q.length * 14 + 12) ((hk5.block _ (blk_lt HCU.out) HGI.out).trans HCU.out))
      have HIX : Hid ((((x.is.length : Nat) : Int) < ((x.is.length + 1 : Nat) : Int)) ∧ (x.is.length : Int) < (x.is.length : Int) + 1) := ⟨by omega, by omega⟩
      refine (Hid.out hK) _ _ hP5 (fun hS5 => ?_)
      clear hK K ho5 hg5 hq5 hk5 hgi5 hgiP hgg hrow6 hcs5 hkS hcur5 hcu6
      (try simp only [Act.put]); (try simp only [List.setIfInBounds_toArray, List.set_cons_zero, List.set_cons_succ])
      refine heldTake 9 (.pointer (some ⟨gi, x.is.length * 13, none⟩)) rfl (by kernel_rfl) (by kernel_rfl) (by kernel_rfl) (fun _ _ _ h => h) rfl hS5 (fun wy hy => by have h0 := HIX.out.1; have h1 := HIX.out.2; first | (go_simp; done) | (go_simp; omega) | (go_simp; rfl)) ?_
      refine heldTake 11 _ rfl (by kernel_rfl) (by kernel_rfl) (by kernel_rfl) (fun _ _ _ h => h) rfl hS5 (fun wy hy => by first | (go_simp; done) | (go_simp; rfl) | rfl) ?_
      (try simp only [Act.put]); (try simp only [List.setIfInBounds_toArray, List.set_cons_zero, List.set_cons_succ])
      refine heldTake 12 _ rfl (by kernel_rfl) (by kernel_rfl) (by kernel_rfl) (fun _ _ _ h => h) rfl hS5 (fun wy hy => by first | (go_simp; done) | (go_simp; rfl) | rfl) ?_
      (try simp only [Act.put]); (try simp only [List.setIfInBounds_toArray, List.set_cons_zero, List.set_cons_succ])
      refine heldTake 13 _ rfl (by kernel_rfl) (by kernel_rfl) (by kernel_rfl) (fun _ _ _ h => h) rfl hS5 (fun wy hy => by first | (go_simp; done) | (go_simp; rfl) | rfl) ?_
      (try simp only [Act.put]); (try simp only [List.setIfInBounds_toArray, List.set_cons_zero, List.set_cons_succ])
      have HC5 : Hid (w5.cell? ⟨g, q.length * 14 + 12, none⟩ = some (.slice ai x.is.length ci)) := HC5a
      have HF5 : Hid (w5.frozen? ⟨g, q.length * 14 + 12, none⟩ = false) := HF5a
      refine wpAnyH_ready (rs := [10, 14]) (by kernel_rfl) (by simp) ?_
      refine AllReadyH.cons rfl (fun K hK => ?_) (AllReadyH.cons rfl (fun K hK => ?_) AllReadyH.nil)
      · as_aux_lemma =>
        refine step_storePart8 rfl rfl gi (x.is.length * 13) cur5 c 62 rfl rfl HCR.out HI5.out HX5.out HCO.out ?_
        refine (Shut.out hK) _ _ hP6 (fun hS6 => ?_)
        clear hK K hP5 hS5
        (try simp only [Act.put])
        have c12 := HC6.out
        have f12 := HF6.out
        clear HC5 HF5
        generalize w5.setRow gi (splice cur5.toList (x.is.length * 13) c.toList).toArray = w6 at *
        refine heldStep 14 rfl (by kernel_rfl) (fun K hK => ?_)
        go_simp
        have hP7 : (w6.setCell ⟨g, q.length * 14 + 12, none⟩ (.slice (some ⟨gi, 0, none⟩) (x.is.length + 1) c5)).heap[w.heap.size]? = some (.cells c 62 (0, 0)) := blk_other _ _ hP6 HPG.out
        refine (Hid.out hK) _ _ hP7 (fun hS7 => ?_)
        clear hK K hP6 hS6 c12 f12 hP7
        (try simp only [Act.put])
        refine heldDone (by kernel_rfl) ?_
        clear hS7
        go_wp2_with fail
        go_meet
        case rel => exact ⟨_, w6, rfl, HRW⟩
      · as_aux_lemma =>
        have c12 := HC5.out
        have f12 := HF5.out
        go_simp
        have hP7 : (w5.setCell ⟨g, q.length * 14 + 12, none⟩ (.slice (some ⟨gi, 0, none⟩) (x.is.length + 1) c5)).heap[w.heap.size]? = some (.cells c 62 (0, 0)) := blk_other _ _ hP5 HPG.out
        have HCR7 : Hid ((w5.setCell ⟨g, q.length * 14 + 12, none⟩ (.slice (some ⟨gi, 0, none⟩) (x.is.length + 1) c5)).heap[gi]? = some (.cells cur5 62 (0, 0))) := blk_other _ _ HCR.out HGG.out
        have hrk := row_kp (w5.setCell ⟨g, q.length * 14 + 12, none⟩ (.slice (some ⟨gi, 0, none⟩) (x.is.length + 1) c5)) gi (splice cur5.toList (x.is.length * 13) c.toList).toArray
        have hP8 := (hrk.block _ (blk_lt hP7) (fun e => HGP.out e.symm)).trans hP7
        have HEQ := hide (row_cell_comm w5 g gi (q.length * 14 + 12) (.slice (some ⟨gi, 0, none⟩) (x.is.length + 1) c5) (splice cur5.toList (x.is.length * 13) c.toList).toArray HGG.out)
        refine (Shut.out hK) _ _ hP7 (fun hS7 => ?_)
        clear hK K hS5 c12 f12 hrk hP7
        (try simp only [Act.put])
        refine heldStep 10 rfl (by kernel_rfl) (fun K hK => ?_)
        refine step_storePart8 rfl rfl gi (x.is.length * 13) cur5 c 62 rfl rfl HCR7.out HI5.out HX5.out HCO.out ?_
        refine (Hid.out hK) _ _ hP8 (fun hS8 => ?_)
        clear hK K hS7 hP8 hP5 hP6
        (try simp only [Act.put])
        refine heldDone (by kernel_rfl) ?_
        clear hS8
        go_wp2_with fail
        go_meet
        case rel => exact ⟨_, _, HEQ.out, HRW⟩
  obtain ⟨v5, w6, hwc, HRW⟩ := hcut
  subst hwc
  obtain ⟨a5, k5, hv5⟩ := own_slice8 HRW.out.1
  subst hv5
  obtain ⟨curg, hcurg⟩ := HMD.out.o.cell.2
  have hiD := (HMD.out.o.e q.length x (by simp)).i
  rw [HVI.out] at hiD
  have hgI : ¬ (Value.slice ai x.is.length ci).ownBlock = some g := fun e => own_not hiD hcurg (by decide) e
  have hMI : ¬ (Value.slice ai x.is.length ci).ownBlock = some M := fun e => own_not hiD HMD.out.m (by decide) e
  have hc13 := cell_blk hcurg (HMD.out.o.cell.1 13 (.int .u64 (x.n : Nat)) rfl)
  have hcur6 : w6.heap[g]? = some (.cells curg 121 (0, 0)) := (HRW.out.2.1.block _ (blk_lt hcurg) hgI).trans hcurg
  have hcur7 := blk_set (q.length * 14 + 12) (.slice a5 (x.is.length + 1) k5) hcur6
  have c13 : (w6.setCell ⟨g, q.length * 14 + 12, none⟩ (.slice a5 (x.is.length + 1) k5)).cell? ⟨g, q.length * 14 + 13, none⟩ = some (.int .u64 (x.n : Nat)) := blk_cell hcur7 (by rw [Array.getElem?_setIfInBounds_ne (by omega)]; exact hc13)
  have f13 := blk_frozen (q.length * 14 + 13) hcur7
  have hxz := HXZ.out
  have e1 : IntKind.u64.wrap ((x.n : Int) - 1) = ((x.n - 1 : Nat) : Int) := by rw [IntKind.wrap_u64]; omega
  have hgM : M ≠ g := fun e => HMD.out.o.m M HMD.out.lm (by rw [e]; rfl)
  have hU : Tis w2.drew (Lvs (fun r => r < lo) (.slice (some ⟨g, 0, none⟩) (q.length + 1) cap) (q ++ [x]).length K I) u c := HUU.out.kp (Kp.of_below HBD.out)
  have hO := HMD.out.o.item HC13.out hU HRW.out.1 (by rw [HVI.out]; exact HRW.out.2.1) (by rw [HVI.out]; exact HRW.out.2.2) (by omega) (x.n - 1) (by omega)
  have hm6 : w6.heap[M]? = some (.cells #[vB, .int .i64 (p : Nat), .int .i64 (d : Nat), .slice (some ⟨g, 0, none⟩) (q.length + 1) cap] 94 (0, 0)) := (HRW.out.2.1.block _ (blk_lt HMD.out.m) hMI).trans HMD.out.m
  have hkS : Kp (fun r => r = g) w6 ((w6.setCell ⟨g, q.length * 14 + 12, none⟩ (.slice a5 (x.is.length + 1) k5)).setCell ⟨g, q.length * 14 + 13, none⟩ (.int .u64 ((x.n - 1 : Nat) : Int))) := ((Kp.refl (fun r => r = g) w6).setCell ⟨g, q.length * 14 + 12, none⟩ _ (fun _ => rfl)).setCell ⟨g, q.length * 14 + 13, none⟩ _ (fun _ => rfl)
  have HMF : Hid (Mac ((w6.setCell ⟨g, q.length * 14 + 12, none⟩ (.slice a5 (x.is.length + 1) k5)).setCell ⟨g, q.length * 14 + 13, none⟩ (.int .u64 ((x.n - 1 : Nat) : Int))) lo M vB b d p (.slice (some ⟨g, 0, none⟩) (q.length + 1) cap) (q ++ [⟨x.k, x.ks, x.is ++ [u], x.n - 1⟩]) _ _ _ _) :=
    ⟨(hkS.block _ (blk_lt hm6) hgM).trans hm6, hkS.bsl (HRW.out.2.1.bsl HMD.out.b (fun r hr e => by have := HMD.out.q r hr; have := (hiD.lt r e).1; omega)) (fun r hr e => by have := HMD.out.q r hr; omega), HMD.out.q, hO, HMD.out.lm, Nat.le_trans (Nat.le_trans HMD.out.l HRW.out.2.1.size) hkS.size⟩
  have HKF : Hid (Kp (fun r => lo ≤ r) w ((w6.setCell ⟨g, q.length * 14 + 12, none⟩ (.slice a5 (x.is.length + 1) k5)).setCell ⟨g, q.length * 14 + 13, none⟩ (.int .u64 ((x.n - 1 : Nat) : Int)))) := ((Kp.of_below (S := fun r => lo ≤ r) HBD.out).trans HRW.out.2.1 (fun r _ e => (hiD.lt r e).1)).trans hkS (fun r _ e => by omega)
  clear hcurg hiD hgI hMI hc13 hcur6 hcur7 hxz hU hO hm6 hkS hgM
  go_wp2_with fail
  go_end0
  exact ⟨rfl, HKF.out, _, _, _, _, HMF.out⟩
end
section
open Go.RowKit Go
theorem lbytes_d8 {l : Lk} {b : List Nat} (hb : ∀ x ∈ b, x < 256) (e : lbytes l = b) : ∀ x ∈ l.d, x < 256 := fun x hx => hb x (by
  rw [← e]
  unfold lbytes
  split
  · simp [hx]
  · simp [hx])
theorem lok_lkb8 {l : Lk} (h : lok l) (hd : ∀ x ∈ l.d, x < 256) : Lkb l := by
  have hk := lok_okd h
  unfold okd at hk
  refine ⟨?_, by omega, hd, by omega⟩
  rcases h with h | h
  · omega
  · omega
theorem end_run {wx : World} {R : Nat} {c : Array Value} {e : Int} {tmps : Array Value} (hn : c.size = 13) (hr : wx.heap[R]? = some (.cells c 62 (0, 0))) (hp : tmps.getD 2 undef = .pointer (some ⟨R, 0, none⟩)) (he : tmps.getD 3 undef = .int .i64 e) : (results Tryz.f43 tmps).run Tryz.prog wx = .ok (.tuple #[.agg c, .int .i64 e]) wx := by
  have h1 := run_loadVar_row (P := Tryz.prog) wx R 62 62 c (0, 0) _ hr Tryz.underlying62 rfl (by rw [hn]; exact infoV)
  refine (results_cell_tmp rfl _ _ _).trans ?_
  rw [hp, he]
  simp [asAddr, h1, Result.andThen]
theorem ics_no (h : HR) {vb : Value} (s : ByteArray) (l : Lk) (h1 : ∀ x, vb ≠ .int .u8 x) (j : Nat) (x : Int) : (ics h vb s l)[j]? ≠ some (.int .u8 x) := by
  intro h
  have hj := (Array.getElem?_eq_some_iff.1 h).1
  have hj2 : j < 11 := hj
  have : j = 0 ∨ j = 1 ∨ j = 2 ∨ j = 3 ∨ j = 4 ∨ j = 5 ∨ j = 6 ∨ j = 7 ∨ j = 8 ∨ j = 9 ∨ j = 10 := by omega
  rcases this with rfl | rfl | rfl | rfl | rfl | rfl | rfl | rfl | rfl | rfl | rfl <;> simp [ics] at h
  exact h1 x h
theorem bsl_not8 {w : World} {v : Value} {y : List Nat} (h : BSl w v y) (x : Int) : v ≠ .int .u8 x := by
  obtain ⟨⟨a, c, hv, _⟩, _⟩ := h
  rw [hv]
  intro e
  cases e
/-- A block of the caller's frame is written over. -/
theorem Mac.kp {w w' : World} {lo M : Nat} {vB : Value} {b : List Nat} {d p : Nat} {vo : Value} {st : List Nst} {C : List (Array Value)} {K I : Nat → Value} {L : Nat → List (Array Value)} (h : Mac w lo M vB b d p vo st C K I L) {g : Nat} (hg : g < lo) (hM : g ≠ M) (hB : ∀ q, vB.ownBlock = some q → q ≠ g) (hk : Kp (fun q => q = g) w w') : Mac w' lo M vB b d p vo st C K I L :=
  ⟨(hk.block _ (blk_lt h.m) (fun e => hM e.symm)).trans h.m, hk.bsl h.b hB, h.q, h.o.kp (hk.mono (fun q _ e => by show q < lo; omega)), h.lm, Nat.le_trans h.l hk.size⟩
/-- Where run stands: the machine, the item's block, the value's block. -/
structure Rex (w0 : World) (M : Nat) (vB : Value) (b : List Nat) (d : Nat) (s : Mst) (w : World) (vo : Value) (C : List (Array Value)) (K I : Nat → Value) (L : Nat → List (Array Value)) (ci cv : Array Value) : Prop where
  m : Mac w (w0.heap.size + 3) M vB b d s.p vo s.st.reverse C K I L
  i : w.heap[w0.heap.size + 1]? = some (.cells ci 115 (0, 0))
  iz : ci.size = 11
  i8 : ∀ (j : Nat) (x : Int), ci[j]? ≠ some (.int .u8 x)
  v : w.heap[w0.heap.size + 2]? = some (.cells cv 62 (0, 0))
  vz : cv.size = 13
  t : ∀ v, s.lab = .done v → Tis w (Lvs (fun r => r < w0.heap.size + 3) vo s.st.reverse.length K I) v cv
  r : w.heap[w0.heap.size]? = some (.cells zv 62 (0, 0))
  k : Kp (fun q => q = M) w0 w
def Run8 (w0 : World) (M : Nat) (vB : Value) (b : List Nat) (d : Nat) (s : Mst) (w : World) : Prop := Inv8 b d s ∧ ∃ vo C K I L ci cv, Rex w0 M vB b d s w vo C K I L ci cv
def Lb8 : Nat → Lab → Prop
  | 0, .plain => True
  | 1, .name => True
  | 2, .inside => True
  | 3, .done _ => True
  | _, _ => False
/-- What run tells. -/
def RunP (w0 : World) (M : Nat) (vB : Value) (d : Nat) (r : Res) (e : Ending) (w' : World) : Prop := Kp (fun q => q = M) w0 w' ∧ ∃ c vo, e = .returned (.tuple #[.agg c, .int .i64 (r.e : Nat)]) ∧ w'.heap[M]? = some (.cells #[vB, .int .i64 (r.p : Nat), .int .i64 (d : Nat), vo] 94 (0, 0)) ∧ Tis w' (fun q => q < w0.heap.size) r.v c
theorem RunP.mk {w0 : World} {M : Nat} {vB : Value} {d : Nat} {r r' : Res} {w' : World} {c : Array Value} {vo : Value} (hr : r' = r) (hk : Kp (fun q => q = M) w0 w') (hm : w'.heap[M]? = some (.cells #[vB, .int .i64 (r.p : Nat), .int .i64 (d : Nat), vo] 94 (0, 0))) (ht : Tis w' (fun q => q < w0.heap.size) r.v c) : RunP w0 M vB d r' (.returned (.tuple #[.agg c, .int .i64 (r.e : Nat)])) w' := by
  subst hr
  exact ⟨hk, c, vo, rfl, hm, ht⟩
theorem tz8_tis (w : World) (S : Nat → Prop) : Tis w S (tz8 0) zv := plain_tis w S (leaf_tbd (by show (0 : Nat) < _; decide) (by show (0 : Nat) < _; decide) (by show (ByteArray.mk #[]).size ≤ _; decide) (by show (0 : Nat) ≤ _; decide) rfl) rfl rfl rfl
theorem zv_all8 : zv.all (·.oneCell') = true := (tz8_tis (default : World) (fun _ => False)).tin.all1
/-- A fault: nothing but the answer is written. -/
theorem Rex.bad {w0 : World} {M : Nat} {vB : Value} {b : List Nat} {d : Nat} {p : Nat} {w : World} {vo : Value} {st : List Nst} {C : List (Array Value)} {K I : Nat → Value} {L : Nat → List (Array Value)} {e : Nat} {r : Res} (hm : Mac w (w0.heap.size + 3) M vB b d p vo st C K I L) (hM : M < w0.heap.size) (hk : Kp (fun q => q = M) w0 w) (hr : r = ⟨e, p, tz8 0⟩) : RunP w0 M vB d r (.returned (.tuple #[.agg zv, .int .i64 (e : Nat)])) (w.setRow w0.heap.size zv) := by
  have hkr := row_kp w w0.heap.size zv
  refine RunP.mk (r := ⟨e, p, tz8 0⟩) hr (hk.trans hkr (fun q hq e => by omega)) ((hkr.block _ (blk_lt hm.m) (by omega)).trans hm.m) (tz8_tis _ _)
/-- What a call that writes at lo and on and at the machine leaves. -/
theorem Rex.keep {w0 : World} {M : Nat} {w w' : World} {g : Nat} {o : Obj} (hM : M < w0.heap.size) (hk : Kp (fun q => q = M ∨ w0.heap.size + 3 ≤ q) w w') (hg : w.heap[g]? = some o) (h1 : w0.heap.size ≤ g) (h2 : g < w0.heap.size + 3) : w'.heap[g]? = some o :=
  (hk.block _ (blk_lt hg) (fun e => by omega)).trans hg
theorem Rex.kp {w0 : World} {M : Nat} {w w' : World} (h : Kp (fun q => q = M) w0 w) (hk : Kp (fun q => q = M ∨ w0.heap.size + 3 ≤ q) w w') : Kp (fun q => q = M) w0 w' := h.trans hk (fun q hq e => by omega)
theorem kp_eq {w w' : World} {M lo : Nat} (h : Kp (fun q => q = M) w w') : Kp (fun q => q = M ∨ lo ≤ q) w w' := h.mono (fun _ _ e => .inl e)
theorem kp_lo {w w' : World} {M lo : Nat} (h : Kp (fun q => lo ≤ q) w w') : Kp (fun q => q = M ∨ lo ≤ q) w w' := h.mono (fun _ _ e => .inr e)
theorem Kp.row8 {w0 : World} {M : Nat} {w : World} (h : Kp (fun q => q = M) w0 w) (j : Nat) (c : Array Value) : Kp (fun q => q = M) w0 (w.setRow (w0.heap.size + j) c) := h.trans (row_kp _ _ _) (fun q hq e => by omega)
theorem lnk_tbd {b : List Nat} (hb : ∀ x ∈ b, x < 256) (h : (lparse b).2 = 0) (k : Int) : Tbd (.mk k false false 0 0 ⟨#[]⟩ [] (lparse b).1 [] []) := by
  obtain ⟨h1, h2⟩ := lparse_back (l := (lparse b).1) hb (by rw [← h])
  have hl := lok_lkb8 h1 (lbytes_d8 hb h2)
  exact ⟨by show (0 : Nat) < _; decide, by show (0 : Nat) < _; decide, by show (ByteArray.mk #[]).size ≤ _; decide, by show (0 : Nat) ≤ _; decide, hl, by have h3 := lok_okd h1; unfold okd at h3; show (lparse b).1.d.length ≤ _; omega⟩
theorem rlook_name {r : List Nat} (h : rlook 2 r = 0) : (hrd r).m = 2 ∧ (rbody r).head? = some 0 ∧ (lparse (rbody r).tail).2 = 0 := by
  unfold rlook at h
  by_cases h20 : (hrd r).e = 20
  · rw [if_pos h20] at h; cases h
  rw [if_neg h20] at h
  by_cases h2 : (hrd r).e ≠ 0 ∨ (hrd r).i = 31
  · rw [if_pos h2] at h; cases h
  rw [if_neg h2] at h
  by_cases h3 : ((hrd r).m = 2 ∨ (hrd r).m = 3) ∧ r.length - (hrd r).u < (hrd r).n
  · rw [if_pos h3] at h; cases h
  rw [if_neg h3] at h
  by_cases h4 : rmay (hrd r) (rbody r) = false ∨ rfit 2 (hrd r) (rbody r) = false
  · rw [if_pos h4] at h; cases h
  have h5 : rfit 2 (hrd r) (rbody r) ≠ false := fun e => h4 (.inr e)
  unfold rfit at h5
  rw [if_neg (by decide), if_pos rfl] at h5
  simpa using h5
theorem mrun_pos {b : List Nat} {d n : Nat} {s : Mst} {r : Res} (h : mrun b d n s = some r) : ∃ m, n = m + 1 := by
  cases n with
  | zero => cases h
  | succ m => exact ⟨m, rfl⟩
theorem Rex.next {w0 : World} {M : Nat} {vB : Value} {b : List Nat} {d : Nat} {s : Mst} {w w' : World} {vo : Value} {C : List (Array Value)} {K I : Nat → Value} {L : Nat → List (Array Value)} {ci cv : Array Value} (h : Rex w0 M vB b d s w vo C K I L ci cv) (hb : Below w.heap.size w w') : Rex w0 M vB b d s w' vo C K I L ci cv :=
  ⟨h.m.next hb, (hb.block _ (blk_lt h.i)).trans h.i, h.iz, h.i8, (hb.block _ (blk_lt h.v)).trans h.v, h.vz, fun v hv => (h.t v hv).kp (Kp.of_below hb), (hb.block _ (blk_lt h.r)).trans h.r, h.k.trans (Kp.of_below (S := fun q => q = M) hb) (fun _ _ e => e)⟩
/-- Behind a call that has changed what is open. -/
theorem Rex.call {w0 : World} {M : Nat} {vB : Value} {b : List Nat} {d : Nat} {s : Mst} {w w' : World} {vo : Value} {C : List (Array Value)} {K I : Nat → Value} {L : Nat → List (Array Value)} {ci cv : Array Value} (h : Rex w0 M vB b d s w vo C K I L ci cv) (hM : M < w0.heap.size) (hk : Kp (fun q => q = M ∨ w0.heap.size + 3 ≤ q) w w') {lab : Lab} (hl : ∀ v, lab ≠ .done v) {p : Nat} {st : List Nst} {vo' : Value} {C' : List (Array Value)} {K' I' : Nat → Value} {L' : Nat → List (Array Value)} (hm : Mac w' (w0.heap.size + 3) M vB b d p vo' st.reverse C' K' I' L') : Rex w0 M vB b d ⟨lab, p, st⟩ w' vo' C' K' I' L' ci cv :=
  ⟨hm, Rex.keep hM hk h.i (by omega) (by omega), h.iz, h.i8, Rex.keep hM hk h.v (by omega) (by omega), h.vz, fun v hv => absurd hv (hl v), Rex.keep hM hk h.r (by omega) (by omega), Rex.kp h.k hk⟩
theorem Rex.lab {w0 : World} {M : Nat} {vB : Value} {b : List Nat} {d p : Nat} {st : List Nst} {lab lab' : Lab} {w : World} {vo : Value} {C : List (Array Value)} {K I : Nat → Value} {L : Nat → List (Array Value)} {ci cv : Array Value} (h : Rex w0 M vB b d ⟨lab, p, st⟩ w vo C K I L ci cv) (hl : ∀ v, lab' ≠ .done v) : Rex w0 M vB b d ⟨lab', p, st⟩ w vo C K I L ci cv :=
  ⟨h.m, h.i, h.iz, h.i8, h.v, h.vz, fun v hv => absurd hv (hl v), h.r, h.k⟩
/-- The value's block is written over. -/
theorem Rex.put {w0 : World} {M : Nat} {vB : Value} {b : List Nat} {d p : Nat} {st : List Nst} {lab : Lab} {w : World} {vo : Value} {C : List (Array Value)} {K I : Nat → Value} {L : Nat → List (Array Value)} {ci cv : Array Value} (h : Rex w0 M vB b d ⟨lab, p, st⟩ w vo C K I L ci cv) (hM : M < w0.heap.size) (hB : ∀ q, vB.ownBlock = some q → q < w0.heap.size ∧ q ≠ M) {c : Array Value} {t : Tv} (ht : Tis w (Lvs (fun r => r < w0.heap.size + 3) vo st.reverse.length K I) t c) : Rex w0 M vB b d ⟨.done t, p, st⟩ (w.setRow (w0.heap.size + 2) c) vo C K I L ci c := by
  have hkr := row_kp w (w0.heap.size + 2) c
  refine ⟨h.m.kp (by omega) (by omega) (fun q hq e => by have := hB q hq; omega) hkr, (hkr.block _ (blk_lt h.i) (by omega)).trans h.i, h.iz, h.i8, row_same h.v, ht.tin.size13, fun v hv => ?_, (hkr.block _ (blk_lt h.r) (by omega)).trans h.r, h.k.row8 2 c⟩
  injection hv with hv
  subst hv
  exact ht.kp (hkr.mono (fun r _ e => .inl (by show r < _; omega)))
/-- Behind take and the store of its item. -/
theorem Rex.took {w0 : World} {M : Nat} {vB : Value} {b : List Nat} {d : Nat} {s : Mst} {w w1 : World} {vo : Value} {C : List (Array Value)} {K I : Nat → Value} {L : Nat → List (Array Value)} {ci cv : Array Value} (h : Rex w0 M vB b d s w vo C K I L ci cv) (hM : M < w0.heap.size) (hB : ∀ q, vB.ownBlock = some q → q < w0.heap.size ∧ q ≠ M) {want : Nat} {ks : List ByteArray} {c : Array Value} {F : Bool} (hk : Kp (fun q => q = M) w w1)
    (hbad : rtake want F ks (b.drop s.p) ≠ 0 → Mac w1 (w0.heap.size + 3) M vB b d s.p vo s.st.reverse C K I L)
    (hgood : rtake want F ks (b.drop s.p) = 0 → Mac w1 (w0.heap.size + 3) M vB b d (s.p + rused (b.drop s.p)) vo s.st.reverse C K I L ∧ ∃ vb, c = ics (hrd (b.drop s.p)) vb (rtext (hrd (b.drop s.p)) (rbody (b.drop s.p)) ⟨#[]⟩) (rlink want (hrd (b.drop s.p)) (rbody (b.drop s.p)) ⟨0, 0, 0, []⟩) ∧ BSl w1 vb (rbody (b.drop s.p))) :
    w1.heap[w0.heap.size + 1]? = some (.cells ci 115 (0, 0)) ∧ (w1.setRow (w0.heap.size + 1) c).heap[w0.heap.size]? = some (.cells zv 62 (0, 0)) ∧ Kp (fun q => q = M) w0 (w1.setRow (w0.heap.size + 1) c) ∧
    (rtake want F ks (b.drop s.p) ≠ 0 → Mac (w1.setRow (w0.heap.size + 1) c) (w0.heap.size + 3) M vB b d s.p vo s.st.reverse C K I L) ∧
    (rtake want F ks (b.drop s.p) = 0 → ∃ vb, c = ics (hrd (b.drop s.p)) vb (rtext (hrd (b.drop s.p)) (rbody (b.drop s.p)) ⟨#[]⟩) (rlink want (hrd (b.drop s.p)) (rbody (b.drop s.p)) ⟨0, 0, 0, []⟩) ∧ BSl (w1.setRow (w0.heap.size + 1) c) vb (rbody (b.drop s.p)) ∧ Rex w0 M vB b d ⟨.plain, s.p + rused (b.drop s.p), s.st⟩ (w1.setRow (w0.heap.size + 1) c) vo C K I L c cv) := by
  have hkr := row_kp w1 (w0.heap.size + 1) c
  have hk' : Kp (fun q => q = M ∨ w0.heap.size + 3 ≤ q) w w1 := kp_eq hk
  have hi1 := Rex.keep hM hk' h.i (by omega) (by omega)
  have hv1 := Rex.keep hM hk' h.v (by omega) (by omega)
  have hr1 := Rex.keep hM hk' h.r (by omega) (by omega)
  have hk1 : Kp (fun q => q = M) w0 (w1.setRow (w0.heap.size + 1) c) := (Rex.kp h.k hk').row8 1 c
  have hr2 := (hkr.block _ (blk_lt hr1) (by omega)).trans hr1
  refine ⟨hi1, hr2, hk1, fun hne => (hbad hne).kp (by omega) (by omega) (fun q hq e => by have := hB q hq; omega) hkr, fun h0 => ?_⟩
  obtain ⟨hm, vb, hc, hvb⟩ := hgood h0
  refine ⟨vb, hc, bsl_kp8 hvb hi1 h.i8 hkr, hm.kp (by omega) (by omega) (fun q hq e => by have := hB q hq; omega) hkr, row_same hi1, by rw [hc]; rfl, by rw [hc]; exact ics_no _ _ _ (bsl_not8 hvb), (hkr.block _ (blk_lt hv1) (by omega)).trans hv1, h.vz, fun v hv => (by cases hv), hr2, hk1⟩
theorem infoL8 : (Tryz.prog.info? 59).map (·.size) = some 4 := by kernel_rfl
theorem exec_lkAt {o : Oper} {a : Act} {p : Operand} {g off : Nat} {cs : Array Value} {w : World} (ho : o.op = .load 59 p) (hp : a.eval p = .pointer (some ⟨g, off, none⟩)) (hn : cs.size = 4) (hc : ∀ j u, cs[j]? = some u → w.cell? ⟨g, off + j, none⟩ = some u) : (execOp a.eval o).run Tryz.prog w = .ok (.value (.agg cs)) w := by
  unfold execOp
  have hr : (Instr.loadAt 59 (.pointer (some ⟨g, off, none⟩))).run Tryz.prog w = .ok (.agg cs) w := by
    have hl := run_loadCells_list (P := Tryz.prog) (w := w) ⟨g, off, none⟩ cs.toList (fun j v hv => by rw [addr_add]; exact hc j v (by simpa using hv))
    have hi := infoL8
    simp only [Instr.loadAt, Instr.sureAddr, Sem.run_bind, Sem.run_pure, Result.andThen]
    cases hq : Tryz.prog.info? 59 with
    | none => simp [hq] at hi
    | some i =>
      have hs : i.size = 4 := by simpa [hq] using hi
      have hn2 : cs.toList.length = 4 := by simpa using hn
      rw [hn2] at hl
      have ha : (isAgg 59).run Tryz.prog w = .ok true w := by
        unfold isAgg
        rw [Sem.run_bind, run_underlying Tryz.underlying59 w]
        simp
      simp [loadVar, ha, sizeOf, typeInfo, hq, hs, hl]
  simp only [ho, Sem.run_bind, hp, hr, Result.andThen_ok]
  rfl
end
end Go.Proofs.YtadilnmkjcmnnaaGreatDoor
