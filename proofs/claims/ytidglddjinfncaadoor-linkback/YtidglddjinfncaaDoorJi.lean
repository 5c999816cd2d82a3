import Derived.Test.YtidglddjinfncaaDoorJh
import Derived.Laws.ResultCell
namespace Go.Proofs.YtidglddjinfncaaDoor
section
open Go.RowKit Go
theorem dread_bytes4 {xs : List Nat} (h : ∀ x ∈ xs, x < 256) : ∀ x ∈ (dread xs).2.1, x < 256 := by
  intro x hx
  unfold dread at hx
  repeat' split at hx
  all_goals first | (simp at hx; done) | exact h x (List.mem_of_mem_drop (List.mem_of_mem_take hx))
set_option maxRecDepth 1000000 in
set_option maxHeartbeats 2000000 in
theorem lFirst_any (w : World) (v : Value) (b : List Nat) (hb : BSl w v b) :
    Calls Tryd.prog 66 #[v] w fun e w' => e = .returned (.tuple #[lkv (lfirst b).1, .int .i64 ((lfirst b).2.1 : Nat), .int .i64 ((lfirst b).2.2 : Nat)]) ∧ Below w.heap.size w w' := by
  have HB := hide hb
  obtain ⟨⟨a, cap, rfl, hn, hc⟩, hmax, hby⟩ := hb
  by_cases h0 : b = []
  · subst h0
    exact (lFirst_none w a cap HB.out).mono fun e w' ⟨he, hb⟩ => ⟨he, hb⟩
  · have hpos : 0 < b.length := List.length_pos_iff.2 h0
    have g0 : ((b.length : Int) == 0) = false := beq_eq_false_iff_ne.2 (by omega)
    have g00 : (0 : Int) < (b.length : Int) := by omega
    obtain ⟨bb, off, rfl, hcell⟩ := hc.resolve_left h0
    have hc0 := hcell 0 hpos
    rw [Nat.add_zero] at hc0
    have HF0 : Hid (Fq w ((w.alloc (.cells zlk 35)).alloc (.cells #[.int .i64 0, .int .u64 112, .int .u64 0, .string ⟨#[]⟩] 35)) w.heap.size (w.heap.size + 1) #[.int .i64 0, .int .u64 112, .int .u64 0, .string ⟨#[]⟩]) := by
      have h1 := heap_alloc_new w (.cells zlk 35)
      have h2 := heap_alloc_new (w.alloc (.cells zlk 35)) (.cells #[.int .i64 0, .int .u64 112, .int .u64 0, .string ⟨#[]⟩] 35)
      have e : (w.alloc (.cells zlk 35)).heap.size = w.heap.size + 1 := by simp
      rw [e] at h2
      exact ⟨blk_alloc _ h1, h2, (below_alloc4 w _).trans ((below_alloc4 _ _).mono (by simp)), by omega, by omega, by omega⟩
    unfold zlk at HF0
    have cx : ((w.alloc (.cells #[.int .i64 0, .int .u64 0, .int .u64 0, .string ⟨#[]⟩] 35)).alloc (.cells #[.int .i64 0, .int .u64 112, .int .u64 0, .string ⟨#[]⟩] 35)).cell? ⟨bb, off, none⟩ = some (.int .u8 ((b.getD 0 0 : Nat) : Int)) := keep_below HF0.out.b _ _ hc0
    clear hc hcell hc0
    by_cases h18 : b.getD 0 0 = 18
    · have HLF : Hid (lfirst b = lthird 0 112 0 b) := by
        show _ = _
        unfold lfirst
        rw [if_pos (by cases b with | nil => exact absurd rfl h0 | cons x r => simpa using h18)]
      rw [h18] at cx
      have HAT : Hid (0 ≤ b.length) := Nat.zero_le _
      clear h18 h0 hpos
      go_enter Tryd.func66, Tryd.ntmps66
      have HBV := hide (HB.out.move (keep_below HF0.out.b))
      generalize hw0 : (w.alloc (.cells #[.int .i64 0, .int .u64 0, .int .u64 0, .string ⟨#[]⟩] 35)).alloc (.cells #[.int .i64 0, .int .u64 112, .int .u64 0, .string ⟨#[]⟩] 35) = w0 at HF0 cx HBV
      subst hw0
      have HFX := HF0
      go_wp2_with (refine wpList_drop rfl 56 57 rfl _ b 0 rfl rfl HBV.out HAT.out ?_)
      intro ad nd cd hbd hnd
      have HBD := hide hbd
      clear hbd hnd
      go_wp2_with fail
      refine (refDRead_any _ _ (b.drop 0) HBD.out).mono ?_
      rintro e w5 ⟨vd, rfl, ho5, hb5⟩
      have HF5 := hide (HFX.out.below hb5)
      have HVD := hide (BSl.own ho5 (dread_bytes4 (fun x hx => hby x (List.mem_of_mem_drop hx))))
      obtain ⟨ae, ce, hve, _⟩ := own_form ho5
      subst hve
      have HVL : Hid (∀ k, (Value.slice ae (dread (b.drop 0)).2.1.length ce).ownBlock = some k → ¬ k = w.heap.size + 1) := fun k hk e => own_not ho5 HF5.out.l (by decide) (by rw [← e]; exact hk)
      clear ho5 hb5
      by_cases hre : (dread (b.drop 0)).2.2.2 = 0
      · as_aux_lemma =>
        have HE : Hid (lthird 0 112 0 b = (⟨0, 112, (dread (b.drop 0)).1, (dread (b.drop 0)).2.1⟩, 0 + (dread (b.drop 0)).2.2.1, 0)) := by show _ = _; unfold lthird; rw [if_pos hre]
        have hnr : (((dread (b.drop 0)).2.2.1 : Nat) : Int) ≤ 9223372036854775807 := by have h1 := (dread_back hre).1; rw [List.length_drop] at h1; omega
        rw [hre]
        generalize (dread (b.drop 0)).2.2.1 = nr at *
        generalize (dread (b.drop 0)).1 = hr at *
        generalize (dread (b.drop 0)).2.1 = dr at *
        have q2 : w5.cell? ⟨w.heap.size + 1, 2, none⟩ = some (.int .u64 0) := blk_cell HF5.out.l rfl
        have f2 : w5.frozen? ⟨w.heap.size + 1, 2, none⟩ = false := blk_frozen 2 HF5.out.l
        have HF6 := hide (HF5.out.set 2 (.int .u64 (hr : Nat)))
        have hk6 : Kp (fun q => q = w.heap.size + 1) w5 (w5.setCell ⟨w.heap.size + 1, 2, none⟩ (.int .u64 (hr : Nat))) := (Kp.refl _ _).setCell _ _ (fun _ => rfl)
        have cv := (hk6.bsl HVD.out HVL.out).text
        have q3 : (w5.setCell ⟨w.heap.size + 1, 2, none⟩ (.int .u64 (hr : Nat))).cell? ⟨w.heap.size + 1, 3, none⟩ = some (.string ⟨#[]⟩) := blk_cell HF6.out.l rfl
        have f3 : (w5.setCell ⟨w.heap.size + 1, 2, none⟩ (.int .u64 (hr : Nat))).frozen? ⟨w.heap.size + 1, 3, none⟩ = false := blk_frozen 3 HF6.out.l
        have HF7 := hide (HF6.out.set 3 (.string (nstr dr)))
        have HL7 : Hid (((w5.setCell ⟨w.heap.size + 1, 2, none⟩ (.int .u64 (hr : Nat))).setCell ⟨w.heap.size + 1, 3, none⟩ (.string (nstr dr))).heap[w.heap.size + 1]? = some (.cells #[.int .i64 0, .int .u64 112, .int .u64 (hr : Nat), .string (nstr dr)] 35 (0, 0))) := HF7.out.l
        have HR7 := hide HF7.out.r
        have HB7 := hide HF7.out.b
        clear hk6 HF5 HF6 HF7
        go_wp2_with (first
          | (refine wpList_loadAll rfl rfl (w.heap.size + 1) #[.int .i64 0, .int .u64 112, .int .u64 (hr : Nat), .string (nstr dr)] 35 rfl HL7.out Tryd.underlying35 info61 ?_)
          | (refine wpList_storeRow rfl rfl w.heap.size zlk #[.int .i64 0, .int .u64 112, .int .u64 (hr : Nat), .string (nstr dr)] 35 rfl rfl HR7.out info61 rfl (by kernel_rfl) ?_))
        exact bodyPost_ret (first_end (row_same HR7.out) rfl rfl rfl rfl) rfl ⟨by rw [HLF.out, HE.out, Nat.zero_add]; rfl, (HB7.out.trans ((row_kp _ _ _).below HB7.out.size (fun q e => by omega)))⟩
      · as_aux_lemma =>
        have HE : Hid (lthird 0 112 0 b = (Lk.none, 0, lerr (dread (b.drop 0)).2.2.2)) := by show _ = _; unfold lthird; rw [if_neg hre]
        have g9 : (((dread (b.drop 0)).2.2.2 : Int) == 0) = false := beq_eq_false_iff_ne.2 (by omega)
        have HR5 := hide HF5.out.r
        generalize (dread (b.drop 0)).2.2.2 = er at *
        generalize (dread (b.drop 0)).2.2.1 = nr at *
        generalize (dread (b.drop 0)).1 = hr at *
        go_wp2_with fail
        refine (refDigest_any w5 er).mono ?_
        rintro e w6 ⟨rfl, rfl⟩
        go_wp2_with (refine wpList_zero rfl rfl w.heap.size rfl rfl HR5.out ?_)
        exact bodyPost_ret (first_end HR5.out rfl rfl rfl rfl) rfl ⟨by rw [HLF.out, HE.out]; rfl, HF5.out.b⟩
    · have HNE : Hid (¬ b.head? = some 18) := by
        show ¬ _
        cases b with
        | nil => exact absurd rfl h0
        | cons x r => simpa using h18
      have g18 : (((b.getD 0 0 : Nat) : Int) == 18) = false := beq_eq_false_iff_ne.2 (by omega)
      clear h18 h0 hpos
      generalize b.getD 0 0 = x0 at cx g18
      have HBV0 := hide (HB.out.move (keep_below HF0.out.b))
      go_enter Tryd.func66, Tryd.ntmps66
      go_wp2_with fail
      generalize (w.alloc (.cells #[.int .i64 0, .int .u64 0, .int .u64 0, .string ⟨#[]⟩] 35)).alloc (.cells #[.int .i64 0, .int .u64 112, .int .u64 0, .string ⟨#[]⟩] 35) = w0 at *
      refine (refNumber_any w0 _ b HBV0.out).mono ?_
      rintro e w1 ⟨rfl, hk1⟩
      have hb1 := hk1.below (Nat.le_refl _) (fun _ h => h.elim)
      have HF1 := hide (HF0.out.below hb1)
      have HBV1 := hide (HBV0.out.move (keep_below hb1))
      clear hk1 hb1 HF0 HBV0 cx
      have HDB := hide (dnum_bound b)
      obtain ⟨vn, un, en, hD⟩ : ∃ vn un en, dnum b = (vn, un, en) := ⟨_, _, _, rfl⟩
      rw [hD] at HDB ⊢
      have HD := hide hD
      clear hD
      simp only [dnumR] at HDB ⊢
      by_cases hen : en = 0
      · subst hen
        have hdb := HDB.out rfl
        by_cases hvn : vn = 1
        · subst hvn
          have HUN : Hid (un ≤ b.length) := hdb.2.1
          clear hdb HDB
          go_wp2_with (refine wpList_drop rfl 39 40 rfl _ b un rfl rfl HBV1.out HUN.out ?_)
          intro ad1 nd1 cd1 hbd1 hnd1
          have HBD1 := hide hbd1
          clear hbd1 hnd1
          go_wp2_with fail
          refine (refNumber_any w1 _ (b.drop un) HBD1.out).mono ?_
          rintro e w2 ⟨rfl, hk2⟩
          have hb2 := hk2.below (Nat.le_refl _) (fun _ h => h.elim)
          have HF2 := hide (HF1.out.below hb2)
          have HBV2 := hide (HBV1.out.move (keep_below hb2))
          clear hk2 hb2 HF1 HBV1 HBD1
          have HDB2 := hide (dnum_bound (b.drop un))
          obtain ⟨c2, u2, e2, hD2⟩ : ∃ c2 u2 e2, dnum (b.drop un) = (c2, u2, e2) := ⟨_, _, _, rfl⟩
          rw [hD2] at HDB2 ⊢
          have HD2 := hide hD2
          clear hD2
          simp only [dnumR] at HDB2 ⊢
          by_cases he2 : e2 = 0
          · subst he2
            have hdb2 := HDB2.out rfl
            have HLF : Hid (lfirst b = lthird 1 c2 (un + u2) b) := by
              show _ = _
              unfold lfirst
              rw [if_neg HNE.out, HD.out]
              simp only [ne_eq, not_true_eq_false, if_false]
              rw [HD2.out]
              simp
            have HAT : Hid (un + u2 ≤ b.length) := by have h1 := hdb2.2.1; rw [List.length_drop] at h1; have := HUN.out; show _ ≤ _; omega
            have hun : (un : Int) + (u2 : Int) ≤ 9223372036854775807 := by have := HAT.out; omega
            have hsum : (un : Int) + (u2 : Int) = ((un + u2 : Nat) : Int) := by omega
            clear HDB2 hdb2 HUN HD HD2 HNE
            have q0 : w2.cell? ⟨w.heap.size + 1, 0, none⟩ = some (.int .i64 0) := blk_cell HF2.out.l rfl
            have f0 : w2.frozen? ⟨w.heap.size + 1, 0, none⟩ = false := blk_frozen 0 HF2.out.l
            have HF3 := hide (HF2.out.set 0 (.int .i64 1))
            have q1 : (w2.setCell ⟨w.heap.size + 1, 0, none⟩ (.int .i64 1)).cell? ⟨w.heap.size + 1, 1, none⟩ = some (.int .u64 112) := blk_cell HF3.out.l rfl
            have f1 : (w2.setCell ⟨w.heap.size + 1, 0, none⟩ (.int .i64 1)).frozen? ⟨w.heap.size + 1, 1, none⟩ = false := blk_frozen 1 HF3.out.l
            have HFX : Hid (Fq w ((w2.setCell ⟨w.heap.size + 1, 0, none⟩ (.int .i64 1)).setCell ⟨w.heap.size + 1, 1, none⟩ (.int .u64 (c2 : Nat))) w.heap.size (w.heap.size + 1) #[.int .i64 1, .int .u64 (c2 : Nat), .int .u64 0, .string ⟨#[]⟩]) := HF3.out.set 1 (.int .u64 (c2 : Nat))
            have HBV := hide (HB.out.move (keep_below HFX.out.b))
            clear HF2 HF3 HBV2
            generalize hat4 : un + u2 = at4 at HLF HAT hsum
            clear hat4
            go_wp2_with (refine wpList_drop rfl 56 57 rfl _ b at4 rfl rfl HBV.out HAT.out ?_)
            intro ad nd cd hbd hnd
            have HBD := hide hbd
            clear hbd hnd
            generalize (w2.setCell ⟨w.heap.size + 1, 0, none⟩ (.int .i64 1)).setCell ⟨w.heap.size + 1, 1, none⟩ (.int .u64 (c2 : Nat)) = wx at *
            go_wp2_with fail
            refine (refDRead_any wx _ (b.drop at4) HBD.out).mono ?_
            rintro e w5 ⟨vd, rfl, ho5, hb5⟩
            have HF5 := hide (HFX.out.below hb5)
            have HVD := hide (BSl.own ho5 (dread_bytes4 (fun x hx => hby x (List.mem_of_mem_drop hx))))
            obtain ⟨ae, ce, hve, _⟩ := own_form ho5
            subst hve
            have HVL : Hid (∀ k, (Value.slice ae (dread (b.drop at4)).2.1.length ce).ownBlock = some k → ¬ k = w.heap.size + 1) := fun k hk e => own_not ho5 HF5.out.l (by decide) (by rw [← e]; exact hk)
            clear ho5 hb5
            by_cases hre : (dread (b.drop at4)).2.2.2 = 0
            · as_aux_lemma =>
              have HE : Hid (lthird 1 c2 at4 b = (⟨1, c2, (dread (b.drop at4)).1, (dread (b.drop at4)).2.1⟩, at4 + (dread (b.drop at4)).2.2.1, 0)) := by show _ = _; unfold lthird; rw [if_pos hre]
              have hnr : ((at4 : Nat) : Int) + (((dread (b.drop at4)).2.2.1 : Nat) : Int) ≤ 9223372036854775807 := by have h1 := (dread_back hre).1; rw [List.length_drop] at h1; have := HAT.out; omega
              rw [hre]
              generalize (dread (b.drop at4)).2.2.1 = nr at *
              generalize (dread (b.drop at4)).1 = hr at *
              generalize (dread (b.drop at4)).2.1 = dr at *
              have q2 : w5.cell? ⟨w.heap.size + 1, 2, none⟩ = some (.int .u64 0) := blk_cell HF5.out.l rfl
              have f2 : w5.frozen? ⟨w.heap.size + 1, 2, none⟩ = false := blk_frozen 2 HF5.out.l
              have HF6 := hide (HF5.out.set 2 (.int .u64 (hr : Nat)))
              have hk6 : Kp (fun q => q = w.heap.size + 1) w5 (w5.setCell ⟨w.heap.size + 1, 2, none⟩ (.int .u64 (hr : Nat))) := (Kp.refl _ _).setCell _ _ (fun _ => rfl)
              have cv := (hk6.bsl HVD.out HVL.out).text
              have q3 : (w5.setCell ⟨w.heap.size + 1, 2, none⟩ (.int .u64 (hr : Nat))).cell? ⟨w.heap.size + 1, 3, none⟩ = some (.string ⟨#[]⟩) := blk_cell HF6.out.l rfl
              have f3 : (w5.setCell ⟨w.heap.size + 1, 2, none⟩ (.int .u64 (hr : Nat))).frozen? ⟨w.heap.size + 1, 3, none⟩ = false := blk_frozen 3 HF6.out.l
              have HF7 := hide (HF6.out.set 3 (.string (nstr dr)))
              have HL7 : Hid (((w5.setCell ⟨w.heap.size + 1, 2, none⟩ (.int .u64 (hr : Nat))).setCell ⟨w.heap.size + 1, 3, none⟩ (.string (nstr dr))).heap[w.heap.size + 1]? = some (.cells #[.int .i64 1, .int .u64 (c2 : Nat), .int .u64 (hr : Nat), .string (nstr dr)] 35 (0, 0))) := HF7.out.l
              have HR7 := hide HF7.out.r
              have HB7 := hide HF7.out.b
              clear hk6 HF5 HF6 HF7
              go_wp2_with (first
                | (refine wpList_loadAll rfl rfl (w.heap.size + 1) #[.int .i64 1, .int .u64 (c2 : Nat), .int .u64 (hr : Nat), .string (nstr dr)] 35 rfl HL7.out Tryd.underlying35 info61 ?_)
                | (refine wpList_storeRow rfl rfl w.heap.size zlk #[.int .i64 1, .int .u64 (c2 : Nat), .int .u64 (hr : Nat), .string (nstr dr)] 35 rfl rfl HR7.out info61 rfl (by kernel_rfl) ?_))
              exact bodyPost_ret (first_end (row_same HR7.out) rfl rfl rfl rfl) rfl ⟨by rw [HLF.out, HE.out]; simp only [Int.natCast_add]; rfl, (HB7.out.trans ((row_kp _ _ _).below HB7.out.size (fun q e => by omega)))⟩
            · as_aux_lemma =>
              have HE : Hid (lthird 1 c2 at4 b = (Lk.none, 0, lerr (dread (b.drop at4)).2.2.2)) := by show _ = _; unfold lthird; rw [if_neg hre]
              have g9 : (((dread (b.drop at4)).2.2.2 : Int) == 0) = false := beq_eq_false_iff_ne.2 (by omega)
              have HR5 := hide HF5.out.r
              generalize (dread (b.drop at4)).2.2.2 = er at *
              generalize (dread (b.drop at4)).2.2.1 = nr at *
              generalize (dread (b.drop at4)).1 = hr at *
              go_wp2_with fail
              refine (refDigest_any w5 er).mono ?_
              rintro e w6 ⟨rfl, rfl⟩
              go_wp2_with (refine wpList_zero rfl rfl w.heap.size rfl rfl HR5.out ?_)
              exact bodyPost_ret (first_end HR5.out rfl rfl rfl rfl) rfl ⟨by rw [HLF.out, HE.out]; rfl, HF5.out.b⟩
          · have HLF : Hid (lfirst b = (Lk.none, 0, 42)) := by
              show _ = _
              unfold lfirst
              rw [if_neg HNE.out, HD.out]
              simp only [ne_eq, not_true_eq_false, if_false]
              rw [HD2.out]
              simp [he2]
            have g2 : ((e2 : Int) == 0) = false := beq_eq_false_iff_ne.2 (by omega)
            have HR2 := hide HF2.out.r
            clear HDB2 HD HD2 HNE
            go_wp2_with (refine wpList_zero rfl rfl w.heap.size rfl rfl HR2.out ?_)
            exact bodyPost_ret (first_end HR2.out rfl rfl rfl rfl) rfl ⟨by rw [HLF.out]; rfl, HF2.out.b⟩
        · have HLF : Hid (lfirst b = (Lk.none, 0, 41)) := by
            show _ = _
            unfold lfirst
            rw [if_neg HNE.out, HD.out]
            simp [hvn]
          have g2 : ((vn : Int) == 1) = false := beq_eq_false_iff_ne.2 (by omega)
          have HR1 := hide HF1.out.r
          clear HDB HD HNE hdb
          go_wp2_with (refine wpList_zero rfl rfl w.heap.size rfl rfl HR1.out ?_)
          exact bodyPost_ret (first_end HR1.out rfl rfl rfl rfl) rfl ⟨by rw [HLF.out]; rfl, HF1.out.b⟩
      · have HLF : Hid (lfirst b = (Lk.none, 0, 42)) := by
          show _ = _
          unfold lfirst
          rw [if_neg HNE.out, HD.out]
          simp [hen]
        have g2 : ((en : Int) == 0) = false := beq_eq_false_iff_ne.2 (by omega)
        have HR1 := hide HF1.out.r
        clear HDB HD HNE
        go_wp2_with (refine wpList_zero rfl rfl w.heap.size rfl rfl HR1.out ?_)
        exact bodyPost_ret (first_end HR1.out rfl rfl rfl rfl) rfl ⟨by rw [HLF.out]; rfl, HF1.out.b⟩
end
section
open Go.RowKit Go
/-- Parse's end. -/
theorem parse_end {wx : World} {R : Nat} {cs : Array Value} {x : Value} {tmps : Array Value} (hr : wx.heap[R]? = some (.cells cs 35 (0, 0))) (hs : cs.size = 4) (hp : tmps.getD 2 undef = .pointer (some ⟨R, 0, none⟩)) (hx : tmps.getD 3 undef = x) :
    (results Tryd.f42 tmps).run Tryd.prog wx = .ok (.tuple #[.agg cs, x]) wx := by
  refine (results_cell_tmp rfl _ _ _).trans ?_
  rw [hp, hx]
  have h1 := run_loadVar_row (P := Tryd.prog) wx R 35 35 cs (0, 0) _ hr Tryd.underlying35 rfl (by rw [hs]; exact info61)
  simp [asAddr, h1, Result.andThen]

set_option maxRecDepth 1000000 in
set_option maxHeartbeats 1000000 in
theorem lParse_any (w : World) (v : Value) (b : List Nat) (hb : BSl w v b) :
    Calls Tryd.prog 42 #[v] w fun e w' => e = .returned (.tuple #[lkv (lparse b).1, .int .i64 ((lparse b).2 : Nat)]) ∧ Below w.heap.size w w' := by
  have HB := hide hb
  obtain ⟨⟨a, cap, rfl, hn, hc⟩, hmax, hby⟩ := hb
  have HR0 : Hid ((w.alloc (.cells #[.int .i64 0, .int .u64 0, .int .u64 0, .string ⟨#[]⟩] 35)).heap[w.heap.size]? = some (.cells zlk 35 (0, 0))) := heap_alloc_new w _
  have HB0 := hide (below_alloc4 w (.cells #[.int .i64 0, .int .u64 0, .int .u64 0, .string ⟨#[]⟩] 35))
  clear hn hc hby
  go_enter Tryd.func42, Tryd.ntmps42
  go_wp2_with fail
  generalize w.alloc (.cells #[.int .i64 0, .int .u64 0, .int .u64 0, .string ⟨#[]⟩] 35) = w0 at *
  refine (lFirst_any w0 _ b (HB.out.move (keep_below HB0.out))).mono ?_
  rintro e w1 ⟨rfl, hb1⟩
  have HR1 : Hid (w1.heap[w.heap.size]? = some (.cells zlk 35 (0, 0))) := (hb1.block _ (blk_lt HR0.out)).trans HR0.out
  have HB1 : Hid (Below w.heap.size w w1) := HB0.out.trans (hb1.mono HB0.out.size)
  have HPR : Hid (lparse b = if (lfirst b).2.2 ≠ 0 then (Lk.none, (lfirst b).2.2) else if (lfirst b).2.1 < b.length then (Lk.none, 44) else ((lfirst b).1, 0)) := rfl
  clear hb1
  generalize lfirst b = r at *
  obtain ⟨⟨lv, lc, lh, ld⟩, n, er⟩ := r
  simp only at HPR ⊢
  have HNE : Hid (w.heap.size ≠ w1.heap.size) := by have := blk_lt HR1.out; show _ ≠ _; omega
  have HL2 : Hid ((w1.alloc (.cells #[.int .i64 lv, .int .u64 (lc : Nat), .int .u64 (lh : Nat), .string (nstr ld)] 35)).heap[w1.heap.size]? = some (.cells #[.int .i64 lv, .int .u64 (lc : Nat), .int .u64 (lh : Nat), .string (nstr ld)] 35 (0, 0))) := heap_alloc_new w1 _
  have HR2 : Hid ((w1.alloc (.cells #[.int .i64 lv, .int .u64 (lc : Nat), .int .u64 (lh : Nat), .string (nstr ld)] 35)).heap[w.heap.size]? = some (.cells zlk 35 (0, 0))) := blk_alloc _ HR1.out
  have HB2 : Hid (Below w.heap.size w (w1.alloc (.cells #[.int .i64 lv, .int .u64 (lc : Nat), .int .u64 (lh : Nat), .string (nstr ld)] 35))) := HB1.out.trans ((below_alloc4 w1 _).mono HB1.out.size)
  clear HR1 HB1
  simp only [lkv]
  by_cases he : er = 0
  · subst he
    by_cases hlt : n < b.length
    · as_aux_lemma =>
      have g1 : (n : Int) < (b.length : Int) := by omega
      have HP2 : Hid (lparse b = (Lk.none, 44)) := by show _ = _; rw [HPR.out]; simp [hlt]
      clear HPR hlt
      go_wp2_with (refine wpList_zero rfl rfl w.heap.size rfl rfl HR2.out ?_)
      exact bodyPost_ret (parse_end HR2.out rfl rfl rfl) rfl ⟨by rw [HP2.out]; rfl, HB2.out⟩
    · as_aux_lemma =>
      have g1 : ¬ (n : Int) < (b.length : Int) := by omega
      have HP2 : Hid (lparse b = (⟨lv, lc, lh, ld⟩, 0)) := by show _ = _; rw [HPR.out]; simp [hlt]
      clear HPR hlt
      go_wp2_with (first
        | (refine wpList_loadAll rfl rfl w1.heap.size #[.int .i64 lv, .int .u64 (lc : Nat), .int .u64 (lh : Nat), .string (nstr ld)] 35 rfl HL2.out Tryd.underlying35 info61 ?_)
        | (refine wpList_storeRow rfl rfl w.heap.size zlk #[.int .i64 lv, .int .u64 (lc : Nat), .int .u64 (lh : Nat), .string (nstr ld)] 35 rfl rfl HR2.out info61 rfl (by kernel_rfl) ?_))
      exact bodyPost_ret (parse_end (row_same HR2.out) rfl rfl rfl) rfl ⟨by rw [HP2.out]; rfl, HB2.out.trans ((row_kp _ _ _).below HB2.out.size (fun q e => by omega))⟩
  · as_aux_lemma =>
    have g1 : ((er : Int) == 0) = false := beq_eq_false_iff_ne.2 (by omega)
    have HP2 : Hid (lparse b = (Lk.none, er)) := by show _ = _; rw [HPR.out]; simp [he]
    clear HPR he
    go_wp2_with (refine wpList_zero rfl rfl w.heap.size rfl rfl HR2.out ?_)
    exact bodyPost_ret (parse_end HR2.out rfl rfl rfl) rfl ⟨by rw [HP2.out]; rfl, HB2.out⟩
end
section
open Go.RowKit Go
set_option maxRecDepth 1000000 in
set_option maxHeartbeats 1000000 in
theorem lHolds_any (w : World) (v : Int) (c h : Nat) (s : ByteArray) (vb : Value) (b : List Nat) (hh : h < 18446744073709551616) (hs : s.size ≤ 9223372036854775807) (hb : BSl w vb b) (hbl : b.length ≤ 140737488351232) :
    Calls Tryd.prog 22 #[.agg #[.int .i64 v, .int .u64 (c : Nat), .int .u64 (h : Nat), .string s], vb] w fun e w' => e = .returned (.bool (decide (lok ⟨v, c, h, sl s⟩) && dholds h (sl s) b)) ∧ Below w.heap.size w w' := by
  have HB := hide hb
  have HBL := hide hbl
  have HH := hide hh
  obtain ⟨⟨a, cap, rfl, hn, hc⟩, hmax, hby⟩ := hb
  have HT : Hid ((w.alloc (.cells #[.int .i64 v, .int .u64 (c : Nat), .int .u64 (h : Nat), .string s] 35)).heap[w.heap.size]? = some (.cells #[.int .i64 v, .int .u64 (c : Nat), .int .u64 (h : Nat), .string s] 35 (0, 0))) := heap_alloc_new w _
  have HB0 := hide (below_alloc4 w (.cells #[.int .i64 v, .int .u64 (c : Nat), .int .u64 (h : Nat), .string s] 35))
  clear hn hc hby
  go_enter Tryd.func22, Tryd.ntmps22
  go_wp2_with fail
  generalize w.alloc (.cells #[.int .i64 v, .int .u64 (c : Nat), .int .u64 (h : Nat), .string s] 35) = w0 at *
  refine (refCheck_any w0 v c h s HH.out hs).mono ?_
  rintro e w1 ⟨rfl, hb1⟩
  have q0 : w1.heap[w.heap.size]? = some (.cells #[.int .i64 v, .int .u64 (c : Nat), .int .u64 (h : Nat), .string s] 35 (0, 0)) := (hb1.block _ (blk_lt HT.out)).trans HT.out
  have HB1 : Hid (Below w.heap.size w w1) := HB0.out.trans (hb1.mono HB0.out.size)
  have c2 : w1.cell? ⟨w.heap.size, 2, none⟩ = some (.int .u64 (h : Nat)) := blk_cell q0 rfl
  have c3 : w1.cell? ⟨w.heap.size, 3, none⟩ = some (.string s) := blk_cell q0 rfl
  have cv := conv_sb w1 s
  clear hb1 q0
  by_cases hl : lok ⟨v, c, h, sl s⟩
  · as_aux_lemma =>
    rw [if_pos hl]
    have HL := hide hl
    clear hl
    have HS1 := hide (conv_sb_bsl w1 s hs)
    have HB2 : Hid (Below w.heap.size w (Lib.bytesWorld w1 5 s)) := HB1.out.trans ((conv_sb_below w1 s).mono HB1.out.size)
    go_wp2_with fail
    clear cv c2 c3
    generalize grownCap w1 s.size 0 5 = G at *
    generalize w1.heap.size = gg at *
    generalize Lib.bytesWorld w1 5 s = w2 at *
    refine (refHolds_any w2 h _ _ (sl s) b HH.out HS1.out (HB.out.move (keep_below HB2.out)) HBL.out).mono ?_
    rintro e w3 ⟨rfl, hb3⟩
    have HB3 : Hid (Below w.heap.size w w3) := HB2.out.trans (hb3.mono HB2.out.size)
    clear hb3
    go_wp2_with fail
    go_ret
    exact ⟨by rw [decide_eq_true HL.out, Bool.true_and]; rfl, HB3.out⟩
  · as_aux_lemma =>
    rw [if_neg hl]
    have HL := hide hl
    clear hl
    go_wp2_with fail
    go_ret
    exact ⟨by rw [decide_eq_false HL.out, Bool.false_and]; rfl, HB1.out⟩
end
end Go.Proofs.YtidglddjinfncaaDoor
