import Derived.Test.YtdejcapbggjjgaaGreatDoorJo
import Derived.Test.YtdejcapbggjjgaaGreatDoorJi
import Derived.Test.YtdejcapbggjjgaaGreatDoorJf
import Derived.Test.YtdejcapbggjjgaaGreatDoorJb
import Derived.BigRegion
import Derived.BigQuiet
namespace Go.Proofs.YtdejcapbggjjgaaGreatDoor
section
open Go.RowKit Go
theorem my8_pre (w : World) (ws hs : Array Value) : (((((w.alloc (.cells ws 79)).alloc (.cells hs 99)).alloc (.cells zv 61)).alloc (.cells zfe 64)).alloc (.cells zv 61)).heap[w.heap.size + 4]? = some (.cells zv 61 (0, 0)) := by
  have h4 := heap_alloc_new ((((w.alloc (.cells ws 79)).alloc (.cells hs 99)).alloc (.cells zv 61)).alloc (.cells zfe 64)) (.cells zv 61)
  have e4 : ((((w.alloc (.cells ws 79)).alloc (.cells hs 99)).alloc (.cells zv 61)).alloc (.cells zfe 64)).heap.size = w.heap.size + 4 := by simp
  rw [e4] at h4
  exact h4
/-- An answer in two variables. -/
structure Bx2 (w : World) (c f : Array Value) : Prop where
  a : ((w.alloc (.cells zv 61)).alloc (.cells zfe 64)).heap[w.heap.size]? = some (.cells zv 61 (0, 0))
  b : (((w.alloc (.cells zv 61)).alloc (.cells zfe 64)).setRow w.heap.size c).heap[w.heap.size + 1]? = some (.cells zfe 64 (0, 0))
  x : ((((w.alloc (.cells zv 61)).alloc (.cells zfe 64)).setRow w.heap.size c).setRow (w.heap.size + 1) f).heap[w.heap.size]? = some (.cells c 61 (0, 0))
  y : ((((w.alloc (.cells zv 61)).alloc (.cells zfe 64)).setRow w.heap.size c).setRow (w.heap.size + 1) f).heap[w.heap.size + 1]? = some (.cells f 64 (0, 0))
  l : Below w.heap.size w ((((w.alloc (.cells zv 61)).alloc (.cells zfe 64)).setRow w.heap.size c).setRow (w.heap.size + 1) f)
theorem bx2 (w : World) (c f : Array Value) : Bx2 w c f := by
  have h1 := heap_alloc_new w (.cells zv 61)
  have e1 : (w.alloc (.cells zv 61)).heap.size = w.heap.size + 1 := by simp
  have h2 := heap_alloc_new (w.alloc (.cells zv 61)) (.cells zfe 64)
  rw [e1] at h2
  have a1 := blk_alloc (.cells zfe 64) h1
  have k1 := row_kp ((w.alloc (.cells zv 61)).alloc (.cells zfe 64)) w.heap.size c
  have k2 := row_kp (((w.alloc (.cells zv 61)).alloc (.cells zfe 64)).setRow w.heap.size c) (w.heap.size + 1) f
  have b2 := (k1.block _ (blk_lt h2) (by omega)).trans h2
  have r1 := row_same (cs := c) a1
  have bl := (below_alloc4 w (.cells zv 61)).alloc (by omega) (.cells zfe 64)
  exact ⟨a1, b2, (k2.block _ (blk_lt r1) (by omega)).trans r1, row_same b2, (bl.trans (k1.below bl.size (fun q e => by omega))).trans (k2.below (bl.trans (k1.below bl.size (fun q e => by omega))).size (fun q e => by omega))⟩
theorem My8.ret {w wx : World} {ws hs c : Array Value} (h : My8 w wx ws hs c) (cv f : Array Value) : (wx.setRow (w.heap.size + 2) cv).heap[w.heap.size + 3]? = some (.cells zfe 64 (0, 0)) ∧ ((wx.setRow (w.heap.size + 2) cv).setRow (w.heap.size + 3) f).heap[w.heap.size + 2]? = some (.cells cv 61 (0, 0)) ∧ ((wx.setRow (w.heap.size + 2) cv).setRow (w.heap.size + 3) f).heap[w.heap.size + 3]? = some (.cells f 64 (0, 0)) ∧ Kp (fun q => q < w.heap.size + 5) wx ((wx.setRow (w.heap.size + 2) cv).setRow (w.heap.size + 3) f) ∧ Below w.heap.size w ((wx.setRow (w.heap.size + 2) cv).setRow (w.heap.size + 3) f) := by
  have k1 := row_kp wx (w.heap.size + 2) cv
  have k2 := row_kp (wx.setRow (w.heap.size + 2) cv) (w.heap.size + 3) f
  have a1 := (k1.block _ (blk_lt h.f) (by omega)).trans h.f
  have r1 := row_same (cs := cv) h.r
  have b1 := h.b.trans (k1.below h.b.size (fun q e => by omega))
  exact ⟨a1, (k2.block _ (blk_lt r1) (by omega)).trans r1, row_same a1, (k1.mono (fun q _ e => by omega)).trans k2 (fun q _ e => by omega), b1.trans (k2.below b1.size (fun q e => by omega))⟩
theorem exec_flE {o : Oper} {a : Act} {p : Operand} {g : Nat} {c : Array Value} {w : World} (ho : o.op = .load 64 p) (hp : a.eval p = .pointer (some ⟨g, 0, none⟩)) (hn : c.size = 2) (hg : w.heap[g]? = some (.cells c 64 (0, 0))) : (execOp a.eval o).run Tryz.prog w = .ok (.value (.agg c)) w := by
  have h1 := run_loadVar_row (P := Tryz.prog) w g 64 64 c (0, 0) _ hg Tryz.underlying64 rfl (by rw [hn]; exact infoFE)
  unfold execOp
  simp only [ho, Sem.run_bind, hp, Instr.loadAt, Instr.sureAddr, Sem.run_pure, Result.andThen, h1]
theorem Tin.txt {w : World} {t : Tv} {c : Array Value} (h : Tin w t c) : c[5]? = some (.string t.s) := by
  obtain ⟨vy, vk, vi, rfl, _⟩ := h.parts
  rfl
theorem rtk_key {full : Bool} {ks : List ByteArray} {r : List Nat} (h : rtake 1 full ks r = 0) : (hrd r).m = 3 := by
  have hl := (rtake_look h).1
  unfold rlook at hl
  by_cases h1 : (hrd r).e = 20
  · rw [if_pos h1] at hl; cases hl
  rw [if_neg h1] at hl
  by_cases h2 : (hrd r).e ≠ 0 ∨ (hrd r).i = 31
  · rw [if_pos h2] at hl; cases hl
  rw [if_neg h2] at hl
  by_cases h3 : ((hrd r).m = 2 ∨ (hrd r).m = 3) ∧ r.length - (hrd r).u < (hrd r).n
  · rw [if_pos h3] at hl; cases hl
  rw [if_neg h3] at hl
  by_cases h4 : rmay (hrd r) (rbody r) = false ∨ rfit 1 (hrd r) (rbody r) = false
  · rw [if_pos h4] at hl; cases hl
  have h5 : rfit 1 (hrd r) (rbody r) = true := by
    cases hb : rfit 1 (hrd r) (rbody r)
    · exact absurd (.inr hb) h4
    · rfl
  unfold rfit at h5
  rw [if_pos rfl] at h5
  exact of_decide_eq_true h5
theorem leaf_txt {h : HR} {y : List Nat} (hm : h.m = 3) : (rleaf h y).s = nstr y := by
  unfold rleaf
  rw [if_neg (by omega), if_neg (by omega), if_pos hm]
  rfl
set_option maxRecDepth 1000000 in
set_option maxHeartbeats 8000000 in
theorem many8_any (b : List Nat) (hbl : b.length ≤ 8388608) (d : Nat) (hd : d ≤ 1024) (p : Nat) (hp : p ≤ b.length) (ih : ∀ p', p ≤ p' → p' ≤ b.length → ItC b d p') : MaC b d p := by
  intro w vB p0 q k ah0 fi h kk hB hq hm hn
  have HB := hide hB
  have HIH := hide ih
  have HN := hide hn
  have HBL := hide hbl
  have HBB := hide hB.byte
  have HQ := hide hq
  have HP := hide hp
  have HK : Hid ((h.m = 4 ∧ kk = 8) ∨ (h.m = 5 ∧ kk = 9)) := hm
  have W1 : Hid ((wcs8 p0 q k ah0 fi)[1]? = some (.int .i64 (q : Nat))) := rfl
  have H0 : Hid ((hcs h)[0]? = some (.int .i64 (h.m : Nat))) := rfl
  have H2 : Hid ((hcs h)[2]? = some (.int .u64 (h.n : Nat))) := rfl
  obtain ⟨⟨aB, cB, hvB, _⟩, _, _⟩ := hB
  subst hvB
  generalize wcs8 p0 q k ah0 fi = ws at *
  generalize hcs h = hs at *
  have HM := hide (My8.start w ws hs (vcs (tz8 8) (.slice none 0 0) (.slice none 0 0) (.slice none 0 0)))
  have HG4 := hide (my8_pre w ws hs)
  have HIV : Hid ((Tryz.prog.info? 61).map (·.size) = some (vcs (tz8 8) (.slice none 0 0) (.slice none 0 0) (.slice none 0 0)).size) := infoV
  have HAV : Hid ((vcs (tz8 8) (.slice none 0 0) (.slice none 0 0) (.slice none 0 0)).all (·.oneCell') = true) := (plain_tis w (fun _ => False) (leaf_tbd (t := tz8 8) (by show (0 : Nat) < _; decide) (by show (0 : Nat) < _; decide) (by show (ByteArray.mk #[]).size ≤ _; decide) (by show (0 : Nat) ≤ _; decide) rfl) rfl rfl rfl).tin.all1
  have hqq : q ≤ 1023 := by omega
  clear ih hn hbl hq hp hm
  unfold zv zfe at HM HG4
  go_enter Tryz.func63, Tryz.ntmps63
  go_upto_region 2 with (refine wpList_storeRow rfl rfl (w.heap.size + 4) zv (vcs (tz8 8) (.slice none 0 0) (.slice none 0 0) (.slice none 0 0)) 61 rfl rfl HG4.out HIV.out rfl HAV.out ?_)
  rw [show w.heap.size + 1 + 1 = w.heap.size + 2 from rfl, show w.heap.size + 2 + 1 = w.heap.size + 3 from rfl, show w.heap.size + 3 + 1 = w.heap.size + 4 from rfl]
  generalize (((((w.alloc (.cells ws 79)).alloc (.cells hs 99)).alloc (.cells #[.int .i64 0, .bool false, .bool false, .int .u64 0, .int .u64 0, .string ⟨#[]⟩, .slice none 0 0, .int .i64 0, .int .u64 0, .int .u64 0, .string ⟨#[]⟩, .slice none 0 0, .slice none 0 0] 61)).alloc (.cells #[.int .i64 0, .int .i64 0] 64)).alloc (.cells #[.int .i64 0, .bool false, .bool false, .int .u64 0, .int .u64 0, .string ⟨#[]⟩, .slice none 0 0, .int .i64 0, .int .u64 0, .int .u64 0, .string ⟨#[]⟩, .slice none 0 0, .slice none 0 0] 61)).setRow (w.heap.size + 4) (vcs (tz8 8) (.slice none 0 0) (.slice none 0 0) (.slice none 0 0)) = w5 at *
  replace HM : Hid (My8 w w5 ws hs (vcs (tz8 8) (.slice none 0 0) (.slice none 0 0) (.slice none 0 0))) := HM
  clear HG4 HIV HAV
  have c0 := blk_cell (j := 0) HM.out.h H0.out
  go_upto_if 25 with fail
  go_cut [] from 23 to 26 (fun wx => Hid (My8 w wx ws hs (vcs (tz8 kk) (.slice none 0 0) (.slice none 0 0) (.slice none 0 0))))
  case first =>
    rcases HK.out with ⟨h4, rfl⟩ | ⟨h5, rfl⟩
    · as_aux_lemma =>
      have g5 : ((h.m : Int) == 5) = false := beq_eq_false_iff_ne.2 (by omega)
      clear h4
      go_wp2_with fail
      go_meet
      case rel => exact HM
    · as_aux_lemma =>
      have g5 : ((h.m : Int) == 5) = true := beq_iff_eq.2 (by omega)
      have v0 : w5.cell? ⟨w.heap.size + 4, 0, none⟩ = some (.int .i64 8) := blk_cell (j := 0) HM.out.v rfl
      have f0 := blk_frozen 0 HM.out.v
      have HM2 : Hid (My8 w (w5.setCell ⟨w.heap.size + 4, 0, none⟩ (.int .i64 9)) ws hs (vcs (tz8 9) (.slice none 0 0) (.slice none 0 0) (.slice none 0 0))) := HM.out.setV 0 (.int .i64 9)
      clear h5
      go_wp2_with fail
      go_meet
      case rel => exact HM2
  case rest =>
    rename World => w6
    clear HM c0
    have HM := hcut
    clear hcut
    have HR0 : Hid (Rd b d p q kk h.n 0 p ⟨#[]⟩ ⟨kk, [], [], h.n⟩) := ⟨rfl, rfl, rfl, Nat.le_refl _, HP.out, by rcases HK.out with ⟨_, rfl⟩ | ⟨_, rfl⟩; exact .inl ⟨rfl, rfl⟩; exact .inr ⟨rfl, rfl, fun e => absurd rfl e⟩, by show (ByteArray.mk #[]).size ≤ _; decide, fun st _ => Gos.refl _ _ _⟩
    have HE0 : Hid (En8 w6 (w.heap.size + 5) ⟨kk, [], [], h.n⟩ (.slice none 0 0) (.slice none 0 0) []) := En8.empty w6 HM.out.z HN.out
    go_wp2_with fail
    go_loopw [4, 14, 15] (fun s4 s14 s15 wx => ∃ (i a : Nat) (ah : ByteArray) (x : Nst) (vk vi : Value) (L : List (Array Value)), s4 = .int .i64 ((a : Nat) : Int) ∧ s14 = .string ah ∧ s15 = .int .u64 ((i : Nat) : Int) ∧ i ≤ h.n ∧ Hid (Rd b d p q kk h.n i a ah x) ∧ Hid (My8 w wx ws hs (vcs x.val (.slice none 0 0) vk vi)) ∧ Hid (En8 wx (w.heap.size + 5) x vk vi L)) (fun _ _ s15 _ => h.n - (intOf s15).toNat)
    case atStart => exact ⟨0, p, ⟨#[]⟩, ⟨kk, [], [], h.n⟩, .slice none 0 0, .slice none 0 0, [], rfl, rfl, rfl, Nat.zero_le _, HR0, HM, HE0⟩
    case round =>
      rename World => wa
      clear HM HR0 HE0
      obtain ⟨i, a, ah, x, vk, vi, L, rfl, rfl, rfl, hi, HR, HM, HE⟩ := hrel
      have hbl9 : b.length ≤ 8388608 := HBL.out
      have d2 := blk_cell (j := 2) HM.out.h H2.out
      have HBa : Hid (BSl wa (.slice aB b.length cB) b) := HB.out.move (keep_below HM.out.b)
      have HIR : Hid ((Tryz.prog.info? 61).map (·.size) = some zv.size) := infoV
      have HZA : Hid (zv.all (·.oneCell') = true) := by show _ = _; simp [zv, Value.oneCell']
      have HIF : Hid (∀ e p, (Tryz.prog.info? 64).map (·.size) = some (fce e p).size) := fun _ _ => infoFE
      have HIZ : Hid ((Tryz.prog.info? 64).map (·.size) = some zfe.size) := infoFE
      have HAZ : Hid (zfe.all (·.oneCell') = true) := fce_all 0 0
      by_cases hlt : i < h.n
      · have g1 : (i : Int) < (h.n : Int) := by omega
        have W1a := blk_cell (j := 1) HM.out.x W1.out
        have k0 : wa.cell? ⟨w.heap.size + 4, 0, none⟩ = some (.int .i64 kk) := by have h1 := blk_cell (j := 0) (v := .int .i64 x.k) HM.out.v rfl; rw [HR.out.k] at h1; exact h1
        go_upto_if 35 with fail
        go_cut [4, 14] from 33 to 65 (fun s4 s14 wx => ∃ (a : Nat) (ah : ByteArray) (x : Nst) (vk vi : Value) (L : List (Array Value)), s4 = .int .i64 ((a : Nat) : Int) ∧ s14 = .string ah ∧ Hid (Re b d p q kk h.n i a ah x) ∧ Hid (My8 w wx ws hs (vcs x.val (.slice none 0 0) vk vi)) ∧ Hid (En8 wx (w.heap.size + 5) x vk vi L))
        case first =>
          rcases HK.out with ⟨_, hk8⟩ | ⟨_, hk9⟩
          · as_aux_lemma =>
            subst hk8
            have HRE := hide (HR.out.list hlt)
            go_wp2_with fail
            go_meet
            case rel => exact ⟨a, ah, x, vk, vi, L, rfl, rfl, HRE, HM, HE⟩
          · subst hk9
            have HIC := hide (HIH.out a (by have := HR.out.a1; omega) HR.out.a2 wa (.slice aB b.length cB) (q + 1) 1 ah ((i : Int) == 0) x.ks HBa.out HQ.out (.inr (.inl rfl)) HR.out.ahd)
            unfold wcs8 at HIC
            rw [nat_succ_cast] at HIC
            go_wp2_with fail
            refine HIC.out.mono ?_
            rintro e w2 ⟨hb2, hans⟩
            replace HM := hide (HM.out.next hb2)
            replace HE := hide (HE.out.next hb2)
            have HZ2 := hide HM.out.z
            clear HIC HBa W1a k0 d2
            rcases hans with ⟨c, v, m, rfl, ht, hg⟩ | ⟨e1, p1, h0, rfl, he⟩
            · as_aux_lemma =>
              have HX := hide (bx2 w2 c zfe)
              have HXa := hide HX.out.a
              have HXb := hide HX.out.b
              replace HM := hide (HM.out.next HX.out.l)
              replace HE := hide (HE.out.next HX.out.l)
              have HV3 := hide HX.out.x
              have HY3 := hide HX.out.y
              have HTI := hide (ht.kp (Kp.of_below HX.out.l))
              have HS13 := hide ht.tin.size13
              have HA1 := hide ht.tin.all1
              have HINc : Hid ((Tryz.prog.info? 61).map (·.size) = some c.size) := by show _ = _; rw [HS13.out]; exact infoV
              have HZVc : Hid (zv.size = c.size) := by show _ = _; rw [HS13.out]; rfl
              have HG := hide hg
              clear HX hb2 ht hg
              go_upto_region 10 with (first
                | (refine wpList_storeRow rfl rfl w2.heap.size zv c 61 rfl rfl HXa.out HINc.out HZVc.out HA1.out ?_)
                | (refine wpList_storeRow rfl rfl (w2.heap.size + 1) zfe #[.int .i64 0, .int .i64 0] 64 rfl rfl HXb.out HIZ.out rfl HAZ.out ?_))
              unfold zv zfe at HM HE HV3 HY3 HTI
              generalize (((w2.alloc (.cells #[.int .i64 0, .bool false, .bool false, .int .u64 0, .int .u64 0, .string ⟨#[]⟩, .slice none 0 0, .int .i64 0, .int .u64 0, .int .u64 0, .string ⟨#[]⟩, .slice none 0 0, .slice none 0 0] 61)).alloc (.cells #[.int .i64 0, .int .i64 0] 64)).setRow w2.heap.size c).setRow (w2.heap.size + 1) #[.int .i64 0, .int .i64 0] = w3 at *
              clear HXa HXb
              have k3 := blk_cell (j := 0) (v := .int .i64 0) HY3.out rfl
              obtain ⟨hrt, hmm, hvv⟩ := HG.out.2.2.1 (by decide)
              have hs3 : v.s = nstr (rbody (b.drop a)) := by rw [hvv]; exact leaf_txt (rtk_key hrt)
              have t5 := blk_cell (j := 5) HV3.out HTI.out.tin.txt
              rw [hs3] at t5
              have hsz : (nstr (rbody (b.drop a))).size ≤ 140737488351232 := by
                obtain ⟨_, _, _, _, _, _, _, htb⟩ := HTI.out.tin.parts
                rw [← hs3]
                exact htb.s
              have HRE := hide (HR.out.key hlt HQ.out hrt (by have := HG.out.2.1; omega) hsz)
              rw [← hmm] at HRE
              generalize nstr (rbody (b.drop a)) = s at *
              have HSZ := hide hsz
              have hkl : x.ks.length ≤ 8388608 := by have h1 := HR.out.ks.resolve_left (fun e => by omega); have h2 := HR.out.a1; have h3 := HR.out.a2; omega
              obtain ⟨ak, ck, hvk⟩ := own_slice8 HE.out.e.k
              subst hvk
              clear hrt hmm hvv hs3 hsz HTI HG HS13 HA1 HINc HZVc HY3 HR
              have v11 : w3.cell? ⟨w.heap.size + 4, 11, none⟩ = some (.slice ak x.ks.length ck) := blk_cell (j := 11) HM.out.v rfl
              have hbA := below_alloc4 w3 (.cells #[.string s] 9)
              replace HM := hide (HM.out.next hbA)
              replace HE := hide (HE.out.next hbA)
              have HGA := hide (heap_alloc_new w3 (.cells #[.string s] 9))
              have HKA := hide HE.out.e.k
              have HLB := hide HE.out.l
              clear hbA
              go_wp2_with (first
                | (refine wpList_str1 rfl rfl s rfl ?_)
                | (at_builtin; refine append_str8 rfl _ _ rfl (w.heap.size + 5) _ x.ks.length x.ks rfl HKA.out w3.heap.size s rfl HGA.out (by omega) HLB.out ?_))
              intro v7 w7 ho7 hg7 hv7
              obtain ⟨a7, c7, hs7⟩ := own_slice8 ho7
              subst hs7
              have hk7 : Kp (fun q => (Value.slice ak x.ks.length ck).ownBlock = some q) (w3.alloc (.cells #[.string s] 9)) w7 := (Kp.refl _ _).grown hg7 (fun _ _ h => h)
              have HM7 := hide (HM.out.kp hk7 (fun q e => (HKA.out.lt q e).1))
              have HE7 := hide (HE.out.key ho7 hg7 (by simpa using hv7) HSZ.out (by omega))
              have v11' : w7.cell? ⟨w.heap.size + 4, 11, none⟩ = some (.slice ak x.ks.length ck) := blk_cell (j := 11) HM7.out.v rfl
              have f11 := blk_frozen 11 HM7.out.v
              have HM8 : Hid (My8 w (w7.setCell ⟨w.heap.size + 4, 11, none⟩ (.slice a7 (x.ks.length + 1) c7)) ws hs (vcs (Nst.val ⟨x.k, x.ks ++ [s], x.is, x.n⟩) (.slice none 0 0) (.slice a7 (x.ks.length + 1) c7) vi)) := HM7.out.setV 11 _
              have HE8 : Hid (En8 (w7.setCell ⟨w.heap.size + 4, 11, none⟩ (.slice a7 (x.ks.length + 1) c7)) (w.heap.size + 5) ⟨x.k, x.ks ++ [s], x.is, x.n⟩ (.slice a7 (x.ks.length + 1) c7) vi L) := HE7.out.kp ((Kp.refl _ w7).setCell _ _ (fun _ => by show w.heap.size + 4 < w.heap.size + 5; omega))
              clear ho7 hg7 hv7 hk7 HM7 HE7 HM HE v11
              go_wp2_with fail
              go_meet
              case rel => exact ⟨m, s, _, _, vi, L, rfl, rfl, HRE, HM8, HE8⟩
            · as_aux_lemma =>
                have HX := hide (bx2 w2 zv (fce e1 p1))
                have HXa := hide HX.out.a
                have HXb := hide HX.out.b
                have HAF := hide (fce_all e1 p1)
                replace HM := hide (HM.out.next HX.out.l)
                have HY3 := hide HX.out.y
                have he2 := he.1 (by decide)
                have HMA : Hid (MaE b d p q 9 h.n e1 p1) := by have h1 := HR.out.bad hlt HQ.out he2.1 h0; rw [he2.2]; exact h1
                clear he2
                have gk : ((e1 : Int) != 0) = true := by rw [bne_iff_ne]; omega
                have HE0 := hide h0
                clear HX hb2 he h0 HE
                go_upto_region 10 with (first
                  | (refine wpList_storeRow rfl rfl w2.heap.size zv #[.int .i64 0, .bool false, .bool false, .int .u64 0, .int .u64 0, .string ⟨#[]⟩, .slice none 0 0, .int .i64 0, .int .u64 0, .int .u64 0, .string ⟨#[]⟩, .slice none 0 0, .slice none 0 0] 61 rfl rfl HXa.out HIR.out rfl HZA.out ?_)
                  | (refine wpList_storeRow rfl rfl (w2.heap.size + 1) zfe (fce e1 p1) 64 rfl rfl HXb.out (HIF.out e1 p1) rfl HAF.out ?_))
                unfold zv zfe at HM HY3
                generalize (((w2.alloc (.cells #[.int .i64 0, .bool false, .bool false, .int .u64 0, .int .u64 0, .string ⟨#[]⟩, .slice none 0 0, .int .i64 0, .int .u64 0, .int .u64 0, .string ⟨#[]⟩, .slice none 0 0, .slice none 0 0] 61)).alloc (.cells #[.int .i64 0, .int .i64 0] 64)).setRow w2.heap.size #[.int .i64 0, .bool false, .bool false, .int .u64 0, .int .u64 0, .string ⟨#[]⟩, .slice none 0 0, .int .i64 0, .int .u64 0, .int .u64 0, .string ⟨#[]⟩, .slice none 0 0, .slice none 0 0]).setRow (w2.heap.size + 1) (fce e1 p1) = w3 at *
                clear HXa HXb
                have k3 := blk_cell (j := 0) (v := .int .i64 (e1 : Nat)) HY3.out rfl
                go_wp2_with fail
                have hMD := HM.out.next (show Below w3.heap.size w3 w3.drew by refine Below.drew ?_; exact Below.refl _ _)
                have hret := hMD.ret zv (fce e1 p1)
                have HFF := hide hret.1
                have HRET := hide hret.2
                have HRR := hide hMD.r
                have hz2 := HZ2.out
                refine heldStart (S := fun wy => wy.heap[w2.heap.size + 1]? = some (.cells (fce e1 p1) 64 (0, 0))) (by kernel_rfl) ?_
                have hS : w3.drew.heap[w2.heap.size + 1]? = some (.cells (fce e1 p1) 64 (0, 0)) := HY3.out
                clear hret hMD k3
                generalize w3.drew = w4 at *
                refine heldTake 0 _ rfl (by kernel_rfl) (by kernel_rfl) (by kernel_rfl) (fun _ _ _ h => h) rfl hS (fun wy hy => by first | (go_simp; done) | (go_simp; rfl) | rfl) ?_
                (try simp only [Act.put]); (try simp only [List.setIfInBounds_toArray, List.set_cons_zero, List.set_cons_succ])
                refine heldTake 1 (.agg (fce e1 p1)) rfl (by kernel_rfl) (by kernel_rfl) (by kernel_rfl) (fun _ _ _ h => h) rfl hS (fun wy hy => exec_flE rfl rfl rfl hy) ?_
                (try simp only [Act.put]); (try simp only [List.setIfInBounds_toArray, List.set_cons_zero, List.set_cons_succ])
                refine heldStep 2 rfl (by kernel_rfl) (fun K hK => ?_)
                refine step_storeRow rfl rfl (w.heap.size + 2) zv zv 61 rfl rfl HRR.out HIR.out rfl HZA.out ?_
                have hrk := row_kp w4 (w.heap.size + 2) zv
                refine (Hid.out hK) _ _ ((hrk.block _ (blk_lt hS) (by omega)).trans hS) (fun hS4 => ?_)
                clear hK K hS
                (try simp only [Act.put]); (try simp only [List.setIfInBounds_toArray, List.set_cons_zero, List.set_cons_succ])
                refine heldTake 3 _ rfl (by kernel_rfl) (by kernel_rfl) (by kernel_rfl) (fun _ _ _ h => h) rfl hS4 (fun wy hy => by first | (go_simp; done) | (go_simp; rfl) | rfl) ?_
                (try simp only [Act.put]); (try simp only [List.setIfInBounds_toArray, List.set_cons_zero, List.set_cons_succ])
                refine heldStep 4 rfl (by kernel_rfl) (fun K hK => ?_)
                refine step_storeRow rfl rfl (w.heap.size + 3) zfe (fce e1 p1) 64 rfl rfl HFF.out (HIF.out e1 p1) rfl HAF.out ?_
                have hrk2 := row_kp (w4.setRow (w.heap.size + 2) zv) (w.heap.size + 3) (fce e1 p1)
                refine (Hid.out hK) _ _ ((hrk2.block _ (blk_lt hS4) (by omega)).trans hS4) (fun hS5 => ?_)
                clear hK K hS4
                (try simp only [Act.put]); (try simp only [List.setIfInBounds_toArray, List.set_cons_zero, List.set_cons_succ])
                refine heldDone (by kernel_rfl) ?_
                clear hS5
                go_wp2_with fail
                exact bodyPost_ret (end_many rfl HRET.out.1 rfl HRET.out.2.1 rfl rfl rfl) rfl (Ans.bad HRET.out.2.2.2 HE0.out HMA.out)
        case rest =>
          rename World => wx
          clear HR HM HE HBa W1a k0 d2
          obtain ⟨a, ah, x, vk, vi, L, rfl, rfl, HR, HM, HE⟩ := hcut
          have HBa : Hid (BSl wx (.slice aB b.length cB) b) := HB.out.move (keep_below HM.out.b)
          have W1a := blk_cell (j := 1) HM.out.x W1.out
          have HIC := hide (HIH.out a (by have := HR.out.a1; omega) HR.out.a2 wx (.slice aB b.length cB) (q + 1) 0 ⟨#[]⟩ false [] HBa.out HQ.out (.inl rfl) (fun e => absurd e (by decide)))
          unfold wcs8 at HIC
          rw [nat_succ_cast] at HIC
          have HSUB : Hid (∀ q, Eb8 (w.heap.size + 5) vk vi q → q < wx.heap.size) := fun q e => by
            rcases e with e | e | e
            · have := HM.out.z
              omega
            · exact (HE.out.e.k.lt q e).2
            · exact (HE.out.e.i.lt q e).2
          go_wp2_with fail
          refine HIC.out.mono ?_
          rintro e w2 ⟨hb2, hans⟩
          replace HM := hide (HM.out.next hb2)
          replace HE := hide (HE.out.next hb2)
          have HZ2 := hide HM.out.z
          clear HIC HBa W1a
          rcases hans with ⟨c, v, m, rfl, ht, hg⟩ | ⟨e1, p1, h0, rfl, he⟩
          · as_aux_lemma =>
            have HX := hide (bx2 w2 c zfe)
            have HXa := hide HX.out.a
            have HXb := hide HX.out.b
            replace HM := hide (HM.out.next HX.out.l)
            replace HE := hide (HE.out.next HX.out.l)
            have HV3 := hide HX.out.x
            have HY3 := hide HX.out.y
            have HTI := hide (ht.kp (Kp.of_below HX.out.l))
            have HS13 := hide ht.tin.size13
            have HA1 := hide ht.tin.all1
            have HINc : Hid ((Tryz.prog.info? 61).map (·.size) = some c.size) := by show _ = _; rw [HS13.out]; exact infoV
            have HZVc : Hid (zv.size = c.size) := by show _ = _; rw [HS13.out]; rfl
            have HG := hide hg
            clear HX hb2 ht hg
            go_upto_region 16 with (first
              | (refine wpList_storeRow rfl rfl w2.heap.size zv c 61 rfl rfl HXa.out HINc.out HZVc.out HA1.out ?_)
              | (refine wpList_storeRow rfl rfl (w2.heap.size + 1) zfe #[.int .i64 0, .int .i64 0] 64 rfl rfl HXb.out HIZ.out rfl HAZ.out ?_))
            unfold zv zfe at HM HE HV3 HY3 HTI
            generalize (((w2.alloc (.cells #[.int .i64 0, .bool false, .bool false, .int .u64 0, .int .u64 0, .string ⟨#[]⟩, .slice none 0 0, .int .i64 0, .int .u64 0, .int .u64 0, .string ⟨#[]⟩, .slice none 0 0, .slice none 0 0] 61)).alloc (.cells #[.int .i64 0, .int .i64 0] 64)).setRow w2.heap.size c).setRow (w2.heap.size + 1) #[.int .i64 0, .int .i64 0] = w3 at *
            clear HXa HXb
            have k3 := blk_cell (j := 0) (v := .int .i64 0) HY3.out rfl
            have HRN := hide (HR.out.item hlt HG.out)
            have hil : x.is.length ≤ 8388608 := by have h1 := HR.out.l; have h2 := HR.out.a1; have h3 := HR.out.a2; omega
            have HLI := hide HE.out.e.n
            obtain ⟨ai, ci, hvi⟩ := own_slice8 HE.out.e.i
            subst hvi
            have HLL : Hid (L.length ≤ 8388608) := by have h1 := HLI.out; show _ ≤ _; omega
            have hn9 : h.n < 18446744073709551616 := HN.out
            clear HG HY3 HR HINc HZVc
            have v12 : w3.cell? ⟨w.heap.size + 4, 12, none⟩ = some (.slice ai x.is.length ci) := blk_cell (j := 12) HM.out.v rfl
            have HCX : Hid (∀ j u, c[j]? = some u → w3.cell? ⟨w2.heap.size, 0 + j, none⟩ = some u) := fun j u hu => by rw [Nat.zero_add]; exact blk_cell HV3.out hu
            have HON : Hid (one13 c) := ⟨HS13.out, fun u hu => by have h9 := HA1.out; rw [Array.all_eq_true_iff_forall_mem] at h9; exact h9 u (by simpa using hu)⟩
            have hbA := below_alloc4 w3 (.cells c 61)
            replace HM := hide (HM.out.next hbA)
            replace HE := hide (HE.out.next hbA)
            have HTA := hide ((HTI.out.kp (Kp.of_below hbA)).mono (fun q e => HSUB.out q e))
            have HGA := hide (heap_alloc_new w3 (.cells c 61))
            have HIA : Hid ((w3.alloc (.cells c 61)).ownsRow (w.heap.size + 5) 61 13 (.slice ai x.is.length ci) L.length (vfl L)) := by have h1 := HE.out.e.i; rw [← HLI.out] at h1 ⊢; exact h1
            have HLB := hide HE.out.l
            clear hbA HTI
            go_wp2_with (first
              | (refine wpList_valAt rfl rfl w2.heap.size 0 c rfl HS13.out HCX.out ?_)
              | (refine wpList_val1 rfl rfl c HS13.out rfl ?_)
              | (at_builtin; refine append_val rfl _ _ rfl (w.heap.size + 5) _ L.length (vfl L) rfl HIA.out w3.heap.size c HON.out rfl HGA.out ?b1 HLB.out ?_))
            case b1 => have := HLL.out; omega
            intro v7 w7 ho7 hg7 hv7
            obtain ⟨a7, c7, hs7⟩ := own_slice8 ho7
            subst hs7
            have hk7 : Kp (fun q => (Value.slice ai x.is.length ci).ownBlock = some q) (w3.alloc (.cells c 61)) w7 := (Kp.refl _ _).grown hg7 (fun _ _ h => h)
            have HM7 := hide (HM.out.kp hk7 (fun q e => (HIA.out.lt q e).1))
            have HE7 := hide (HE.out.item HS13.out HTA.out ho7 hg7 (by simpa using hv7) (by omega))
            have v12' : w7.cell? ⟨w.heap.size + 4, 12, none⟩ = some (.slice ai x.is.length ci) := blk_cell (j := 12) HM7.out.v rfl
            have f12 := blk_frozen 12 HM7.out.v
            have HM8 : Hid (My8 w (w7.setCell ⟨w.heap.size + 4, 12, none⟩ (.slice a7 (L.length + 1) c7)) ws hs (vcs (Nst.val ⟨x.k, x.ks, x.is ++ [v], x.n - 1⟩) (.slice none 0 0) vk (.slice a7 (L.length + 1) c7))) := HM7.out.setV 12 _
            have HE8 : Hid (En8 (w7.setCell ⟨w.heap.size + 4, 12, none⟩ (.slice a7 (L.length + 1) c7)) (w.heap.size + 5) ⟨x.k, x.ks, x.is ++ [v], x.n - 1⟩ vk (.slice a7 (L.length + 1) c7) (L ++ [c])) := HE7.out.kp ((Kp.refl _ w7).setCell _ _ (fun _ => by show w.heap.size + 4 < w.heap.size + 5; omega))
            clear ho7 hg7 hv7 hk7 HM7 HE7 HM HE v12 HTA
            go_wp2_with fail
            go_roundw
            case rel => exact ⟨i + 1, m, ah, _, vk, _, _, rfl, rfl, by go_num, by omega, HRN, HM8, HE8⟩
            case measure => simp [intOf]; omega
          · as_aux_lemma =>
              have HX := hide (bx2 w2 zv (fce e1 p1))
              have HXa := hide HX.out.a
              have HXb := hide HX.out.b
              have HAF := hide (fce_all e1 p1)
              replace HM := hide (HM.out.next HX.out.l)
              have HY3 := hide HX.out.y
              have HMA : Hid (MaE b d p q kk h.n e1 p1) := HR.out.bad he
              have gk : ((e1 : Int) != 0) = true := by rw [bne_iff_ne]; omega
              have HE0 := hide h0
              clear HX hb2 he h0 HE
              go_upto_region 16 with (first
                | (refine wpList_storeRow rfl rfl w2.heap.size zv #[.int .i64 0, .bool false, .bool false, .int .u64 0, .int .u64 0, .string ⟨#[]⟩, .slice none 0 0, .int .i64 0, .int .u64 0, .int .u64 0, .string ⟨#[]⟩, .slice none 0 0, .slice none 0 0] 61 rfl rfl HXa.out HIR.out rfl HZA.out ?_)
                | (refine wpList_storeRow rfl rfl (w2.heap.size + 1) zfe (fce e1 p1) 64 rfl rfl HXb.out (HIF.out e1 p1) rfl HAF.out ?_))
              unfold zv zfe at HM HY3
              generalize (((w2.alloc (.cells #[.int .i64 0, .bool false, .bool false, .int .u64 0, .int .u64 0, .string ⟨#[]⟩, .slice none 0 0, .int .i64 0, .int .u64 0, .int .u64 0, .string ⟨#[]⟩, .slice none 0 0, .slice none 0 0] 61)).alloc (.cells #[.int .i64 0, .int .i64 0] 64)).setRow w2.heap.size #[.int .i64 0, .bool false, .bool false, .int .u64 0, .int .u64 0, .string ⟨#[]⟩, .slice none 0 0, .int .i64 0, .int .u64 0, .int .u64 0, .string ⟨#[]⟩, .slice none 0 0, .slice none 0 0]).setRow (w2.heap.size + 1) (fce e1 p1) = w3 at *
              clear HXa HXb
              have k3 := blk_cell (j := 0) (v := .int .i64 (e1 : Nat)) HY3.out rfl
              go_wp2_with fail
              have hMD := HM.out.next (show Below w3.heap.size w3 w3.drew by refine Below.drew ?_; exact Below.refl _ _)
              have hret := hMD.ret zv (fce e1 p1)
              have HFF := hide hret.1
              have HRET := hide hret.2
              have HRR := hide hMD.r
              have hz2 := HZ2.out
              refine heldStart (S := fun wy => wy.heap[w2.heap.size + 1]? = some (.cells (fce e1 p1) 64 (0, 0))) (by kernel_rfl) ?_
              have hS : w3.drew.heap[w2.heap.size + 1]? = some (.cells (fce e1 p1) 64 (0, 0)) := HY3.out
              clear hret hMD k3
              generalize w3.drew = w4 at *
              refine heldTake 0 _ rfl (by kernel_rfl) (by kernel_rfl) (by kernel_rfl) (fun _ _ _ h => h) rfl hS (fun wy hy => by first | (go_simp; done) | (go_simp; rfl) | rfl) ?_
              (try simp only [Act.put]); (try simp only [List.setIfInBounds_toArray, List.set_cons_zero, List.set_cons_succ])
              refine heldTake 1 (.agg (fce e1 p1)) rfl (by kernel_rfl) (by kernel_rfl) (by kernel_rfl) (fun _ _ _ h => h) rfl hS (fun wy hy => exec_flE rfl rfl rfl hy) ?_
              (try simp only [Act.put]); (try simp only [List.setIfInBounds_toArray, List.set_cons_zero, List.set_cons_succ])
              refine heldStep 2 rfl (by kernel_rfl) (fun K hK => ?_)
              refine step_storeRow rfl rfl (w.heap.size + 2) zv zv 61 rfl rfl HRR.out HIR.out rfl HZA.out ?_
              have hrk := row_kp w4 (w.heap.size + 2) zv
              refine (Hid.out hK) _ _ ((hrk.block _ (blk_lt hS) (by omega)).trans hS) (fun hS4 => ?_)
              clear hK K hS
              (try simp only [Act.put]); (try simp only [List.setIfInBounds_toArray, List.set_cons_zero, List.set_cons_succ])
              refine heldTake 3 _ rfl (by kernel_rfl) (by kernel_rfl) (by kernel_rfl) (fun _ _ _ h => h) rfl hS4 (fun wy hy => by first | (go_simp; done) | (go_simp; rfl) | rfl) ?_
              (try simp only [Act.put]); (try simp only [List.setIfInBounds_toArray, List.set_cons_zero, List.set_cons_succ])
              refine heldStep 4 rfl (by kernel_rfl) (fun K hK => ?_)
              refine step_storeRow rfl rfl (w.heap.size + 3) zfe (fce e1 p1) 64 rfl rfl HFF.out (HIF.out e1 p1) rfl HAF.out ?_
              have hrk2 := row_kp (w4.setRow (w.heap.size + 2) zv) (w.heap.size + 3) (fce e1 p1)
              refine (Hid.out hK) _ _ ((hrk2.block _ (blk_lt hS4) (by omega)).trans hS4) (fun hS5 => ?_)
              clear hK K hS4
              (try simp only [Act.put]); (try simp only [List.setIfInBounds_toArray, List.set_cons_zero, List.set_cons_succ])
              refine heldDone (by kernel_rfl) ?_
              clear hS5
              go_wp2_with fail
              exact bodyPost_ret (end_many rfl HRET.out.1 rfl HRET.out.2.1 rfl rfl rfl) rfl (Ans.bad HRET.out.2.2.2 HE0.out HMA.out)
      · as_aux_lemma =>
        have g1 : ¬ (i : Int) < (h.n : Int) := by omega
        have HMG := hide (HR.out.whole (by omega))
        have HVX := hide HM.out.vx
        have HT := hide HE.out.val
        have HS13 := hide HT.out.tin.size13
        have HA1 := hide HT.out.tin.all1
        have HRR := hide HM.out.r
        have hret := HM.out.ret (vcs x.val (.slice none 0 0) vk vi) zfe
        have HFF := hide hret.1
        have HRET := hide hret.2
        have HIN : Hid ((Tryz.prog.info? 61).map (·.size) = some (vcs x.val (.slice none 0 0) vk vi).size) := infoV
        clear hret
        go_wp2_with (first
          | (refine wpList_valAt rfl rfl (w.heap.size + 4) 0 (vcs x.val (.slice none 0 0) vk vi) rfl HS13.out HVX.out ?_)
          | (refine wpList_storeRow rfl rfl (w.heap.size + 2) zv (vcs x.val (.slice none 0 0) vk vi) 61 rfl rfl HRR.out HIN.out rfl HA1.out ?_)
          | (refine wpList_storeRow rfl rfl (w.heap.size + 3) zfe zfe 64 rfl rfl HFF.out HIZ.out rfl HAZ.out ?_))
        exact bodyPost_ret (end_many HS13.out HRET.out.1 rfl HRET.out.2.1 rfl rfl rfl) rfl (Ans.ok HRET.out.2.2.2 ((HT.out.kp HRET.out.2.2.1).mono (fun q e => by omega)) HMG.out)
end
section
open Go.RowKit Go
/-- What a book is while a walk goes on that began in w: of what stood there only the book's own blocks were touched. -/
def Ps (w : World) (base B : Nat) (f : Fin 4 → Fs) (t d n : Nat) (wx : World) : Prop := Pt4 w base B f t d (fun _ => False) n wx
theorem Ps.put {w wx wy : World} {base B : Nat} {f f1 : Fin 4 → Fs} {t d n m : Nat} {D : Nat → Prop} (hk : Kp (fun q => Ft4 B f q ∨ False) w wx) (hf : ∀ q, Ft4 B f1 q → Ft4 B f q ∨ False ∨ w.heap.size ≤ q) (h2 : Pt4 wx base B f1 (t + n) d D m wy) (hD : ∀ q, D q → w.heap.size ≤ q) : Ps w base B f t d (n + m) wy := by
  obtain ⟨C2, f2, u2, g1, g2, g3⟩ := h2
  refine ⟨C2, f2, u2, by rw [← Nat.add_assoc]; exact g1, hk.trans g2 (fun k hlt e => ?_), fun q e => ?_⟩
  · rcases e with e | e
    · rcases hf k e with e | e | e
      · exact .inl e
      · exact e.elim
      · omega
    · have := hD k e
      omega
  · rcases g3 q e with e | e | e
    · exact hf q e
    · exact .inr (.inr (hD q e))
    · exact .inr (.inr (Nat.le_trans hk.size e))
theorem Ps.size {w wx : World} {base B : Nat} {f : Fin 4 → Fs} {t d n : Nat} (h : Ps w base B f t d n wx) : w.heap.size ≤ wx.heap.size := by
  obtain ⟨_, _, _, _, h2, _⟩ := h
  exact h2.size
/-- A value none of whose blocks lies below m. -/
def Wq (wx : World) (m : Nat) (u : Tv) (c : Array Value) : Prop := ∀ (S : Nat → Prop) (wy : World), (∀ q, S q → q < m) → Kp S wx wy → Tin wy u c
theorem Wq.kp {wx wy : World} {m : Nat} {u : Tv} {c : Array Value} {S : Nat → Prop} (h : Wq wx m u c) (hk : Kp S wx wy) (hs : ∀ q, S q → q < m) : Wq wy m u c := fun T wz hT hk2 =>
  h (fun q => S q ∨ T q) wz (fun q e => e.elim (hs q) (hT q)) ((hk.mono (fun _ _ e => .inl e)).trans hk2 (fun _ _ e => .inr e))
theorem Wq.of_tis {wx : World} {m : Nat} {u : Tv} {c : Array Value} (h : Tis wx (fun q => q < m) u c) : Wq wx m u c := fun _ _ hS hk => ((h.mono hS).kp hk).tin
/-- An answer's two variables: a tree and a fault. -/
structure Td (wx : World) (g : Nat) (c f : Array Value) : Prop where
  x : wx.heap[g]? = some (.cells c 61 (0, 0))
  y : wx.heap[g + 1]? = some (.cells f 64 (0, 0))
theorem Td.kp {wx wy : World} {g : Nat} {c f : Array Value} {S : Nat → Prop} (h : Td wx g c f) (hk : Kp S wx wy) (h1 : ¬ S g) (h2 : ¬ S (g + 1)) : Td wy g c f := ⟨(hk.block _ (blk_lt h.x) h1).trans h.x, (hk.block _ (blk_lt h.y) h2).trans h.y⟩
theorem Td.next {wx wy : World} {g : Nat} {c f : Array Value} (h : Td wx g c f) (hb : Below wx.heap.size wx wy) : Td wy g c f := ⟨(hb.block _ (blk_lt h.x)).trans h.x, (hb.block _ (blk_lt h.y)).trans h.y⟩
theorem Td.start (w : World) (c f : Array Value) : Td ((((w.alloc (.cells zv 61)).alloc (.cells zfe 64)).setRow w.heap.size c).setRow (w.heap.size + 1) f) w.heap.size c f := ⟨(bx2 w c f).x, (bx2 w c f).y⟩
theorem Td.cells {wx : World} {g : Nat} {c f : Array Value} (h : Td wx g c f) : ∀ j u, c[j]? = some u → wx.cell? ⟨g, 0 + j, none⟩ = some u := fun j u hu => by rw [Nat.zero_add]; exact blk_cell h.x hu
end
section
open Go.RowKit Go
theorem wp_append_at8 {o : Oper} {a : Act} {K : Act → World → Prop} {Q : Exit → Act → World → Prop} {w : World} (s x : Operand) (t : TypeId) (ho : o.op = .call { callee := .builtin .append, args := #[s, x], argTypes := #[t, t] })
    (base : Nat) (e : TypeId) (i : TypeInfo) (z : Value) (size bytes : Nat) (ht : Tryz.prog.underlying t = some (.slice e)) (hi : Tryz.prog.info? e = some i) (hz : i.zero = some z) (hsize : i.size = size) (hby : i.bytes = bytes) (hzs : z.cells.size = size) (hsz : 0 < size)
    (v : Value) (n : Nat) (xs : List Value) (hs : a.eval s = v) (hown : w.ownsRow base e size v n xs) (ad : Addr) (m c : Nat) (news : List Value) (hx : a.eval x = .slice (some ad) m c) (hl : news.length = m * size) (hnews : ∀ j u, news[j]? = some u → w.cell? (ad.add j) = some u) (h1 : ∀ u ∈ news, u.oneCell' = true)
    (h63 : n + m ≤ maxLen) (hbytes : (n + m) * bytes ≤ 140737488355328) (hbase : base ≤ w.heap.size)
    (h : ∀ v' w', w'.ownsRow base e size v' (n + m) (xs ++ news) → w.grownBy w' v.ownBlock → (v'.ownBlock = v.ownBlock ∨ v'.ownBlock = some w.heap.size) → K (a.put o.dst v') w') : Oper.wp Tryz.prog o a w K Q := by
  obtain ⟨v', w', hr, h2, h3, _, h5⟩ := run_append_own_at (P := Tryz.prog) w base t o.type e i z size bytes ht hi hz hsize hby hzs hsz v n xs hown ad m c news hl hnews h1 h63 hbytes hbase
  unfold Oper.wp execOp
  simp only [ho, resolve, invoke, builtin, Sem.run_bind, Sem.run_pure, Result.andThen_ok, List.map_toArray, List.map_cons, List.map_nil, hs, hx, hr]
  exact h v' w' h2 h3 h5
theorem step_append_val8 {ops : Array Oper} {o : Oper} {a : Act} {K : Act → World → Prop} {Q : Exit → Act → World → Prop} {w : World} (hw : Region.wanted o (yielded ops a.tmps) = true) (s x : Operand)
    (ho : o.op = .call { callee := .builtin .append, args := #[s, x], argTypes := #[59, 59] }) (B : Nat) (v : Value) (n : Nat) (ds : List Value) (hs : a.eval s = v) (hown : w.ownsRow B 61 13 v n ds)
    (g : Nat) (c : Array Value) (h13 : one13 c) (hx : a.eval x = .slice (some ⟨g, 0, none⟩) 1 1) (hg : w.heap[g]? = some (.cells c 61 (0, 0))) (hlen : n < 1099511627) (hbase : B ≤ w.heap.size)
    (h : ∀ v' w', w'.ownsRow B 61 13 v' (n + 1) (ds ++ c.toList) → w.grownBy w' v.ownBlock → (v'.ownBlock = v.ownBlock ∨ v'.ownBlock = some w.heap.size) → K (a.put o.dst v') w') : if Region.wanted o (yielded ops a.tmps) = true then Oper.wp Tryz.prog o a w K Q else K (a.put o.dst undef) w := by
  rw [if_pos hw]
  obtain ⟨i, hi, hz0, hz1, hz2⟩ := infoV_ex
  refine wp_append_at8 s x 59 ho B 61 i _ 13 160 Tryz.underlying59 hi hz0 hz1 hz2 rfl (by decide) v n ds hs hown ⟨g, 0, none⟩ 1 1 c.toList hx (by rw [Array.length_toList, h13.1]) (fun j u hu => ?_) h13.2 (by unfold maxLen; omega) (by omega) hbase h
  rw [add0_8]
  exact blk_cell hg (by simpa using hu)
theorem step_val18 {ops : Array Oper} {o : Oper} {a : Act} {K : Act → World → Prop} {Q : Exit → Act → World → Prop} {w : World} (hw : Region.wanted o (yielded ops a.tmps) = true) {x0 : Operand} (ho : o.op = .buildSlice 59 1 #[(0, x0)]) (c : Array Value) (hc : c.size = 13) (h0 : a.eval x0 = .agg c)
    (h : K (a.put o.dst (.slice (some ⟨w.heap.size, 0, none⟩) 1 1)) (w.alloc (.cells c 61))) : if Region.wanted o (yielded ops a.tmps) = true then Oper.wp Tryz.prog o a w K Q else K (a.put o.dst undef) w := by
  rw [if_pos hw]
  obtain ⟨i, hi, hz, hs, _⟩ := infoV_ex
  refine wp_buildSlice 59 61 1 _ ho c i _ Tryz.underlying59 hi hz (by rw [hs]; decide) (by rw [hs]; decide) ?_ h
  rw [hs]
  have e : ((#[(0, x0)] : Array (Nat × Operand)).map fun (i, x) => (i, a.eval x)).toList = [(0, .agg c)] := by simp [h0]
  rw [e]
  exact fill_one c _ hc (by simp)
theorem wp_storePart8 {o : Oper} {a : Act} {K : Act → World → Prop} {Q : Exit → Act → World → Prop} {w : World} {T : TypeId} {p x : Operand} (ho : o.op = .store T p x) (g off : Nat) (cur cs : Array Value) (t : TypeId)
    (hp : a.eval p = .pointer (some ⟨g, off, none⟩)) (hx : a.eval x = .agg cs) (hg : w.heap[g]? = some (.cells cur t (0, 0))) (hi : (Tryz.prog.info? T).map (·.size) = some cs.size) (hf : off + cs.size ≤ cur.size) (h1 : ∀ v ∈ cs.toList, v.oneCell' = true)
    (h : K (a.put o.dst undef) (w.setRow g (splice cur.toList off cs.toList).toArray)) : Oper.wp Tryz.prog o a w K Q := by
  unfold Oper.wp execOp
  have hr := part_store (w := w) (T := T) (t := t) g off cur.toList cs.toList (by simpa using hg) (by simpa using hi) (by simpa using hf) h1
  simp only [Array.toArray_toList] at hr
  simp only [ho, Sem.run_bind, hp, hx, hr, Result.andThen_ok]
  exact h
theorem step_storePart8 {ops : Array Oper} {o : Oper} {a : Act} {K : Act → World → Prop} {Q : Exit → Act → World → Prop} {w : World} {T : TypeId} {p x : Operand} (hw : Region.wanted o (yielded ops a.tmps) = true) (ho : o.op = .store T p x) (g off : Nat) (cur cs : Array Value) (t : TypeId)
    (hp : a.eval p = .pointer (some ⟨g, off, none⟩)) (hx : a.eval x = .agg cs) (hg : w.heap[g]? = some (.cells cur t (0, 0))) (hi : (Tryz.prog.info? T).map (·.size) = some cs.size) (hf : off + cs.size ≤ cur.size) (h1 : ∀ v ∈ cs.toList, v.oneCell' = true)
    (h : K (a.put o.dst undef) (w.setRow g (splice cur.toList off cs.toList).toArray)) : if Region.wanted o (yielded ops a.tmps) = true then Oper.wp Tryz.prog o a w K Q else K (a.put o.dst undef) w := by
  rw [if_pos hw]
  exact wp_storePart8 ho g off cur cs t hp hx hg hi hf h1 h
end
section
open Go.RowKit Go
theorem end_end8 {wx : World} {R : Nat} {c : Array Value} {tmps : Array Value} (hn : c.size = 13) (hr : wx.heap[R]? = some (.cells c 61 (0, 0))) (hp : tmps.getD 2 undef = .pointer (some ⟨R, 0, none⟩)) : (results Tryz.f58 tmps).run Tryz.prog wx = .ok (.agg c) wx := by
  refine (results_one (p := 2) (ty := 61) rfl _ _ _).trans ?_
  rw [hp]
  have h1 := run_loadVar_row (P := Tryz.prog) wx R 61 61 c (0, 0) _ hr Tryz.underlying61 rfl (by rw [hn]; exact infoV)
  simp [asAddr, h1, Result.andThen]
def EndP (w : World) (lo M : Nat) (vB : Value) (b : List Nat) (d p : Nat) (q : List Nst) (x : Nst) (e : Ending) (w' : World) : Prop := Kp (fun r => r = M ∨ lo ≤ r) w w' ∧ ∃ c vo' C' K' I' L', e = .returned (.agg c) ∧ Mac w' lo M vB b d p vo' q C' K' I' L' ∧ Tio w' lo (fun r => r < lo) vo' q K' I' L' x.val c
theorem itm_mk8 (w : World) (c : Array Value) : Below w.heap.size w ((w.alloc (.cells zv 61)).setRow w.heap.size c) ∧ ((w.alloc (.cells zv 61)).setRow w.heap.size c).heap[w.heap.size]? = some (.cells c 61 (0, 0)) :=
  ⟨(below_alloc4 w _).trans ((row_kp _ _ _).below (below_alloc4 w _).size (fun q e => by omega)), row_same (heap_alloc_new w _)⟩
set_option maxRecDepth 1000000 in
set_option maxHeartbeats 4000000 in
theorem end8_any (w : World) (lo M : Nat) (vB : Value) (b : List Nat) (d p : Nat) (vo : Value) (q : List Nst) (x : Nst) (C : List (Array Value)) (K I : Nat → Value) (L : Nat → List (Array Value)) (h : Mac w lo M vB b d p vo (q ++ [x]) C K I L) (hst : q.length ≤ 100000) :
    Calls Tryz.prog 58 #[.pointer (some ⟨M, 0, none⟩)] w (EndP w lo M vB b d p q x) := by
  have HMC := hide h
  obtain ⟨g, cap, hvo, hcap, -, htis⟩ := h.o.pop
  subst hvo
  have HSZ := hide htis.tin.size13
  have HA1 := hide htis.tin.all1
  have HM0 := hide (h.next (below_alloc4 w (.cells zv 61)))
  have HR0 := hide (heap_alloc_new w (.cells zv 61))
  have HB0 := hide (below_alloc4 w (.cells zv 61))
  clear h htis
  unfold zv at HM0 HR0 HB0
  go_enter Tryz.func58, Tryz.ntmps58
  go_wp2_with fail
  generalize w.alloc (.cells #[.int .i64 0, .bool false, .bool false, .int .u64 0, .int .u64 0, .string ⟨#[]⟩, .slice none 0 0, .int .i64 0, .int .u64 0, .int .u64 0, .string ⟨#[]⟩, .slice none 0 0, .slice none 0 0] 61) = w0 at *
  have HR0 : Hid (w0.heap[w.heap.size]? = some (.cells zv 61 (0, 0))) := HR0
  refine (top_any w0 M g (q.length + 1) cap vB _ _ HM0.out.m (by omega) (by omega)).mono ?_
  rintro e w1 ⟨rfl, hb1, -⟩
  have HM1 := hide (HM0.out.next hb1)
  have HB1 : Hid (Below w.heap.size w w1) := HB0.out.trans (hb1.mono HB0.out.size)
  have HR1 : Hid (w1.heap[w.heap.size]? = some (.cells zv 61 (0, 0))) := (hb1.block _ (blk_lt HR0.out)).trans HR0.out
  rw [Nat.add_sub_cancel]
  clear hb1 HM0 HR0 HB0
  generalize hc : vcs x.val (.slice none 0 0) (K q.length) (I q.length) = c at *
  have HCE := hide hc
  have HCC : Hid (∀ j u, c[j]? = some u → w1.cell? ⟨g, q.length * 14 + j, none⟩ = some u) := fun j u hu => HM1.out.o.cell.1 j u (by
    have hj := (Array.getElem?_eq_some_iff.1 hu).1
    rw [← HCE.out] at hu hj
    unfold ncs
    rw [Array.getElem?_push_lt hj]
    rw [Array.getElem?_eq_getElem hj] at hu
    exact hu)
  have HI3 : Hid ((Tryz.prog.info? 61).map (·.size) = some c.size) := by show _ = _; rw [HSZ.out]; exact infoV
  have HZ3 : Hid (zv.size = c.size) := by show _ = _; rw [HSZ.out]; rfl
  have HN1 := hide (heap_alloc_new w1 (.cells zv 61))
  have HM2 := hide (HM1.out.next (itm_mk8 w1 c).1)
  have HV2 := hide (itm_mk8 w1 c).2
  have HB2 : Hid (Below w.heap.size w ((w1.alloc (.cells zv 61)).setRow w1.heap.size c)) := HB1.out.trans ((itm_mk8 w1 c).1.mono HB1.out.size)
  have HR2 : Hid (((w1.alloc (.cells zv 61)).setRow w1.heap.size c).heap[w.heap.size]? = some (.cells zv 61 (0, 0))) := ((itm_mk8 w1 c).1.block _ (blk_lt HR1.out)).trans HR1.out
  have HRL : Hid (w.heap.size < w1.heap.size) := blk_lt HR1.out
  clear hc HM1
  go_upto_region 2 with (first
    | (refine wpList_exec rfl (exec_valAt (g := g) (off := q.length * 14) (cs := c) rfl rfl HSZ.out HCC.out) ?_)
    | (refine wpList_storeRow rfl rfl w1.heap.size zv c 61 rfl rfl HN1.out HI3.out HZ3.out HA1.out ?_))
  unfold zv at HM2 HV2 HB2 HR2
  generalize (w1.alloc (.cells #[.int .i64 0, .bool false, .bool false, .int .u64 0, .int .u64 0, .string ⟨#[]⟩, .slice none 0 0, .int .i64 0, .int .u64 0, .int .u64 0, .string ⟨#[]⟩, .slice none 0 0, .slice none 0 0] 61)).setRow w1.heap.size c = w2 at *
  have HR2 : Hid (w2.heap[w.heap.size]? = some (.cells zv 61 (0, 0))) := HR2
  have c3 : w2.cell? ⟨M, 3, none⟩ = some (.slice (some ⟨g, 0, none⟩) (q.length + 1) cap) := blk_cell (j := 3) HM2.out.m rfl
  have f3 := blk_frozen 3 HM2.out.m
  have e1 : (q.length : Int) ≤ (cap : Int) := by omega
  have e2 : IntKind.i64.wrap (((q.length + 1 : Nat) : Int) - 1) = (q.length : Int) := by rw [IntKind.wrap_i64]; omega
  have e3 : IntKind.i64.wrap ((q.length : Int) + 1 - 1) = (q.length : Int) := by rw [IntKind.wrap_i64]; omega
  have HMZ : Hid (M < w.heap.size) := HMC.out.o.mz M HMC.out.lm
  have hkM : Kp (fun q => q = M) w2 (w2.setCell ⟨M, 3, none⟩ (.slice (some ⟨g, 0, none⟩) q.length cap)).drew := ((Kp.refl (fun q => q = M) w2).setCell ⟨M, 3, none⟩ _ (fun _ => rfl)).drew
  have HMO : Hid ((w2.setCell ⟨M, 3, none⟩ (.slice (some ⟨g, 0, none⟩) q.length cap)).drew.heap[M]? = some (.cells #[vB, .int .i64 (p : Nat), .int .i64 (d : Nat), .slice (some ⟨g, 0, none⟩) q.length cap] 74 (0, 0))) := blk_set 3 _ HM2.out.m
  have HKF : Hid (Kp (fun r => r = M) w (w2.setCell ⟨M, 3, none⟩ (.slice (some ⟨g, 0, none⟩) q.length cap)).drew) := (Kp.of_below HB2.out).trans hkM (fun _ _ h => h)
  have HR3 : Hid ((w2.setCell ⟨M, 3, none⟩ (.slice (some ⟨g, 0, none⟩) q.length cap)).drew.heap[w.heap.size]? = some (.cells zv 61 (0, 0))) := (hkM.block _ (blk_lt HR2.out) (by have := HMZ.out; omega)).trans HR2.out
  have HV3 : Hid ((w2.setCell ⟨M, 3, none⟩ (.slice (some ⟨g, 0, none⟩) q.length cap)).drew.heap[w1.heap.size]? = some (.cells c 61 (0, 0))) := (hkM.block _ (blk_lt HV2.out) (by have := HMZ.out; have := HRL.out; omega)).trans HV2.out
  have HK3 : Hid (Kp (fun r => r = M ∨ lo ≤ r) w (w2.setCell ⟨M, 3, none⟩ (.slice (some ⟨g, 0, none⟩) q.length cap)).drew) := (Kp.of_below HB2.out).trans hkM (fun r _ e => .inl e)
  clear hkM
  (try simp only [Act.put])
  go_region
  clear c3 f3
  generalize (w2.setCell ⟨M, 3, none⟩ (.slice (some ⟨g, 0, none⟩) q.length cap)).drew = w3 at *
  have HVC : Hid (∀ j u, c[j]? = some u → w3.cell? ⟨w1.heap.size, 0 + j, none⟩ = some u) := fun j u hu => by rw [Nat.zero_add]; exact blk_cell HV3.out hu
  go_wp2_with (first
    | (refine wpList_exec rfl (exec_valAt (g := w1.heap.size) (off := 0) (cs := c) rfl rfl HSZ.out HVC.out) ?_)
    | (refine wpList_storeRow rfl rfl w.heap.size zv c 61 rfl rfl HR3.out HI3.out HZ3.out HA1.out ?_))
  have hkr := row_kp w3 w.heap.size c
  have hmz := HMZ.out
  have hkF : Kp (fun r => r = M) w (w3.setRow w.heap.size c) := HKF.out.trans hkr (fun r hr e => by omega)
  have hO : Mac (w3.setRow w.heap.size c) lo M vB b d p (.slice (some ⟨g, 0, none⟩) q.length cap) q (C.take q.length) K I L ∧ Tio (w3.setRow w.heap.size c) lo (fun r => r < lo) (.slice (some ⟨g, 0, none⟩) q.length cap) q K I L x.val c := by
    obtain ⟨g', cap', hv, -, ho, ht⟩ := HMC.out.o.pop
    injection hv with h1 _ h3
    injection h1 with h1
    injection h1 with h1 _ _
    subst h1
    subst h3
    obtain ⟨m0, hy0⟩ := HMC.out.y
    obtain ⟨m, hy, hnos⟩ := Ow8.pop HMC.out.o hy0
    have hkM : Kp (fun r => r < lo) w (w3.setRow w.heap.size c) := hkF.mono (fun r _ e => by have := HMC.out.lm; show r < lo; omega)
    refine ⟨⟨(hkr.block _ (blk_lt HMO.out) (by omega)).trans HMO.out, hkF.bsl HMC.out.b (fun r hr e => (HMC.out.q r hr).2 e), HMC.out.q, ho.kp (hkF.mono (fun r _ e => by have := HMC.out.lm; show r < lo; omega)), HMC.out.lm, Nat.le_trans HMC.out.l hkF.size, ⟨m, hy.kp hkM⟩⟩, ?_⟩
    rw [HCE.out] at ht hnos
    exact Tio.kp ⟨ht, m, hy, hnos⟩ hkM
  exact bodyPost_ret (end_end8 HSZ.out (row_same HR3.out) rfl) rfl (show EndP _ _ _ _ _ _ _ _ _ _ _ from ⟨HK3.out.trans hkr (fun r hr e => by omega), c, _, _, _, _, _, rfl, hO.1, hO.2⟩)
end
section
open Go.RowKit Go
def nst8 (x : Nat) : Bool := decide (x / 32 = 4 ∨ x / 32 = 5)
set_option maxRecDepth 1000000 in
theorem nests8_any (x : Nat) (hx : x < 256) (w : World) : Calls Tryz.prog 93 #[.int .u8 (x : Nat)] w fun e w' => e = .returned (.bool (nst8 x)) ∧ w' = w := by
  have e2 : IntKind.u8.wrap ((x : Int) / 32) = ((x : Int) / 32) := by rw [IntKind.wrap_u8]; omega
  have e3 : IntKind.i64.wrap ((x : Int) / 32) = ((x : Int) / 32) := by rw [IntKind.wrap_i64]; omega
  by_cases h4 : x / 32 = 4
  · have g1 : (((x : Int) / 32) == 4) = true := beq_iff_eq.2 (by omega)
    have HE : Hid (nst8 x = true) := by show _ = _; unfold nst8; rw [decide_eq_true (.inl h4)]
    clear h4
    go_enter Tryz.func93, Tryz.ntmps93
    go_wp2
    go_ret
    exact ⟨by rw [HE.out]; rfl, rfl⟩
  · have g1 : (((x : Int) / 32) == 4) = false := beq_eq_false_iff_ne.2 (by omega)
    have HE : Hid (nst8 x = (((x : Int) / 32) == 5)) := by
      show _ = _
      unfold nst8
      rw [Bool.eq_iff_iff]
      simp
      omega
    clear h4
    go_enter Tryz.func93, Tryz.ntmps93
    go_wp2
    go_ret
    exact ⟨by rw [HE.out]; rfl, rfl⟩
theorem nests8_no (x : Nat) (hx : x < 256) (h : nst8 x = false) (w : World) : Calls Tryz.prog 93 #[.int .u8 (x : Nat)] w fun e w' => e = .returned (.bool false) ∧ w' = w := by
  have := nests8_any x hx w
  rw [h] at this
  exact this
theorem nests8_yes (x : Nat) (hx : x < 256) (h : nst8 x = true) (w : World) : Calls Tryz.prog 93 #[.int .u8 (x : Nat)] w fun e w' => e = .returned (.bool true) ∧ w' = w := by
  have := nests8_any x hx w
  rw [h] at this
  exact this
set_option maxRecDepth 1000000 in
set_option maxHeartbeats 1000000 in
theorem toodeep8_any (w : World) (M n d : Nat) (vB vp : Value) (ao : Option Addr) (co : Nat) (hm : w.heap[M]? = some (.cells #[vB, vp, .int .i64 (d : Nat), .slice ao n co] 74 (0, 0))) (v : Value) (r : List Nat) (hb : BSl w v r) :
    Calls Tryz.prog 84 #[.pointer (some ⟨M, 0, none⟩), v] w fun e w' => e = .returned (.bool (rnest r && decide (n = d))) ∧ Below w.heap.size w w' := by
  have c2 : w.cell? ⟨M, 2, none⟩ = some (.int .i64 (d : Nat)) := blk_cell (j := 2) hm rfl
  have c3 : w.cell? ⟨M, 3, none⟩ = some (.slice ao n co) := blk_cell (j := 3) hm rfl
  obtain ⟨⟨a, cap, rfl, hn2, hc⟩, hmax, hby⟩ := hb
  clear hm
  by_cases hr : r = []
  · as_aux_lemma =>
    have gl : decide ((0 : Int) < (r.length : Int)) = false := by rw [hr]; rfl
    have gl2 : decide (0 < r.length) = false := by rw [hr]; rfl
    have HE : Hid ((rnest r && decide (n = d)) = false) := by show _ = _; rw [hr]; rfl
    clear hr hc
    go_enter Tryz.func84, Tryz.ntmps84
    go_wp2_with fail
    go_quiet (fail)
    go_wp2_with fail
    go_ret
    exact ⟨by rw [HE.out]; rfl, by first | exact below_drewN (Below.refl _ _) _ | exact below_drewN _ _⟩
  obtain ⟨b, off, rfl, hcc⟩ := hc.resolve_left hr
  have hl0 : 0 < r.length := List.length_pos_iff.2 hr
  have gl : (0 : Int) < (r.length : Int) := by omega
  have gl2 : decide (0 < r.length) = true := decide_eq_true hl0
  obtain ⟨x, q, hxq⟩ : ∃ x q, r = x :: q := by
    cases r with
    | nil => exact absurd rfl hr
    | cons x q => exact ⟨x, q, rfl⟩
  have hx : x < 256 := hby x (by rw [hxq]; exact List.mem_cons_self ..)
  have cx : w.cell? ⟨b, off, none⟩ = some (.int .u8 (x : Nat)) := by
    have h := hcc 0 hl0
    rw [hxq] at h
    simpa using h
  have HRN : Hid (rnest r = nst8 x) := by show _ = _; rw [hxq]; rfl
  have HX := hide hx
  clear hcc hr hl0 hxq hby
  cases hn : nst8 x with
  | false => as_aux_lemma =>
    have HE : Hid ((rnest r && decide (n = d)) = false) := by show _ = _; rw [HRN.out, hn]; rfl
    have HNE := hide hn
    clear hn
    go_enter Tryz.func84, Tryz.ntmps84
    go_wp2_with fail
    go_quiet ((go_at_call 93; exact Calls.quiet_of_same (nests8_no x HX.out HNE.out _)))
    go_wp2_with fail
    go_ret
    exact ⟨by rw [HE.out]; rfl, by first | exact below_drewN (Below.refl _ _) _ | exact below_drewN _ _⟩
  | true => as_aux_lemma =>
    have HE : Hid ((rnest r && decide (n = d)) = ((n : Int) == (d : Int))) := by
      show _ = _
      rw [HRN.out, hn, Bool.true_and, Bool.eq_iff_iff]
      simp
      omega
    have HNE := hide hn
    clear hn
    go_enter Tryz.func84, Tryz.ntmps84
    go_wp2_with fail
    go_quiet ((go_at_call 93; exact Calls.quiet_of_same (nests8_yes x HX.out HNE.out _)))
    go_wp2_with fail
    go_ret
    exact ⟨by rw [HE.out]; rfl, by first | exact below_drewN (Below.refl _ _) _ | exact below_drewN _ _⟩
end
section
open Go.RowKit Go
theorem end_take {wx : World} {R : Nat} {c : Array Value} {e : Int} {tmps : Array Value} (hn : c.size = 11) (hr : wx.heap[R]? = some (.cells c 89 (0, 0))) (hp : tmps.getD 4 undef = .pointer (some ⟨R, 0, none⟩)) (he : tmps.getD 5 undef = .int .i64 e) : (results Tryz.f53 tmps).run Tryz.prog wx = .ok (.tuple #[.agg c, .int .i64 e]) wx := by
  have h1 := run_loadVar_row (P := Tryz.prog) wx R 89 89 c (0, 0) _ hr Tryz.underlying89 rfl (by rw [hn]; exact infoI)
  refine (results_cell_tmp rfl _ _ _).trans ?_
  rw [hp, he]
  simp [asAddr, h1, Result.andThen]
theorem rlook_key {want : Nat} {r : List Nat} (h : rlook want r = 0) (h1 : want = 1) : (hrd r).m = 3 := by
  unfold rlook at h
  by_cases h20 : (hrd r).e = 20
  · rw [if_pos h20] at h; cases h
  rw [if_neg h20] at h
  by_cases h2 : (hrd r).e ≠ 0 ∨ (hrd r).i = 31
  · rw [if_pos h2] at h; cases h
  rw [if_neg h2] at h
  by_cases h3 : ((hrd r).m = 2 ∨ (hrd r).m = 3) ∧ r.length - (hrd r).u < (hrd r).n
  · rw [if_pos h3] at h; cases h
  rw [if_neg h3] at h
  by_cases h4 : rmay (hrd r) (rbody r) = false ∨ rfit want (hrd r) (rbody r) = false
  · rw [if_pos h4] at h; cases h
  have h5 : rfit want (hrd r) (rbody r) ≠ false := fun e => h4 (.inr e)
  unfold rfit at h5
  rw [if_pos h1] at h5
  simpa using h5
theorem cell_blk {w : World} {g j : Nat} {cs : Array Value} {t : TypeId} {v : Value} (h : w.heap[g]? = some (.cells cs t (0, 0))) (hc : w.cell? ⟨g, j, none⟩ = some v) : cs[j]? = some v := by
  rcases hx : cs[j]? with _ | u
  · simp [World.cell?, h, hx] at hc
  · rw [blk_cell h hx] at hc
    exact hc
/-- Bytes do not lie where there are none. -/
theorem bsl_kp8 {w w' : World} {g : Nat} {cs : Array Value} {t : TypeId} {v : Value} {y : List Nat} (h : BSl w v y) (hg : w.heap[g]? = some (.cells cs t (0, 0))) (hn : ∀ (j : Nat) (x : Int), cs[j]? ≠ some (Value.int .u8 x)) (hk : Kp (fun q => q = g) w w') : BSl w' v y := by
  by_cases hy : y = []
  · rw [hy] at h ⊢
    exact bsl_nil6 h
  · refine hk.bsl h (fun q hq e => ?_)
    subst e
    obtain ⟨⟨a, cap, hv, _, hc⟩, _, _⟩ := h
    obtain ⟨b, off, ha, hcc⟩ := hc.resolve_left hy
    subst hv
    subst ha
    have e2 : b = q := by simpa [Value.ownBlock] using hq
    subst e2
    have h0 := hcc 0 (List.length_pos_iff.2 hy)
    exact hn _ _ (cell_blk hg h0)
theorem zi_no (j : Nat) (x : Int) : zi[j]? ≠ some (.int .u8 x) := by
  intro h
  have hj := (Array.getElem?_eq_some_iff.1 h).1
  have hj2 : j < 11 := hj
  have : j = 0 ∨ j = 1 ∨ j = 2 ∨ j = 3 ∨ j = 4 ∨ j = 5 ∨ j = 6 ∨ j = 7 ∨ j = 8 ∨ j = 9 ∨ j = 10 := by omega
  rcases this with rfl | rfl | rfl | rfl | rfl | rfl | rfl | rfl | rfl | rfl | rfl <;> simp [zi] at h
theorem mac_no (vB vo : Value) (p d : Int) (h1 : ∀ x, vB ≠ .int .u8 x) (h2 : ∀ x, vo ≠ .int .u8 x) (j : Nat) (x : Int) : (#[vB, .int .i64 p, .int .i64 d, vo] : Array Value)[j]? ≠ some (.int .u8 x) := by
  intro h
  have hj := (Array.getElem?_eq_some_iff.1 h).1
  have hj2 : j < 4 := hj
  have : j = 0 ∨ j = 1 ∨ j = 2 ∨ j = 3 := by omega
  rcases this with rfl | rfl | rfl | rfl <;> simp at h
  · exact h1 x h
  · exact h2 x h
/-- What take tells. -/
def TakeP (w : World) (lo M : Nat) (vB : Value) (b : List Nat) (d p : Nat) (vo : Value) (st : List Nst) (C : List (Array Value)) (K I : Nat → Value) (L : Nat → List (Array Value)) (want : Nat) (ks : List ByteArray) (e : Ending) (w' : World) : Prop :=
  Kp (fun q => q = M) w w' ∧ ∃ c, c.size = 11 ∧ c.all (·.oneCell') = true ∧ e = .returned (.tuple #[.agg c, .int .i64 (rtake want (decide (st.length = d)) ks (b.drop p) : Nat)]) ∧
    (rtake want (decide (st.length = d)) ks (b.drop p) ≠ 0 → Mac w' lo M vB b d p vo st C K I L) ∧
    (rtake want (decide (st.length = d)) ks (b.drop p) = 0 → Mac w' lo M vB b d (p + rused (b.drop p)) vo st C K I L ∧ ∃ vb, c = ics (hrd (b.drop p)) vb (rtext (hrd (b.drop p)) (rbody (b.drop p)) ⟨#[]⟩) (rlink want (hrd (b.drop p)) (rbody (b.drop p)) ⟨0, 0, 0, []⟩) ∧ BSl w' vb (rbody (b.drop p)))
theorem TakeP.bad {w w' : World} {lo M : Nat} {vB : Value} {b : List Nat} {d p : Nat} {vo : Value} {st : List Nst} {C : List (Array Value)} {K I : Nat → Value} {L : Nat → List (Array Value)} {want : Nat} {ks : List ByteArray} {k : Nat} (hk : rtake want (decide (st.length = d)) ks (b.drop p) = k) (h0 : k ≠ 0) (hb : Below w.heap.size w w') (hm : Mac w lo M vB b d p vo st C K I L) : TakeP w lo M vB b d p vo st C K I L want ks (.returned (.tuple #[.agg zi, .int .i64 (k : Nat)])) w' :=
  ⟨Kp.of_below hb, zi, rfl, zi_all, by rw [hk], fun _ => hm.next hb, fun h => absurd (hk.symm.trans h) h0⟩
set_option maxRecDepth 1000000 in
set_option maxHeartbeats 4000000 in
theorem take8_any (W : World) (hT : Tabs W) (w : World) (lo M : Nat) (vB : Value) (b : List Nat) (d p : Nat) (vo : Value) (st : List Nst) (C : List (Array Value)) (K I : Nat → Value) (L : Nat → List (Array Value)) (h : Mac w lo M vB b d p vo st C K I L) (hW : Below W.heap.size W w) (hbl : b.length ≤ 140737488351232) (hp : p ≤ b.length) (hst : st.length ≤ 100000) (want : Nat) (ks : List ByteArray) (hks : want = 1 → ∃ q x, st = q ++ [x] ∧ x.ks = ks ∧ x.ks.length ≤ 10000000) :
    Calls Tryz.prog 53 #[.pointer (some ⟨M, 0, none⟩), .int .i64 (want : Nat)] w (TakeP w lo M vB b d p vo st C K I L want ks) := by
  have HMC := hide h
  have HT := hide hT
  have HWW := hide hW
  have HKS := hide hks
  have HPP := hide hp
  have HM0 := hide (h.next (below_alloc4 w (.cells zi 89)))
  have HQ0 : Hid (Lkw w (w.alloc (.cells zi 89))) := ⟨below_alloc4 w _, heap_alloc_new w _⟩
  have hbB := h.b
  obtain ⟨⟨aB, cB, hvB, hnB, _⟩, _, _⟩ := hbB
  subst hvB
  obtain ⟨ao, co, hvo⟩ := own_slice8 h.o.o
  subst hvo
  have HBD := hide (bsl_drop8 (k := p) h.b hp)
  obtain ⟨a2, n2, c2, hd2⟩ : ∃ a2 n2 c2, dropS aB b.length cB p = .slice a2 n2 c2 := by
    obtain ⟨⟨a2, c2, h1, _⟩, _⟩ := HBD.out
    exact ⟨a2, _, c2, h1⟩
  have HD2 := hide hd2
  rw [hd2] at HBD
  have HEX : Hid (p ≤ b.length ∧ b.length ≤ cB ∧ (aB = none → cB = 0)) := ⟨hp, hnB.1, hnB.2⟩
  have HRL : Hid ((b.drop p).length ≤ 140737488351232) := by show _ ≤ _; rw [List.length_drop]; omega
  have HMZ : Hid (M < w.heap.size) := h.o.mz M h.lm
  clear h hT hW hks hp hd2 hnB
  unfold zi at HM0 HQ0
  go_enter Tryz.func53, Tryz.ntmps53
  go_wp2_with fail
  generalize w.alloc (.cells #[.int .i64 0, .int .i64 0, .int .u64 0, .int .i64 0, .bool false, .slice none 0 0, .string ⟨#[]⟩, .int .i64 0, .int .u64 0, .int .u64 0, .string ⟨#[]⟩] 89) = w0 at *
  generalize hr : b.drop p = r at *
  have HRR := hide hr
  clear hr
  go_cut [6] from 9 to 17 (fun vv wx => vv = .slice a2 n2 c2 ∧ Hid (Lkw w wx ∧ Mac wx lo M (.slice aB b.length cB) b d p (.slice ao st.length co) st C K I L))
  case first => as_aux_lemma =>
    refine heldStart (S := fun wy => wy.heap[M]? = some (.cells #[.slice aB b.length cB, .int .i64 (p : Nat), .int .i64 (d : Nat), .slice ao st.length co] 74 (0, 0))) (by kernel_rfl) ?_
    have hS : w0.drew.heap[M]? = some (.cells #[.slice aB b.length cB, .int .i64 (p : Nat), .int .i64 (d : Nat), .slice ao st.length co] 74 (0, 0)) := HM0.out.m
    refine heldTake 0 _ rfl (by kernel_rfl) (by kernel_rfl) (by kernel_rfl) (fun _ _ _ h => h) rfl hS (fun wy hy => by first | (go_simp; done) | (go_simp; rfl) | rfl) ?_
    (try simp only [Act.put]); (try simp only [List.setIfInBounds_toArray, List.set_cons_zero, List.set_cons_succ])
    refine heldTake 1 _ rfl (by kernel_rfl) (by kernel_rfl) (by kernel_rfl) (fun _ _ _ h => h) rfl hS (fun wy hy => by first | (go_simp; done) | (go_simp; rfl) | rfl) ?_
    (try simp only [Act.put]); (try simp only [List.setIfInBounds_toArray, List.set_cons_zero, List.set_cons_succ])
    refine heldTake 2 _ rfl (by kernel_rfl) (by kernel_rfl) (by kernel_rfl) (fun _ _ _ h => h) rfl hS (fun wy hy => by first | (go_simp; done) | (go_simp; rfl) | rfl) ?_
    (try simp only [Act.put]); (try simp only [List.setIfInBounds_toArray, List.set_cons_zero, List.set_cons_succ])
    refine heldTake 3 _ rfl (by kernel_rfl) (by kernel_rfl) (by kernel_rfl) (fun _ _ _ h => h) rfl hS (fun wy hy => by have h0 := blk_cell (j := 0) (v := .slice aB b.length cB) hy rfl; first | (go_simp; done) | (go_simp; rfl) | rfl) ?_
    (try simp only [Act.put]); (try simp only [List.setIfInBounds_toArray, List.set_cons_zero, List.set_cons_succ])
    refine heldTake 4 _ rfl (by kernel_rfl) (by kernel_rfl) (by kernel_rfl) (fun _ _ _ h => h) rfl hS (fun wy hy => by first | (go_simp; done) | (go_simp; rfl) | rfl) ?_
    (try simp only [Act.put]); (try simp only [List.setIfInBounds_toArray, List.set_cons_zero, List.set_cons_succ])
    refine heldTake 5 _ rfl (by kernel_rfl) (by kernel_rfl) (by kernel_rfl) (fun _ _ _ h => h) rfl hS (fun wy hy => by first | (go_simp; done) | (go_simp; rfl) | rfl) ?_
    (try simp only [Act.put]); (try simp only [List.setIfInBounds_toArray, List.set_cons_zero, List.set_cons_succ])
    refine heldTake 6 _ rfl (by kernel_rfl) (by kernel_rfl) (by kernel_rfl) (fun _ _ _ h => h) rfl hS (fun wy hy => by first | (go_simp; done) | (go_simp; rfl) | rfl) ?_
    (try simp only [Act.put]); (try simp only [List.setIfInBounds_toArray, List.set_cons_zero, List.set_cons_succ])
    refine heldTake 7 _ rfl (by kernel_rfl) (by kernel_rfl) (by kernel_rfl) (fun _ _ _ h => h) rfl hS (fun wy hy => by have h0 := blk_cell (j := 1) (v := .int .i64 (p : Nat)) hy rfl; first | (go_simp; done) | (go_simp; rfl) | rfl) ?_
    (try simp only [Act.put]); (try simp only [List.setIfInBounds_toArray, List.set_cons_zero, List.set_cons_succ])
    refine heldTake 8 (.slice a2 n2 c2) rfl (by kernel_rfl) (by kernel_rfl) (by kernel_rfl) (fun _ _ _ h => h) rfl hS (fun wy hy => by rw [← HD2.out]; exact exec_drop (k := p) rfl rfl rfl HEX.out.1 HEX.out.2.1 HEX.out.2.2) ?_
    refine heldTake 9 _ rfl (by kernel_rfl) (by kernel_rfl) (by kernel_rfl) (fun _ _ _ h => h) rfl hS (fun wy hy => by first | (go_simp; done) | (go_simp; rfl) | rfl) ?_
    (try simp only [Act.put]); (try simp only [List.setIfInBounds_toArray, List.set_cons_zero, List.set_cons_succ])
    refine heldDone (by kernel_rfl) ?_
    clear hS
    go_wp2_with fail
    go_meet
    case rel => exact ⟨rfl, HQ0.out.next (by refine Below.drew ?_; exact Below.refl _ _), HM0.out.next (by refine Below.drew ?_; exact Below.refl _ _)⟩
  obtain ⟨rfl, hcc⟩ := hcut
  obtain ⟨w1, hw1⟩ : ∃ x, x = wc := ⟨_, rfl⟩
  subst hw1
  have HQ1 := hide hcc.out.1
  have HM1 := hide hcc.out.2
  clear hcc HM0 HQ0
  go_wp2_with fail
  refine (toodeep8_any w1 M st.length d _ _ ao co HM1.out.m _ r (HBD.out.move (keep_below HQ1.out.b))).mono ?_
  rintro e w2 ⟨rfl, hb2⟩
  have HQ2 := hide (HQ1.out.next hb2)
  have HM2 := hide (HM1.out.next hb2)
  clear hb2 HQ1 HM1
  have HRT : Hid (rtake want (decide (st.length = d)) ks r = if rnest r = true ∧ decide (st.length = d) = true then 81 else if rlook want r ≠ 0 then rlook want r else if (hrd r).s = false ∨ (want = 1 ∧ rrise ks (nstr (rbody r)) = false) then 84 else 0) := rfl
  have HI1 : Hid ((Tryz.prog.info? 89).map (·.size) = some zi.size) := infoI
  have HA1 : Hid (zi.all (·.oneCell') = true) := zi_all
  cases hd : (rnest r && decide (st.length = d)) with
  | true => as_aux_lemma =>
    have HK : Hid (rtake want (decide (st.length = d)) ks (b.drop p) = 81) := by
      show _ = _
      rw [HRR.out, HRT.out, if_pos (by simpa using hd)]
    have HR2 := hide HQ2.out.r
    clear hd HRT
    go_wp2_with (refine wpList_storeRow rfl rfl w.heap.size zi zi 89 rfl rfl HR2.out HI1.out rfl HA1.out ?_)
    exact bodyPost_ret (end_take rfl (row_same HR2.out) rfl rfl) rfl (TakeP.bad HK.out (by decide) (HQ2.out.b.trans ((row_kp _ _ _).below HQ2.out.b.size (fun q e => by omega))) HMC.out)
  | false =>
    have HRT2 : Hid (rtake want (decide (st.length = d)) ks r = if rlook want r ≠ 0 then rlook want r else if (hrd r).s = false ∨ (want = 1 ∧ rrise ks (nstr (rbody r)) = false) then 84 else 0) := by
      show _ = _
      rw [HRT.out, if_neg (fun h => by rw [h.1, h.2] at hd; cases hd)]
    clear hd HRT
    go_wp2_with fail
    refine (look8_any W HT.out w2 (HWW.out.trans (HQ2.out.b.mono HWW.out.size)) _ r (HBD.out.move (keep_below HQ2.out.b)) HRL.out want).mono ?_
    rintro e w3 ⟨hb3, c, hc1, hc2, rfl, hc3⟩
    have HQ3 := hide (HQ2.out.next hb3)
    have HM3 := hide (HM2.out.next hb3)
    have HC1 := hide hc1
    have HC2 := hide hc2
    have HC3 := hide hc3
    clear hb3 HQ2 HM2 hc1 hc2 hc3
    have hmk : Below w3.heap.size w3 ((w3.alloc (.cells zi 89)).setRow w3.heap.size c) ∧ ((w3.alloc (.cells zi 89)).setRow w3.heap.size c).heap[w3.heap.size]? = some (.cells c 89 (0, 0)) := ⟨(below_alloc4 w3 _).trans ((row_kp _ _ _).below (below_alloc4 w3 _).size (fun q e => by omega)), row_same (heap_alloc_new w3 _)⟩
    have HN3 := hide (heap_alloc_new w3 (.cells zi 89))
    have HQ4 := hide (HQ3.out.next hmk.1)
    have HM4 := hide (HM3.out.next hmk.1)
    have HG4 := hide hmk.2
    have HB4 := hide hmk.1
    have HI4 : Hid ((Tryz.prog.info? 89).map (·.size) = some c.size) := by show _ = _; rw [HC1.out]; exact infoI
    have HZ4 : Hid (zi.size = c.size) := by show _ = _; rw [HC1.out]; rfl
    have HWG : Hid (w.heap.size < w3.heap.size) := blk_lt HQ3.out.r
    clear hmk HM3
    go_upto_region 5 with (refine wpList_storeRow rfl rfl w3.heap.size zi c 89 rfl rfl HN3.out HI4.out HZ4.out HC2.out ?_)
    unfold zi at HQ4 HM4 HG4 HB4
    generalize (w3.alloc (.cells #[.int .i64 0, .int .i64 0, .int .u64 0, .int .i64 0, .bool false, .slice none 0 0, .string ⟨#[]⟩, .int .i64 0, .int .u64 0, .int .u64 0, .string ⟨#[]⟩] 89)).setRow w3.heap.size c = w4 at *
    (try simp only [Act.put]); (try simp only [List.setIfInBounds_toArray, List.set_cons_zero, List.set_cons_succ])
    have HR4 := hide HQ4.out.r
    clear HQ3 HN3
    by_cases hlk : rlook want r = 0
    case neg => as_aux_lemma =>
      have gk : ((rlook want r : Int) != 0) = true := by rw [bne_iff_ne]; omega
      have HK : Hid (rtake want (decide (st.length = d)) ks (b.drop p) = rlook want r) := by
        show _ = _
        rw [HRR.out, HRT2.out, if_pos hlk]
      have HK0 := hide hlk
      clear hlk HRT2 HC3
      go_wp2_with (refine wpList_storeRow rfl rfl w.heap.size zi zi 89 rfl rfl HR4.out HI1.out rfl HA1.out ?_)
      exact bodyPost_ret (end_take rfl (row_same HR4.out) rfl rfl) rfl (TakeP.bad HK.out HK0.out (HQ4.out.b.trans ((row_kp _ _ _).below HQ4.out.b.size (fun q e => by omega))) HMC.out)
    have gk : ((rlook want r : Int) != 0) = false := by rw [bne_eq_false_iff_eq]; omega
    obtain ⟨vb, hcE, hvb⟩ := HC3.out hlk
    have HVB := hide hvb
    have HRT3 : Hid (rtake want (decide (st.length = d)) ks r = if (hrd r).s = false ∨ (want = 1 ∧ rrise ks (nstr (rbody r)) = false) then 84 else 0) := by
      show _ = _
      rw [HRT2.out, if_neg (fun h => h hlk)]
    have HLK := hide hlk
    subst hcE
    have HTX : Hid (want = 1 → rtext (hrd r) (rbody r) ⟨#[]⟩ = nstr (rbody r)) := fun h1 => by
      have h3 := rlook_key hlk h1
      unfold rtext
      rw [if_pos h3]
    clear HC3 HRT2 hvb hlk
    generalize hh : hrd r = hd at *
    have HHD := hide hh
    clear hh
    generalize htx : rtext hd (rbody r) ⟨#[]⟩ = tx at *
    have HTE := hide htx
    clear htx
    generalize hlx : rlink want hd (rbody r) ⟨0, 0, 0, []⟩ = lx at *
    have HLE := hide hlx
    clear hlx
    have i1 : w4.cell? ⟨w3.heap.size, 1, none⟩ = some (.int .i64 (hd.i : Nat)) := blk_cell (j := 1) HG4.out rfl
    have i4 : w4.cell? ⟨w3.heap.size, 4, none⟩ = some (.bool hd.s) := blk_cell (j := 4) HG4.out rfl
    have i6 : w4.cell? ⟨w3.heap.size, 6, none⟩ = some (.string tx) := blk_cell (j := 6) HG4.out rfl
    cases hsS : hd.s with
    | false => as_aux_lemma =>
      have HK : Hid (rtake want (decide (st.length = d)) ks (b.drop p) = 84) := by
        show _ = _
        rw [HRR.out, HRT3.out, if_pos (.inl (by first | exact hsS | (rw [HHD.out]; exact hsS)))]
      rw [hsS] at i4
      clear hsS
      go_wp2_with (refine wpList_storeRow rfl rfl w.heap.size zi zi 89 rfl rfl HR4.out HI1.out rfl HA1.out ?_)
      exact bodyPost_ret (end_take rfl (row_same HR4.out) rfl rfl) rfl (TakeP.bad HK.out (by decide) (HQ4.out.b.trans ((row_kp _ _ _).below HQ4.out.b.size (fun q e => by omega))) HMC.out)
    | true =>
    rw [hsS] at i4
    by_cases hw1 : want = 1
    case neg => as_aux_lemma =>
      have gw : ((want : Int) == 1) = false := beq_eq_false_iff_ne.2 (by omega)
      have HK : Hid (rtake want (decide (st.length = d)) ks (b.drop p) = 0) := by
        show _ = _
        rw [HRR.out, HRT3.out, if_neg (fun h => by rcases h with h | h; (first | (rw [hsS] at h; cases h) | (rw [HHD.out, hsS] at h; cases h)); exact hw1 h.1)]
      have HUL : Hid (hd.u + (rbody r).length ≤ r.length) := by
        have h := rlook_le HLK.out
        unfold rused at h
        rw [HHD.out] at h
        exact h
      have hul := HUL.out
      have hrl : r.length = b.length - p := by rw [← HRR.out, List.length_drop]
      have hpb := HPP.out
      obtain ⟨av, cv, hvE⟩ : ∃ av cv, vb = .slice av (rbody r).length cv := by
        obtain ⟨⟨av, cv, h1, _⟩, _⟩ := HVB.out
        exact ⟨av, cv, h1⟩
      subst hvE
      have k3 : w4.cell? ⟨w3.heap.size, 3, none⟩ = some (.int .i64 (hd.u : Nat)) := blk_cell (j := 3) HG4.out rfl
      have k5 : w4.cell? ⟨w3.heap.size, 5, none⟩ = some (.slice av (rbody r).length cv) := blk_cell (j := 5) HG4.out rfl
      have m1 : w4.cell? ⟨M, 1, none⟩ = some (.int .i64 (p : Nat)) := blk_cell (j := 1) HM4.out.m rfl
      have f1 := blk_frozen 1 HM4.out.m
      have e1 : IntKind.i64.wrap ((hd.u : Int) + ((rbody r).length : Int)) = (hd.u : Int) + ((rbody r).length : Int) := by rw [IntKind.wrap_i64]; omega
      have e2 : IntKind.i64.wrap ((p : Int) + ((hd.u : Int) + ((rbody r).length : Int))) = (p : Int) + ((hd.u : Int) + ((rbody r).length : Int)) := by rw [IntKind.wrap_i64]; omega
      have HMS : Hid (Mac (w4.setCell ⟨M, 1, none⟩ (.int .i64 ((p : Int) + ((hd.u : Int) + ((rbody r).length : Int))))).drew lo M (.slice aB b.length cB) b d (p + (hd.u + (rbody r).length)) (.slice ao st.length co) st C K I L) := by
        have h := HM4.out.set (p + (hd.u + (rbody r).length))
        simp only [Int.natCast_add] at h
        exact h.next (by refine Below.drew ?_; exact Below.refl _ _)
      have hkM : Kp (fun q => q = M) w4 (w4.setCell ⟨M, 1, none⟩ (.int .i64 ((p : Int) + ((hd.u : Int) + ((rbody r).length : Int))))).drew := ((Kp.refl (fun q => q = M) w4).setCell ⟨M, 1, none⟩ _ (fun _ => rfl)).drew
      have HKX : Hid (Kp (fun q => q = M) w (w4.setCell ⟨M, 1, none⟩ (.int .i64 ((p : Int) + ((hd.u : Int) + ((rbody r).length : Int))))).drew) := (Kp.of_below HQ4.out.b).trans hkM (fun _ _ h => h)
      have HR6 : Hid ((w4.setCell ⟨M, 1, none⟩ (.int .i64 ((p : Int) + ((hd.u : Int) + ((rbody r).length : Int))))).drew.heap[w.heap.size]? = some (.cells zi 89 (0, 0))) := (hkM.block _ (blk_lt HQ4.out.r) (by have := HMZ.out; omega)).trans HQ4.out.r
      have HG6 : Hid ((w4.setCell ⟨M, 1, none⟩ (.int .i64 ((p : Int) + ((hd.u : Int) + ((rbody r).length : Int))))).drew.heap[w3.heap.size]? = some (.cells (ics hd (.slice av (rbody r).length cv) tx lx) 89 (0, 0))) := (hkM.block _ (blk_lt HG4.out) (by have := HMZ.out; have := HWG.out; omega)).trans HG4.out
      have HBS : Hid (BSl (w4.setCell ⟨M, 1, none⟩ (.int .i64 ((p : Int) + ((hd.u : Int) + ((rbody r).length : Int))))).drew (.slice av (rbody r).length cv) (rbody r)) := bsl_kp8 (HVB.out.move (keep_below HB4.out)) HM4.out.m (mac_no _ _ _ _ (fun _ h => by cases h) (fun _ h => by cases h)) hkM
      have HRU : Hid (rused r = hd.u + (rbody r).length) := by
        show _ = _
        unfold rused
        rw [HHD.out]
      clear hw1 hsS
      clear hkM hul hrl hpb
      go_upto_region 9 with fail
      go_region
      clear k3 k5 m1 f1 e1 e2
      generalize (w4.setCell ⟨M, 1, none⟩ (.int .i64 ((p : Int) + ((hd.u : Int) + ((rbody r).length : Int))))).drew = w8 at *
      go_wp2_with (first
        | (refine wpList_exec rfl (exec_itemAt (g := w3.heap.size) rfl rfl HG6.out) ?_)
        | (refine wpList_storeRow rfl rfl w.heap.size zi (ics hd (.slice av (rbody r).length cv) tx lx) 89 rfl rfl HR6.out HI4.out HZ4.out HC2.out ?_))
      have hkr := row_kp w8 w.heap.size (ics hd (.slice av (rbody r).length cv) tx lx)
      have hkF : Kp (fun q => q = M) w (w8.setRow w.heap.size (ics hd (.slice av (rbody r).length cv) tx lx)) := HKX.out.trans hkr (fun q hq e => by omega)
      have hmz := HMZ.out
      refine bodyPost_ret (end_take rfl (row_same HR6.out) rfl rfl) rfl (show TakeP _ _ _ _ _ _ _ _ _ _ _ _ _ _ _ _ _ from ⟨hkF, _, rfl, HC2.out, by rw [HK.out]; rfl, fun hne => absurd HK.out hne, fun _ => ⟨?_, ?_⟩⟩)
      · rw [HRR.out, HRU.out]
        exact ⟨(hkr.block _ (blk_lt HMS.out.m) (by omega)).trans HMS.out.m, hkF.bsl HMC.out.b (fun r hr e => (HMC.out.q r hr).2 e), HMC.out.q, HMC.out.o.kp (hkF.mono (fun r _ e => by have := HMC.out.lm; show r < lo; omega)), HMC.out.lm, Nat.le_trans HMC.out.l hkF.size, by obtain ⟨m, h2⟩ := HMC.out.y; exact ⟨m, h2.kp (hkF.mono (fun r _ e => by have := HMC.out.lm; show r < lo; omega))⟩⟩
      · rw [HRR.out, HHD.out, HTE.out, HLE.out]
        refine ⟨_, rfl, ?_⟩
        exact bsl_kp8 HBS.out HR6.out zi_no hkr
    have gw : ((want : Int) == 1) = true := beq_iff_eq.2 (by omega)
    obtain ⟨q, x, hq1, hq2, hq3⟩ := HKS.out hw1
    have HTN := hide (HTX.out hw1)
    have hMq := HM4.out
    rw [hq1] at hMq
    have hql : q.length ≤ 100000 := by rw [hq1] at hst; simp at hst; omega
    have HRC := hide (rises8_any w4 lo M _ b d p _ q x C K I L hMq hql tx hq3)
    have HRE : Hid (rrise x.ks tx = rrise ks (nstr (rbody r))) := by show _ = _; rw [hq2, HTN.out]
    have HW1 := hide hw1
    clear hMq hql hq1 hq2 hq3 HTX hw1
    go_wp2_with fail
    refine HRC.out.mono ?_
    rintro e w5 ⟨rfl, hb5⟩
    have HQ5 := hide (HQ4.out.next hb5)
    have HM5 := hide (HM4.out.next hb5)
    have HG5 : Hid (w5.heap[w3.heap.size]? = _) := (hb5.block _ (blk_lt HG4.out)).trans HG4.out
    have HB5 : Hid (Below w3.heap.size w3 w5) := HB4.out.trans (hb5.mono HB4.out.size)
    have HR5 := hide HQ5.out.r
    rw [HRE.out]
    clear hb5 HQ4 HM4 HG4 HR4 HB4 HRC
    clear i1 i4 i6
    cases hrs : rrise ks (nstr (rbody r)) with
    | false => as_aux_lemma =>
      have HK : Hid (rtake want (decide (st.length = d)) ks (b.drop p) = 84) := by
        show _ = _
        rw [HRR.out, HRT3.out, if_pos (.inr ⟨HW1.out, hrs⟩)]
      clear hrs hsS
      go_wp2_with (refine wpList_storeRow rfl rfl w.heap.size zi zi 89 rfl rfl HR5.out HI1.out rfl HA1.out ?_)
      exact bodyPost_ret (end_take rfl (row_same HR5.out) rfl rfl) rfl (TakeP.bad HK.out (by decide) (HQ5.out.b.trans ((row_kp _ _ _).below HQ5.out.b.size (fun q e => by omega))) HMC.out)
    | true => as_aux_lemma =>
      have HRS := hide hrs
      clear hrs
      have HK : Hid (rtake want (decide (st.length = d)) ks (b.drop p) = 0) := by
        show _ = _
        rw [HRR.out, HRT3.out, if_neg (fun h => by rcases h with h | h; (first | (rw [hsS] at h; cases h) | (rw [HHD.out, hsS] at h; cases h)); rw [HRS.out] at h; cases h.2)]
      have HUL : Hid (hd.u + (rbody r).length ≤ r.length) := by
        have h := rlook_le HLK.out
        unfold rused at h
        rw [HHD.out] at h
        exact h
      have hul := HUL.out
      have hrl : r.length = b.length - p := by rw [← HRR.out, List.length_drop]
      have hpb := HPP.out
      obtain ⟨av, cv, hvE⟩ : ∃ av cv, vb = .slice av (rbody r).length cv := by
        obtain ⟨⟨av, cv, h1, _⟩, _⟩ := HVB.out
        exact ⟨av, cv, h1⟩
      subst hvE
      have k3 : w5.cell? ⟨w3.heap.size, 3, none⟩ = some (.int .i64 (hd.u : Nat)) := blk_cell (j := 3) HG5.out rfl
      have k5 : w5.cell? ⟨w3.heap.size, 5, none⟩ = some (.slice av (rbody r).length cv) := blk_cell (j := 5) HG5.out rfl
      have m1 : w5.cell? ⟨M, 1, none⟩ = some (.int .i64 (p : Nat)) := blk_cell (j := 1) HM5.out.m rfl
      have f1 := blk_frozen 1 HM5.out.m
      have e1 : IntKind.i64.wrap ((hd.u : Int) + ((rbody r).length : Int)) = (hd.u : Int) + ((rbody r).length : Int) := by rw [IntKind.wrap_i64]; omega
      have e2 : IntKind.i64.wrap ((p : Int) + ((hd.u : Int) + ((rbody r).length : Int))) = (p : Int) + ((hd.u : Int) + ((rbody r).length : Int)) := by rw [IntKind.wrap_i64]; omega
      have HMS : Hid (Mac (w5.setCell ⟨M, 1, none⟩ (.int .i64 ((p : Int) + ((hd.u : Int) + ((rbody r).length : Int))))).drew lo M (.slice aB b.length cB) b d (p + (hd.u + (rbody r).length)) (.slice ao st.length co) st C K I L) := by
        have h := HM5.out.set (p + (hd.u + (rbody r).length))
        simp only [Int.natCast_add] at h
        exact h.next (by refine Below.drew ?_; exact Below.refl _ _)
      have hkM : Kp (fun q => q = M) w5 (w5.setCell ⟨M, 1, none⟩ (.int .i64 ((p : Int) + ((hd.u : Int) + ((rbody r).length : Int))))).drew := ((Kp.refl (fun q => q = M) w5).setCell ⟨M, 1, none⟩ _ (fun _ => rfl)).drew
      have HKX : Hid (Kp (fun q => q = M) w (w5.setCell ⟨M, 1, none⟩ (.int .i64 ((p : Int) + ((hd.u : Int) + ((rbody r).length : Int))))).drew) := (Kp.of_below HQ5.out.b).trans hkM (fun _ _ h => h)
      have HR6 : Hid ((w5.setCell ⟨M, 1, none⟩ (.int .i64 ((p : Int) + ((hd.u : Int) + ((rbody r).length : Int))))).drew.heap[w.heap.size]? = some (.cells zi 89 (0, 0))) := (hkM.block _ (blk_lt HQ5.out.r) (by have := HMZ.out; omega)).trans HQ5.out.r
      have HG6 : Hid ((w5.setCell ⟨M, 1, none⟩ (.int .i64 ((p : Int) + ((hd.u : Int) + ((rbody r).length : Int))))).drew.heap[w3.heap.size]? = some (.cells (ics hd (.slice av (rbody r).length cv) tx lx) 89 (0, 0))) := (hkM.block _ (blk_lt HG5.out) (by have := HMZ.out; have := HWG.out; omega)).trans HG5.out
      have HBS : Hid (BSl (w5.setCell ⟨M, 1, none⟩ (.int .i64 ((p : Int) + ((hd.u : Int) + ((rbody r).length : Int))))).drew (.slice av (rbody r).length cv) (rbody r)) := bsl_kp8 (HVB.out.move (keep_below HB5.out)) HM5.out.m (mac_no _ _ _ _ (fun _ h => by cases h) (fun _ h => by cases h)) hkM
      have HRU : Hid (rused r = hd.u + (rbody r).length) := by
        show _ = _
        unfold rused
        rw [HHD.out]
      clear hsS
      clear hkM hul hrl hpb
      go_upto_region 9 with fail
      go_region
      clear k3 k5 m1 f1 e1 e2
      generalize (w5.setCell ⟨M, 1, none⟩ (.int .i64 ((p : Int) + ((hd.u : Int) + ((rbody r).length : Int))))).drew = w8 at *
      go_wp2_with (first
        | (refine wpList_exec rfl (exec_itemAt (g := w3.heap.size) rfl rfl HG6.out) ?_)
        | (refine wpList_storeRow rfl rfl w.heap.size zi (ics hd (.slice av (rbody r).length cv) tx lx) 89 rfl rfl HR6.out HI4.out HZ4.out HC2.out ?_))
      have hkr := row_kp w8 w.heap.size (ics hd (.slice av (rbody r).length cv) tx lx)
      have hkF : Kp (fun q => q = M) w (w8.setRow w.heap.size (ics hd (.slice av (rbody r).length cv) tx lx)) := HKX.out.trans hkr (fun q hq e => by omega)
      have hmz := HMZ.out
      refine bodyPost_ret (end_take rfl (row_same HR6.out) rfl rfl) rfl (show TakeP _ _ _ _ _ _ _ _ _ _ _ _ _ _ _ _ _ from ⟨hkF, _, rfl, HC2.out, by rw [HK.out]; rfl, fun hne => absurd HK.out hne, fun _ => ⟨?_, ?_⟩⟩)
      · rw [HRR.out, HRU.out]
        exact ⟨(hkr.block _ (blk_lt HMS.out.m) (by omega)).trans HMS.out.m, hkF.bsl HMC.out.b (fun r hr e => (HMC.out.q r hr).2 e), HMC.out.q, HMC.out.o.kp (hkF.mono (fun r _ e => by have := HMC.out.lm; show r < lo; omega)), HMC.out.lm, Nat.le_trans HMC.out.l hkF.size, by obtain ⟨m, h2⟩ := HMC.out.y; exact ⟨m, h2.kp (hkF.mono (fun r _ e => by have := HMC.out.lm; show r < lo; omega))⟩⟩
      · rw [HRR.out, HHD.out, HTE.out, HLE.out]
        refine ⟨_, rfl, ?_⟩
        exact bsl_kp8 HBS.out HR6.out zi_no hkr
end
end Go.Proofs.YtdejcapbggjjgaaGreatDoor
