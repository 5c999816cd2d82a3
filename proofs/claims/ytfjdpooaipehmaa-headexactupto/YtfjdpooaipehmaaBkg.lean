import Derived.Test.YtfjdpooaipehmaaBkf
namespace Go.Proofs.Ytfjdpooaipehmaa
open Go.RowKit

set_option maxRecDepth 1000000 in
set_option maxHeartbeats 1000000 in
theorem growBytes_any {w : World} {base B : Nat} {vb vo : Value} {es : List Ent} {a t d u : Nat} (h : BookOk w base B vb vo es a t d u) (hbase : base ≤ w.heap.size) :
    Calls Try.prog 42 #[.pointer (some ⟨B, 0, none⟩)] w fun e w' => e = .returned (.tuple #[]) ∧ ∃ vb' vo' es' a', BookOk w' base B vb' vo' es' a' t d u ∧
      Kp (Foot B vb vo es) w w' ∧ ∀ q, Foot B vb' vo' es' q → Foot B vb vo es q ∨ w.heap.size ≤ q := by
  obtain ⟨ab, capb, hvb, hq1, hq2, hq3⟩ := own_form h.hb
  have HBASE := hide hbase
  have c0 : w.cell? ⟨B, 0, none⟩ = some vb := h.blk.cell 0 _ rfl
  have c2 : w.cell? ⟨B, 2, none⟩ = some (.int .i64 (a : Nat)) := h.blk.cell 2 _ rfl
  have hal : a ≤ es.length := by obtain ⟨c, r, h1, h2, _⟩ := h.count; omega
  have HCT := hide h.count
  have HN0 := hide h.hn
  have hel : es.length ≤ 139810 := by obtain ⟨c, r, h1, h2, h3⟩ := h.count; have := h.hu; omega
  have HG0 : Hid (Grw w base B vb vo es a t d u w vb vo es a) := ⟨h.core, fun _ _ h => h, Kp.refl _ _, fun q hq => .inl hq, fun j ej hj hej i ei hei hij q hq => h.hg i j ei ej hei hej hj hij q hq, fun j ej hej q hq => (own_back (h.he ej (List.mem_of_getElem? hej)) q hq).2⟩
  clear h hq1 hq2 hq3 hbase
  rw [hvb] at c0
  clear hvb
  go_enter Try.func42, Try.ntmps42
  go_wp2
  clear c0 c2
  go_loopw [3] (fun i wr => ∃ (k : Nat) (vb2 vo2 : Value) (es2 : List Ent), k ≤ es.length ∧ a ≤ k ∧ i = .int .i64 k ∧ Grw w base B vb vo es a t d u wr vb2 vo2 es2 k ∧ es2.length = es.length + 9 * (k - a)) (fun i _ => es.length - (intOf i).toNat)
  case atStart => exact ⟨a, vb, vo, es, hal, Nat.le_refl _, rfl, HG0.out, by omega⟩
  case round =>
    obtain ⟨k, vb2, vo2, es2, hk, hak, rfl, hgrw, hlen2⟩ := hrel
    clear HG0
    have HG := hide hgrw
    have HL2 := hide hlen2
    obtain ⟨ab2, capb2, hvb2, hq1, hq2, hcb2⟩ := own_form hgrw.core.hb
    obtain ⟨ao2, capo2, hvo2, hq3, hq4, hco2⟩ := own_form hgrw.core.ho
    have HCB := hide hcb2
    have HCO := hide hco2
    have c0 : wr.cell? ⟨B, 0, none⟩ = some vb2 := hgrw.core.blk.cell 0 _ rfl
    have c1 : wr.cell? ⟨B, 1, none⟩ = some vo2 := hgrw.core.blk.cell 1 _ rfl
    have c2 : wr.cell? ⟨B, 2, none⟩ = some (.int .i64 (a : Nat)) := hgrw.core.blk.cell 2 _ rfl
    have f2 := blk_frozen 2 hgrw.core.blk
    have he2 : es2.length ≤ 1398100 := by omega
    clear hcb2 hco2 hgrw hlen2 hq1 hq2 hq3 hq4
    by_cases hlt : k < es.length
    · have hlt' : (k : Int) < (es.length : Int) := by omega
      obtain ⟨e, hek⟩ : ∃ e, es[k]? = some e := ⟨es[k], by simp [hlt]⟩
      have hek2 := HG.out.pre k e hek
      have hk2 : k < es2.length := (List.getElem?_eq_some_iff.1 hek2).1
      obtain ⟨gb, hab, hcb1⟩ := HCB.out k e.val (by simp [hek2])
      obtain ⟨go, hao, hco1⟩ := HCO.out k (.int .i64 ((e.m : Nat) : Int)) (by simp [hek2])
      have hmm := HG.out.core.hm e (List.mem_of_getElem? hek2)
      have htt := HG.out.core.ht
      have HIN := hide (HG.out.begin hek)
      obtain ⟨ae, ce, hev, hq5, hq6, hq7⟩ := own_form HIN.out.own
      have HEK := hide hek
      have HMM : Hid (e.m ≤ t ∧ e.n < 68719476736) := ⟨hmm.1, HN0.out k e hek hak⟩
      have HTT := hide htt
      rw [hab] at hvb2
      rw [hao] at hvo2
      rw [hvb2] at c0
      rw [hvo2] at c1
      rw [Nat.add_zero] at hev
      obtain ⟨ev, en, em⟩ := e
      simp only at hev hcb1 hco1 hq5 hq6
      subst hev
      clear hvb2 hvo2 hab hao HCB HCO hmm htt hq5 hq6 hq7 hek hek2 f2 c2
      obtain ⟨wo, rfl⟩ : ∃ x, wr = x := ⟨wr, rfl⟩
      go_wp2
      clear c0 c1 hcb1 hco1
      go_loopw [4, 6] (fun g i wr' => ∃ (q : Nat) (vb3 vo3 : Value) (es3 : List Ent) (ag : Option Addr) (cg : Nat), q ≤ 96 ∧ i = .int .i64 ((q + 1 : Nat)) ∧ g = .slice ag (en + q) cg ∧ Inn w base B vb vo es a t d u wr' vb3 vo3 es3 k ⟨.slice ae en ce, en, em⟩ q (.slice ag (en + q) cg) ∧ es3.length = es2.length + pc q) (fun _ i _ => 98 - (intOf i).toNat)
      case atStart => exact ⟨0, vb2, vo2, es2, ae, ce, by omega, rfl, rfl, HIN.out, rfl⟩
      case round =>
        obtain ⟨q, vb3, vo3, es3, ag, cg, hq, rfl, rfl, hinn, hlen3⟩ := hrel
        have HI := hide hinn
        have HL3 := hide hlen3
        have hpc := pc_le q
        have he3 : es3.length ≤ 1398200 := by omega
        have hszb : base ≤ wr.heap.size := Nat.le_trans HBASE.out hinn.g.kp.size
        have HSZB := hide hszb
        clear hinn hlen3 HIN hszb hpc
        by_cases hq96 : q < 96
        · have hq96' : ((q + 1 : Nat) : Int) ≤ 96 := by omega
          have HAT : Hid (∀ W, Calls Try.prog 35 #[.int .i64 (em : Int), .int .i64 ((en : Int) + (q : Int))] W fun e w' => e = .returned (.int .u8 ((atv em (en + q) : Nat) : Int)) ∧ w' = W) := fun W => by
            have h1 := HMM.out
            have h2 := HTT.out
            have h3 : em ≤ t ∧ en < 68719476736 := h1
            have := at_any (em : Int) ((en : Int) + (q : Int)) W (by omega) (by omega) (by omega) (by omega)
            have e1 : ((en : Int) + (q : Int)).toNat = en + q := by omega
            rw [Int.toNat_natCast, e1] at this
            exact this
          have HEN : Hid (en < 68719476736) := HMM.out.2
          have HEM : Hid (em ≤ t) := HMM.out.1
          go_wp2_with fail
          refine (HAT.out _).mono ?_
          rintro e w' ⟨rfl, rfl⟩
          have HO3 : Hid (w'.ownsRow base 5 1 (Value.slice ag (en + q) cg) (en + q) (bv (mkl em (en + q)))) := HI.out.own
          go_wp2_with (at_builtin; refine append_mark rfl _ _ rfl base _ (en + q) _ rfl HO3.out _ _ rfl rfl (by have := HEN.out; omega) HSZB.out ?_)
          intro g4 w4 ho4 hkeep4 hk4 hat4
          obtain ⟨a4, c4, hg4, hq8, hq9, hq10⟩ := own_form ho4
          have HI4 := hide (HI.out.append HEK.out ho4 hkeep4 hk4 hat4)
          have hsz4 : w'.heap.size ≤ w4.heap.size := hk4.size
          have HSZ4 : Hid (base ≤ w4.heap.size) := Nat.le_trans HSZB.out hsz4
          subst hg4
          clear hq8 hq9 hq10 ho4 hkeep4 hk4 hat4 hsz4 HI HO3 HAT
          clear hq96'
          have hpos : ((q : Int) + 1 < 4 ∨ (¬ (q : Int) + 1 < 4 ∧ (((q : Int) + 1) % 16 == 0) = true)) ∨ (¬ (q : Int) + 1 < 4 ∧ (((q : Int) + 1) % 16 == 0) = false) := by
            by_cases h1 : q + 1 < 4
            · exact .inl (.inl (by omega))
            · by_cases h2 : (q + 1) % 16 = 0
              · exact .inl (.inr ⟨by omega, beq_iff_eq.2 (by omega)⟩)
              · exact .inr ⟨by omega, beq_eq_false_iff_ne.2 (by omega)⟩
          rcases hpos with hpos | ⟨hno1, hno2⟩
          · have hpc1 : pc (q + 1) = pc q + 1 := by
              refine pc_yes ?_
              rcases hpos with h | ⟨_, h⟩
              · left; omega
              · right; have := beq_iff_eq.1 h; omega
            have HPC := hide hpc1
            have c0 : w4.cell? ⟨B, 0, none⟩ = some vb3 := HI4.out.g.core.blk.cell 0 _ rfl
            clear hpc1
            rcases hpos with hno1 | ⟨hno1, hno2⟩
            all_goals
              go_wp2_with (at_builtin; refine append_row rfl _ _ rfl base vb3 es3.length _ rfl HI4.out.g.core.hb _ _ rfl rfl rfl (by omega) HSZ4.out ?_)
              intro v5 w5 ho5 hg5 hat5
              obtain ⟨a5, c5, hv5, hq8, hq9, hq10⟩ := own_form ho5
              obtain ⟨hblk5, hhalf, hkp5⟩ := push_a HI4.out.g.core ⟨Value.slice a4 (en + q + 1) c4, en + (q + 1), em⟩ HI4.out.own v5 ho5 hg5
              have c0' : w5.cell? ⟨B, 0, none⟩ = some vb3 := hblk5.cell 0 _ rfl
              have c1' : w5.cell? ⟨B, 1, none⟩ = some vo3 := hblk5.cell 1 _ rfl
              have f0' := blk_frozen 0 hblk5
              have HHF := hide hhalf
              have HKP5 := hide hkp5
              have HAT5 : Hid (∀ z, v5.ownBlock = some z → vb3.ownBlock = some z ∨ w.heap.size ≤ z) := fun z hz => by
                rcases hat5 with h | h
                · exact .inl (by rw [← h]; exact hz)
                · rw [h] at hz; injection hz with hz; exact .inr (by have := HI4.out.g.kp.size; omega)
              have HSZ5 : Hid (base ≤ (w5.setCell ⟨B, 0, none⟩ v5).heap.size ∧ w.heap.size ≤ (w5.setCell ⟨B, 0, none⟩ v5).heap.size) := ⟨Nat.le_trans HSZ4.out hkp5.size, Nat.le_trans HI4.out.g.kp.size hkp5.size⟩
              subst hv5
              clear hq8 hq9 hq10 ho5 hg5 hat5 hblk5 hhalf hkp5 c0
              go_wp2_with (at_builtin; refine append_int rfl _ _ rfl base vo3 es3.length _ rfl HHF.out.ho _ w5.heap.size (by simp) rfl (by omega) HSZ5.out.1 ?_)
              intro v7 w7 ho7 hg7 hat7
              obtain ⟨a7, c7, hv7, hq8, hq9, hq10⟩ := own_form ho7
              obtain ⟨hblk7, hbk7, hkp7⟩ := push_b HHF.out v7 ho7 hg7 HI4.out.g.core.hs (fun x hx z h1 h2 => (HI4.out.share x hx z h1 h2).1) HI4.out.g.core.hbase HI4.out.g.core.hm ⟨HEM.out, by have := HEN.out; show en + (q + 1) < _; omega⟩ HI4.out.g.core.ht HI4.out.g.core.hu
              have c1'' : w7.cell? ⟨B, 1, none⟩ = some vo3 := hblk7.cell 1 _ rfl
              have f1'' := blk_frozen 1 hblk7
              have hkall : Kp (fun z => z = B ∨ vb3.ownBlock = some z ∨ vo3.ownBlock = some z) w4 (w7.setCell ⟨B, 1, none⟩ v7) :=
                (HKP5.out.mono (fun z _ hz => by rcases hz with h | h; exact .inl h; exact .inr (.inl h))).trans hkp7 (fun z _ hz => by rcases hz with h | h; exact .inl h; exact .inr (.inr h))
              have HI7 := hide (HI4.out.push HEK.out hbk7 hkall HAT5.out (fun z hz => by
                rcases hat7 with h | h
                · exact .inl (by rw [← h]; exact hz)
                · rw [h] at hz; injection hz with hz; exact .inr (by have := HSZ5.out.2; simp at this; omega)))
              subst hv7
              clear hq8 hq9 hq10 ho7 hg7 hat7 hblk7 hbk7 hkp7 hkall c0' c1' f0' HHF HKP5 HAT5 HSZ5 HI4
              go_wp2
              go_roundw
              case rel => exact ⟨q + 1, _, _, _, _, _, by omega, by go_num, rfl, HI7.out, by have h1 := HL3.out; have h2 := HPC.out; simp; omega⟩
              case measure => simp [intOf]; omega
          · have hpc1 : pc (q + 1) = pc q := by
              refine pc_no ?_
              have := beq_eq_false_iff_ne.1 hno2
              omega
            have HPC := hide hpc1
            clear hpc1
            go_wp2
            go_roundw
            case rel => exact ⟨q + 1, _, _, _, _, _, by omega, by go_num, rfl, HI4.out, by have h1 := HL3.out; have h2 := HPC.out; omega⟩
            case measure => simp [intOf]; omega
        · have hq96' : ¬ ((q : Int) + 1) ≤ 96 := by omega
          have hqq : q = 96 := by omega
          have HQQ := hide hqq
          clear hqq hq96
          go_wp2
          go_roundw
          case rel =>
            refine ⟨k + 1, vb3, vo3, es3, by omega, by omega, by go_num, HI.out.g, ?_⟩
            have h1 := HL3.out
            have h2 := HL2.out
            rw [HQQ.out, pc_all] at h1
            omega
          case measure => simp [intOf]; omega
    · have hlt' : ¬ (k : Int) < (es.length : Int) := by omega
      have hke : k = es.length := by omega
      rw [hvb2] at c0
      have HSET : Hid (BkBlk (wr.setCell ⟨B, 2, none⟩ (.int .i64 (es2.length : Nat))) B vb2 vo2 es2.length t d u) := HG.out.core.blk.set 2 _ rfl
      have HKE := hide hke
      clear hke
      go_wp2
      go_end0
      have hk2 : Kp (fun q => q = B) wr (wr.setCell ⟨B, 2, none⟩ (.int .i64 (es2.length : Nat))) := (Kp.refl _ _).setCell _ _ (fun _ => rfl)
      have hne : ∀ {ee : TypeId} {v : Value} {nn : Nat} {yy : List Value}, wr.ownsRow base ee 1 v nn yy → ee ≠ 46 → (wr.setCell ⟨B, 2, none⟩ (.int .i64 (es2.length : Nat))).ownsRow base ee 1 v nn yy := fun ho h1 => hk2.owns ho (fun q hq e => own_not ho HG.out.core.blk h1 (by rw [hq, e]))
      refine ⟨rfl, vb2, vo2, es2, ⟨es2.length, HSET.out, hne HG.out.core.hb (by decide), hne HG.out.core.ho (by decide), fun x hx => hne (HG.out.core.he x hx) (by decide), HG.out.core.hs, HG.out.core.hbase, HG.out.core.hm, HG.out.core.ht, HG.out.core.hu, ?_, ?_, ?_⟩, HG.out.kp.trans hk2 (fun q _ hq => .inl hq), HG.out.foot⟩
      · obtain ⟨c, r, h1, h2, h3⟩ := HCT.out
        refine ⟨c + r, 0, ?_, ?_, by omega⟩
        · have := HL2.out; rw [HKE.out] at this; omega
        · have := HL2.out; rw [HKE.out] at this; omega
      · intro i j ei ej _ hj haj
        have := (List.getElem?_eq_some_iff.1 hj).1
        omega
      · intro j ej hj haj
        have := (List.getElem?_eq_some_iff.1 hj).1
        omega
end Go.Proofs.Ytfjdpooaipehmaa
