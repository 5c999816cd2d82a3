import Derived.Test.YtidglddjinfncaaGreatDoorJb
import Derived.Laws.IdiomStrings
import Derived.Deep.RegionLaw
import Derived.ProofKit
import Derived.OpenShut
import Derived.SizedLaws
import Derived.Deep.Matrix
import Derived.Lib.SmallJoins
import Derived.Lib.ConvBytes
import Derived.Laws.AppendOwn
import Derived.Laws.CopyRow
import Derived.Laws.ResultCell
import Derived.Deep.QuietTactic
namespace Go.Proofs.YtidglddjinfncaaGreatDoor
section
open Go.RowKit
set_option maxRecDepth 1000000 in
set_option maxHeartbeats 1000000 in
theorem growBytes_any {w : World} {base B : Nat} {vb vo : Value} {es : List Ent} {a t d u : Nat} (h : BookOk w base B vb vo es a t d u) (hbase : base ≤ w.heap.size) :
    Calls Tryz.prog 60 #[.pointer (some ⟨B, 0, none⟩)] w fun e w' => e = .returned (.tuple #[]) ∧ ∃ vb' vo' es' a', BookOk w' base B vb' vo' es' a' t d u ∧
      Kp (Foot B vb vo es) w w' ∧ ∀ q, Foot B vb' vo' es' q → Foot B vb vo es q ∨ w.heap.size ≤ q := by
  obtain ⟨ab, capb, hvb, hq1, hq2, hq3⟩ := own_form h.hb
  have HBASE := hide hbase
  have c0 : w.cell? ⟨B, 0, none⟩ = some vb := h.blk.cell 0 _ rfl
  have c2 : w.cell? ⟨B, 2, none⟩ = some (.int .i64 (a : Nat)) := h.blk.cell 2 _ rfl
  have hal : a ≤ es.length := by obtain ⟨c, r, h1, h2, _⟩ := h.count; omega
  have HCT := hide h.count
  have HN0 := hide h.hn
  have hel : es.length ≤ 139810 := by obtain ⟨c, r, h1, h2, h3⟩ := h.count; have := h.hu; omega
  have HG0 : Hid (Grw w base B vb vo es a t d u w vb vo es a) := ⟨h.core, fun _ _ h => h, Kp.refl _ _, fun q hq => .inl hq, fun j ej hj hej i ei hei hij q hq => h.hg i j ei ej hei hej hj hij q hq, fun j ej hej q hq => (own_back (h.he ej (List.mem_of_getElem? hej)) q hq).2⟩
  clear h hq1 hq2 hq3 hbase
  rw [hvb] at c0
  clear hvb
  go_enter Tryz.func60, Tryz.ntmps60
  go_wp2
  clear c0 c2
  go_loopw [3] (fun i wr => ∃ (k : Nat) (vb2 vo2 : Value) (es2 : List Ent), k ≤ es.length ∧ a ≤ k ∧ i = .int .i64 k ∧ Grw w base B vb vo es a t d u wr vb2 vo2 es2 k ∧ es2.length = es.length + 9 * (k - a)) (fun i _ => es.length - (intOf i).toNat)
  case atStart => exact ⟨a, vb, vo, es, hal, Nat.le_refl _, rfl, HG0.out, by omega⟩
  case round =>
    obtain ⟨k, vb2, vo2, es2, hk, hak, rfl, hgrw, hlen2⟩ := hrel
    clear HG0
    have HG := hide hgrw
    have HL2 := hide hlen2
    obtain ⟨ab2, capb2, hvb2, hq1, hq2, hcb2⟩ := own_form hgrw.core.hb
    obtain ⟨ao2, capo2, hvo2, hq3, hq4, hco2⟩ := own_form hgrw.core.ho
    have HCB := hide hcb2
    have HCO := hide hco2
    have c0 : wr.cell? ⟨B, 0, none⟩ = some vb2 := hgrw.core.blk.cell 0 _ rfl
    have c1 : wr.cell? ⟨B, 1, none⟩ = some vo2 := hgrw.core.blk.cell 1 _ rfl
    have c2 : wr.cell? ⟨B, 2, none⟩ = some (.int .i64 (a : Nat)) := hgrw.core.blk.cell 2 _ rfl
    have f2 := blk_frozen 2 hgrw.core.blk
    have he2 : es2.length ≤ 1398100 := by omega
    clear hcb2 hco2 hgrw hlen2 hq1 hq2 hq3 hq4
    by_cases hlt : k < es.length
    · have hlt' : (k : Int) < (es.length : Int) := by omega
      obtain ⟨e, hek⟩ : ∃ e, es[k]? = some e := ⟨es[k], by simp [hlt]⟩
      have hek2 := HG.out.pre k e hek
      have hk2 : k < es2.length := (List.getElem?_eq_some_iff.1 hek2).1
      obtain ⟨gb, hab, hcb1⟩ := HCB.out k e.val (by simp [hek2])
      obtain ⟨go, hao, hco1⟩ := HCO.out k (.int .i64 ((e.m : Nat) : Int)) (by simp [hek2])
      have hmm := HG.out.core.hm e (List.mem_of_getElem? hek2)
      have htt := HG.out.core.ht
      have HIN := hide (HG.out.begin hek)
      obtain ⟨ae, ce, hev, hq5, hq6, hq7⟩ := own_form HIN.out.own
      have HEK := hide hek
      have HMM : Hid (e.m ≤ t ∧ e.n < 68719476736) := ⟨hmm.1, HN0.out k e hek hak⟩
      have HTT := hide htt
      rw [hab] at hvb2
      rw [hao] at hvo2
      rw [hvb2] at c0
      rw [hvo2] at c1
      rw [Nat.add_zero] at hev
      obtain ⟨ev, en, em⟩ := e
      simp only at hev hcb1 hco1 hq5 hq6
      subst hev
      clear hvb2 hvo2 hab hao HCB HCO hmm htt hq5 hq6 hq7 hek hek2 f2 c2
      obtain ⟨wo, rfl⟩ : ∃ x, wr = x := ⟨wr, rfl⟩
      go_wp2
      clear c0 c1 hcb1 hco1
      go_loopw [4, 6] (fun g i wr' => ∃ (q : Nat) (vb3 vo3 : Value) (es3 : List Ent) (ag : Option Addr) (cg : Nat), q ≤ 96 ∧ i = .int .i64 ((q + 1 : Nat)) ∧ g = .slice ag (en + q) cg ∧ Inn w base B vb vo es a t d u wr' vb3 vo3 es3 k ⟨.slice ae en ce, en, em⟩ q (.slice ag (en + q) cg) ∧ es3.length = es2.length + pc q) (fun _ i _ => 98 - (intOf i).toNat)
      case atStart => exact ⟨0, vb2, vo2, es2, ae, ce, by omega, rfl, rfl, HIN.out, rfl⟩
      case round =>
        obtain ⟨q, vb3, vo3, es3, ag, cg, hq, rfl, rfl, hinn, hlen3⟩ := hrel
        have HI := hide hinn
        have HL3 := hide hlen3
        have hpc := pc_le q
        have he3 : es3.length ≤ 1398200 := by omega
        have hszb : base ≤ wr.heap.size := Nat.le_trans HBASE.out hinn.g.kp.size
        have HSZB := hide hszb
        clear hinn hlen3 HIN hszb hpc
        by_cases hq96 : q < 96
        · have hq96' : ((q + 1 : Nat) : Int) ≤ 96 := by omega
          have HAT : Hid (∀ W, Calls Tryz.prog 53 #[.int .i64 (em : Int), .int .i64 ((en : Int) + (q : Int))] W fun e w' => e = .returned (.int .u8 ((atv em (en + q) : Nat) : Int)) ∧ w' = W) := fun W => by
            have h1 := HMM.out
            have h2 := HTT.out
            have h3 : em ≤ t ∧ en < 68719476736 := h1
            have := at_any (em : Int) ((en : Int) + (q : Int)) W (by omega) (by omega) (by omega) (by omega)
            have e1 : ((en : Int) + (q : Int)).toNat = en + q := by omega
            rw [Int.toNat_natCast, e1] at this
            exact this
          have HEN : Hid (en < 68719476736) := HMM.out.2
          have HEM : Hid (em ≤ t) := HMM.out.1
          go_wp2_with fail
          refine (HAT.out _).mono ?_
          rintro e w' ⟨rfl, rfl⟩
          have HO3 : Hid (w'.ownsRow base 5 1 (Value.slice ag (en + q) cg) (en + q) (bv (mkl em (en + q)))) := HI.out.own
          go_wp2_with (at_builtin; refine append_mark rfl _ _ rfl base _ (en + q) _ rfl HO3.out _ _ rfl rfl (by have := HEN.out; omega) HSZB.out ?_)
          intro g4 w4 ho4 hkeep4 hk4 hat4
          obtain ⟨a4, c4, hg4, hq8, hq9, hq10⟩ := own_form ho4
          have HI4 := hide (HI.out.append HEK.out ho4 hkeep4 hk4 hat4)
          have hsz4 : w'.heap.size ≤ w4.heap.size := hk4.size
          have HSZ4 : Hid (base ≤ w4.heap.size) := Nat.le_trans HSZB.out hsz4
          subst hg4
          clear hq8 hq9 hq10 ho4 hkeep4 hk4 hat4 hsz4 HI HO3 HAT
          clear hq96'
          have hpos : ((q : Int) + 1 < 4 ∨ (¬ (q : Int) + 1 < 4 ∧ (((q : Int) + 1) % 16 == 0) = true)) ∨ (¬ (q : Int) + 1 < 4 ∧ (((q : Int) + 1) % 16 == 0) = false) := by
            by_cases h1 : q + 1 < 4
            · exact .inl (.inl (by omega))
            · by_cases h2 : (q + 1) % 16 = 0
              · exact .inl (.inr ⟨by omega, beq_iff_eq.2 (by omega)⟩)
              · exact .inr ⟨by omega, beq_eq_false_iff_ne.2 (by omega)⟩
          rcases hpos with hpos | ⟨hno1, hno2⟩
          · have hpc1 : pc (q + 1) = pc q + 1 := by
              refine pc_yes ?_
              rcases hpos with h | ⟨_, h⟩
              · left; omega
              · right; have := beq_iff_eq.1 h; omega
            have HPC := hide hpc1
            have c0 : w4.cell? ⟨B, 0, none⟩ = some vb3 := HI4.out.g.core.blk.cell 0 _ rfl
            clear hpc1
            rcases hpos with hno1 | ⟨hno1, hno2⟩
            all_goals
              go_wp2_with (at_builtin; refine append_row rfl _ _ rfl base vb3 es3.length _ rfl HI4.out.g.core.hb _ _ rfl rfl rfl (by omega) HSZ4.out ?_)
              intro v5 w5 ho5 hg5 hat5
              obtain ⟨a5, c5, hv5, hq8, hq9, hq10⟩ := own_form ho5
              obtain ⟨hblk5, hhalf, hkp5⟩ := push_a HI4.out.g.core ⟨Value.slice a4 (en + q + 1) c4, en + (q + 1), em⟩ HI4.out.own v5 ho5 hg5
              have c0' : w5.cell? ⟨B, 0, none⟩ = some vb3 := hblk5.cell 0 _ rfl
              have c1' : w5.cell? ⟨B, 1, none⟩ = some vo3 := hblk5.cell 1 _ rfl
              have f0' := blk_frozen 0 hblk5
              have HHF := hide hhalf
              have HKP5 := hide hkp5
              have HAT5 : Hid (∀ z, v5.ownBlock = some z → vb3.ownBlock = some z ∨ w.heap.size ≤ z) := fun z hz => by
                rcases hat5 with h | h
                · exact .inl (by rw [← h]; exact hz)
                · rw [h] at hz; injection hz with hz; exact .inr (by have := HI4.out.g.kp.size; omega)
              have HSZ5 : Hid (base ≤ (w5.setCell ⟨B, 0, none⟩ v5).heap.size ∧ w.heap.size ≤ (w5.setCell ⟨B, 0, none⟩ v5).heap.size) := ⟨Nat.le_trans HSZ4.out hkp5.size, Nat.le_trans HI4.out.g.kp.size hkp5.size⟩
              subst hv5
              clear hq8 hq9 hq10 ho5 hg5 hat5 hblk5 hhalf hkp5 c0
              go_wp2_with (at_builtin; refine append_int rfl _ _ rfl base vo3 es3.length _ rfl HHF.out.ho _ w5.heap.size (by simp) rfl (by omega) HSZ5.out.1 ?_)
              intro v7 w7 ho7 hg7 hat7
              obtain ⟨a7, c7, hv7, hq8, hq9, hq10⟩ := own_form ho7
              obtain ⟨hblk7, hbk7, hkp7⟩ := push_b HHF.out v7 ho7 hg7 HI4.out.g.core.hs (fun x hx z h1 h2 => (HI4.out.share x hx z h1 h2).1) HI4.out.g.core.hbase HI4.out.g.core.hm ⟨HEM.out, by have := HEN.out; show en + (q + 1) < _; omega⟩ HI4.out.g.core.ht HI4.out.g.core.hu
              have c1'' : w7.cell? ⟨B, 1, none⟩ = some vo3 := hblk7.cell 1 _ rfl
              have f1'' := blk_frozen 1 hblk7
              have hkall : Kp (fun z => z = B ∨ vb3.ownBlock = some z ∨ vo3.ownBlock = some z) w4 (w7.setCell ⟨B, 1, none⟩ v7) :=
                (HKP5.out.mono (fun z _ hz => by rcases hz with h | h; exact .inl h; exact .inr (.inl h))).trans hkp7 (fun z _ hz => by rcases hz with h | h; exact .inl h; exact .inr (.inr h))
              have HI7 := hide (HI4.out.push HEK.out hbk7 hkall HAT5.out (fun z hz => by
                rcases hat7 with h | h
                · exact .inl (by rw [← h]; exact hz)
                · rw [h] at hz; injection hz with hz; exact .inr (by have := HSZ5.out.2; simp at this; omega)))
              subst hv7
              clear hq8 hq9 hq10 ho7 hg7 hat7 hblk7 hbk7 hkp7 hkall c0' c1' f0' HHF HKP5 HAT5 HSZ5 HI4
              go_wp2
              go_roundw
              case rel => exact ⟨q + 1, _, _, _, _, _, by omega, by go_num, rfl, HI7.out, by have h1 := HL3.out; have h2 := HPC.out; simp; omega⟩
              case measure => simp [intOf]; omega
          · have hpc1 : pc (q + 1) = pc q := by
              refine pc_no ?_
              have := beq_eq_false_iff_ne.1 hno2
              omega
            have HPC := hide hpc1
            clear hpc1
            go_wp2
            go_roundw
            case rel => exact ⟨q + 1, _, _, _, _, _, by omega, by go_num, rfl, HI4.out, by have h1 := HL3.out; have h2 := HPC.out; omega⟩
            case measure => simp [intOf]; omega
        · have hq96' : ¬ ((q : Int) + 1) ≤ 96 := by omega
          have hqq : q = 96 := by omega
          have HQQ := hide hqq
          clear hqq hq96
          go_wp2
          go_roundw
          case rel =>
            refine ⟨k + 1, vb3, vo3, es3, by omega, by omega, by go_num, HI.out.g, ?_⟩
            have h1 := HL3.out
            have h2 := HL2.out
            rw [HQQ.out, pc_all] at h1
            omega
          case measure => simp [intOf]; omega
    · have hlt' : ¬ (k : Int) < (es.length : Int) := by omega
      have hke : k = es.length := by omega
      rw [hvb2] at c0
      have HSET : Hid (BkBlk (wr.setCell ⟨B, 2, none⟩ (.int .i64 (es2.length : Nat))) B vb2 vo2 es2.length t d u) := HG.out.core.blk.set 2 _ rfl
      have HKE := hide hke
      clear hke
      go_wp2
      go_end0
      have hk2 : Kp (fun q => q = B) wr (wr.setCell ⟨B, 2, none⟩ (.int .i64 (es2.length : Nat))) := (Kp.refl _ _).setCell _ _ (fun _ => rfl)
      have hne : ∀ {ee : TypeId} {v : Value} {nn : Nat} {yy : List Value}, wr.ownsRow base ee 1 v nn yy → ee ≠ 49 → (wr.setCell ⟨B, 2, none⟩ (.int .i64 (es2.length : Nat))).ownsRow base ee 1 v nn yy := fun ho h1 => hk2.owns ho (fun q hq e => own_not ho HG.out.core.blk h1 (by rw [hq, e]))
      refine ⟨rfl, vb2, vo2, es2, ⟨es2.length, HSET.out, hne HG.out.core.hb (by decide), hne HG.out.core.ho (by decide), fun x hx => hne (HG.out.core.he x hx) (by decide), HG.out.core.hs, HG.out.core.hbase, HG.out.core.hm, HG.out.core.ht, HG.out.core.hu, ?_, ?_, ?_⟩, HG.out.kp.trans hk2 (fun q _ hq => .inl hq), HG.out.foot⟩
      · obtain ⟨c, r, h1, h2, h3⟩ := HCT.out
        refine ⟨c + r, 0, ?_, ?_, by omega⟩
        · have := HL2.out; rw [HKE.out] at this; omega
        · have := HL2.out; rw [HKE.out] at this; omega
      · intro i j ei ej _ hj haj
        have := (List.getElem?_eq_some_iff.1 hj).1
        omega
      · intro j ej hj haj
        have := (List.getElem?_eq_some_iff.1 hj).1
        omega
end
section
open Go.RowKit
theorem BookOk.still {w w' : World} {base B : Nat} {vb vo : Value} {es : List Ent} {a t d u : Nat} (h : BookOk w base B vb vo es a t d u) (hk : Kp (fun _ => False) w w') : BookOk w' base B vb vo es a t d u :=
  h.kp hk (fun h => h) (fun _ _ h => h) (fun _ _ h => h) (fun _ _ _ _ h => h)
/-- What touches the book's own block alone keeps the rows. -/
theorem BookOk.reblk {w w' : World} {base B : Nat} {vb vo : Value} {es : List Ent} {a t d u d' : Nat} (h : BookOk w base B vb vo es a t d u) (hb : BkBlk w' B vb vo a t d' u) (hk : Kp (fun k => k = B) w w') : BookOk w' base B vb vo es a t d' u :=
  ⟨hb, hk.owns h.hb (fun q hq e => own_not h.hb h.blk (by decide) (by rw [hq, e])), hk.owns h.ho (fun q hq e => own_not h.ho h.blk (by decide) (by rw [hq, e])), fun x hx => hk.owns (h.he x hx) (fun q hq e => own_not (h.he x hx) h.blk (by decide) (by rw [hq, e])), h.hs, h.hbase, h.hm, h.ht, h.hu, h.count, h.hg, h.hn⟩

set_option maxRecDepth 1000000 in
set_option maxHeartbeats 400000 in
theorem holds_any {w : World} {base B : Nat} {vb vo : Value} {es : List Ent} {a t d u : Nat} (h : BookOk w base B vb vo es a t d u) :
    Calls Tryz.prog 42 #[.pointer (some ⟨B, 0, none⟩)] w fun e w' => e = .returned (.bool true) ∧ Kp (fun _ => False) w w' := by
  have HH := hide h
  clear h
  go_enter Tryz.func42, Tryz.ntmps42
  go_wp2_with fail
  refine (plain_any HH.out).mono ?_
  rintro e w1 ⟨rfl, hk1⟩
  have HK1 := hide hk1
  have HB1 := hide (HH.out.still hk1).blk
  clear hk1
  go_wp2_with fail
  refine (kept_any HB1.out).mono ?_
  rintro e w2 ⟨rfl, rfl⟩
  go_wp2_with fail
  refine (told_any HB1.out).mono ?_
  rintro e w2 ⟨rfl, rfl⟩
  go_wp2_with fail
  refine (held_any HB1.out).mono ?_
  rintro e w2 ⟨rfl, rfl⟩
  go_wp2_with fail
  refine (sent_any HB1.out).mono ?_
  rintro e w2 ⟨rfl, rfl⟩
  go_wp2
  go_ret
  exact ⟨rfl, HK1.out⟩

set_option maxRecDepth 1000000 in
set_option maxHeartbeats 1000000 in
theorem bgrow_any {w : World} {base B : Nat} {vb vo : Value} {es : List Ent} {a t d u : Nat} (h : BookOk w base B vb vo es a t d u) (hbase : base ≤ w.heap.size) :
    Calls Tryz.prog 43 #[.pointer (some ⟨B, 0, none⟩)] w fun e w' => e = .returned (.tuple #[]) ∧ ∃ vb' vo' es' a', BookOk w' base B vb' vo' es' a' t t u ∧
      Kp (Foot B vb vo es) w w' ∧ ∀ q, Foot B vb' vo' es' q → Foot B vb vo es q ∨ w.heap.size ≤ q := by
  have HH := hide h
  have HBS := hide hbase
  clear h hbase
  go_enter Tryz.func43, Tryz.ntmps43
  go_wp2_with fail
  refine (growBytes_any HH.out HBS.out).mono ?_
  rintro e w1 ⟨rfl, vb1, vo1, es1, a1, hok1, hk1, hf1⟩
  have HOK := hide hok1
  have HK1 := hide hk1
  have HF1 := hide hf1
  have HBK := hide hok1.blk
  have HKB : Hid (Kp (fun k => k = B) w1 w1) := Kp.refl _ _
  clear hok1 hk1 hf1
  go_wp2_with fail
  refine (grow38_any HBK.out).mono ?_
  rintro e wn ⟨rfl, hbn, hkn⟩
  have HKB' := hide (HKB.out.trans hkn (fun _ _ h => h))
  have HBK' := hide hbn
  clear HKB HBK hbn hkn
  have HKB := HKB'
  have HBK := HBK'
  clear HKB' HBK'
  go_wp2_with fail
  refine (grow39_any HBK.out).mono ?_
  rintro e wn ⟨rfl, hbn, hkn⟩
  have HKB' := hide (HKB.out.trans hkn (fun _ _ h => h))
  have HBK' := hide hbn
  clear HKB HBK hbn hkn
  have HKB := HKB'
  have HBK := HBK'
  clear HKB' HBK'
  go_wp2_with fail
  refine (grow40_any HBK.out).mono ?_
  rintro e wn ⟨rfl, hbn, hkn⟩
  have HKB' := hide (HKB.out.trans hkn (fun _ _ h => h))
  have HBK' := hide hbn
  clear HKB HBK hbn hkn
  have HKB := HKB'
  have HBK := HBK'
  clear HKB' HBK'
  go_wp2_with fail
  refine (grow41_any HBK.out).mono ?_
  rintro e wn ⟨rfl, hbn, hkn⟩
  have HKB' := hide (HKB.out.trans hkn (fun _ _ h => h))
  have HBK' := hide hbn
  clear HKB HBK hbn hkn
  have HKB := HKB'
  have HBK := HBK'
  clear HKB' HBK'
  go_wp2_with fail
  refine (grow42_any HBK.out).mono ?_
  rintro e wn ⟨rfl, hbn, hkn⟩
  have HKB' := hide (HKB.out.trans hkn (fun _ _ h => h))
  have HBK' := hide hbn
  clear HKB HBK hbn hkn
  have HKB := HKB'
  have HBK := HBK'
  clear HKB' HBK'
  go_wp2_with fail
  refine (grow43_any HBK.out).mono ?_
  rintro e wn ⟨rfl, hbn, hkn⟩
  have HKB' := hide (HKB.out.trans hkn (fun _ _ h => h))
  have HBK' := hide hbn
  clear HKB HBK hbn hkn
  have HKB := HKB'
  have HBK := HBK'
  clear HKB' HBK'
  go_wp2_with fail
  refine (grow44_any HBK.out).mono ?_
  rintro e wn ⟨rfl, hbn, hkn⟩
  have HKB' := hide (HKB.out.trans hkn (fun _ _ h => h))
  have HBK' := hide hbn
  clear HKB HBK hbn hkn
  have HKB := HKB'
  have HBK := HBK'
  clear HKB' HBK'
  go_wp2_with fail
  refine (grow45_any HBK.out).mono ?_
  rintro e wn ⟨rfl, hbn, hkn⟩
  have HKB' := hide (HKB.out.trans hkn (fun _ _ h => h))
  have HBK' := hide hbn
  clear HKB HBK hbn hkn
  have HKB := HKB'
  have HBK := HBK'
  clear HKB' HBK'
  go_wp2_with fail
  refine (grow46_any HBK.out).mono ?_
  rintro e wn ⟨rfl, hbn, hkn⟩
  have HKB' := hide (HKB.out.trans hkn (fun _ _ h => h))
  have HBK' := hide hbn
  clear HKB HBK hbn hkn
  have HKB := HKB'
  have HBK := HBK'
  clear HKB' HBK'
  go_wp2_with fail
  refine (grow47_any HBK.out).mono ?_
  rintro e wn ⟨rfl, hbn, hkn⟩
  have HKB' := hide (HKB.out.trans hkn (fun _ _ h => h))
  have HBK' := hide hbn
  clear HKB HBK hbn hkn
  have HKB := HKB'
  have HBK := HBK'
  clear HKB' HBK'
  go_wp2_with fail
  refine (grow48_any HBK.out).mono ?_
  rintro e wn ⟨rfl, hbn, hkn⟩
  have HKB' := hide (HKB.out.trans hkn (fun _ _ h => h))
  have HBK' := hide hbn
  clear HKB HBK hbn hkn
  have HKB := HKB'
  have HBK := HBK'
  clear HKB' HBK'
  go_wp2_with fail
  refine (grow49_any HBK.out).mono ?_
  rintro e wn ⟨rfl, hbn, hkn⟩
  have HKB' := hide (HKB.out.trans hkn (fun _ _ h => h))
  have HBK' := hide hbn
  clear HKB HBK hbn hkn
  have HKB := HKB'
  have HBK := HBK'
  clear HKB' HBK'
  go_wp2_with fail
  refine (grow50_any HBK.out).mono ?_
  rintro e wn ⟨rfl, hbn, hkn⟩
  have HKB' := hide (HKB.out.trans hkn (fun _ _ h => h))
  have HBK' := hide hbn
  clear HKB HBK hbn hkn
  have HKB := HKB'
  have HBK := HBK'
  clear HKB' HBK'
  go_wp2_with fail
  refine (grow51_any HBK.out).mono ?_
  rintro e wn ⟨rfl, hbn, hkn⟩
  have HKB' := hide (HKB.out.trans hkn (fun _ _ h => h))
  have HBK' := hide hbn
  clear HKB HBK hbn hkn
  have HKB := HKB'
  have HBK := HBK'
  clear HKB' HBK'
  go_wp2_with fail
  refine (grow52_any HBK.out).mono ?_
  rintro e wn ⟨rfl, hbn, hkn⟩
  have HKB' := hide (HKB.out.trans hkn (fun _ _ h => h))
  have HBK' := hide hbn
  clear HKB HBK hbn hkn
  have HKB := HKB'
  have HBK := HBK'
  clear HKB' HBK'
  go_wp2_with fail
  refine (grow53_any HBK.out).mono ?_
  rintro e wn ⟨rfl, hbn, hkn⟩
  have HKB' := hide (HKB.out.trans hkn (fun _ _ h => h))
  have HBK' := hide hbn
  clear HKB HBK hbn hkn
  have HKB := HKB'
  have HBK := HBK'
  clear HKB' HBK'
  go_wp2_with fail
  refine (grow54_any HBK.out).mono ?_
  rintro e wn ⟨rfl, hbn, hkn⟩
  have HKB' := hide (HKB.out.trans hkn (fun _ _ h => h))
  have HBK' := hide hbn
  clear HKB HBK hbn hkn
  have HKB := HKB'
  have HBK := HBK'
  clear HKB' HBK'
  have c54 : wn.cell? ⟨B, 54, none⟩ = some (.int .i64 (t : Nat)) := HBK.out.cell 54 _ rfl
  have c55 : wn.cell? ⟨B, 55, none⟩ = some (.int .i64 (d : Nat)) := HBK.out.cell 55 _ rfl
  have f55 := blk_frozen 55 HBK.out
  go_wp2
  go_end0
  have hb : BkBlk (wn.setCell ⟨B, 55, none⟩ (.int .i64 (t : Nat))) B vb1 vo1 a1 t t u := HBK.out.set 55 _ rfl
  have hk : Kp (fun k => k = B) w1 (wn.setCell ⟨B, 55, none⟩ (.int .i64 (t : Nat))) := HKB.out.setCell _ _ (fun _ => rfl)
  exact ⟨rfl, vb1, vo1, es1, a1, HOK.out.reblk hb hk, HK1.out.trans hk (fun q _ hq => .inl hq), HF1.out⟩

/-- A book at block B, all of whose memory lies within F; t lists have been handed to it. -/
def BookAt (w : World) (base B : Nat) (F : Nat → Prop) (t : Nat) : Prop := ∃ vb vo es a d u, BookOk w base B vb vo es a t d u ∧ ∀ k, Foot B vb vo es k → F k

theorem foot_lt {w : World} {base B : Nat} {vb vo : Value} {es : List Ent} {a t d u : Nat} (h : BookOk w base B vb vo es a t d u) : ∀ k, Foot B vb vo es k → base ≤ k ∧ k < w.heap.size := by
  intro k hk
  rcases hk with rfl | hk | hk | ⟨e, he, hk⟩
  · exact ⟨h.hbase, blk_lt h.blk⟩
  · exact own_back h.hb k hk
  · exact own_back h.ho k hk
  · exact own_back (h.he e he) k hk

theorem BookAt.kp {S : Nat → Prop} {w w' : World} {base B : Nat} {F : Nat → Prop} {t : Nat} (h : BookAt w base B F t) (hk : Kp S w w') (hs : ∀ k, F k → ¬ S k) : BookAt w' base B F t := by
  obtain ⟨vb, vo, es, a, d, u, hok, hf⟩ := h
  exact ⟨vb, vo, es, a, d, u, hok.kp hk (hs B (hf B (.inl rfl))) (fun k hk => hs k (hf k (.inr (.inl hk)))) (fun k hk => hs k (hf k (.inr (.inr (.inl hk))))) (fun e he k hk => hs k (hf k (.inr (.inr (.inr ⟨e, he, hk⟩))))), hf⟩
theorem BookAt.mono {w : World} {base B : Nat} {F G : Nat → Prop} {t : Nat} (h : BookAt w base B F t) (hg : ∀ k, k < w.heap.size → F k → G k) : BookAt w base B G t := by
  obtain ⟨vb, vo, es, a, d, u, hok, hf⟩ := h
  exact ⟨vb, vo, es, a, d, u, hok, fun k hk => hg k (foot_lt hok k hk).2 (hf k hk)⟩

set_option maxRecDepth 1000000 in
set_option maxHeartbeats 400000 in
theorem look_any {w : World} {base B : Nat} {F : Nat → Prop} {t : Nat} (h : BookAt w base B F t) (hbase : base ≤ w.heap.size) :
    Calls Tryz.prog 22 #[.pointer (some ⟨B, 0, none⟩)] w fun e w' => e = .returned (.bool true) ∧ Hid (BookAt w' base B (fun k => F k ∨ w.heap.size ≤ k) t ∧ Kp F w w') := by
  obtain ⟨vb, vo, es, a, d, u, hok, hf⟩ := h
  have HOK := hide hok
  have HF := hide hf
  have HBS := hide hbase
  clear hok hf hbase
  go_enter Tryz.func22, Tryz.ntmps22
  go_wp2_with fail
  refine (holds_any HOK.out).mono ?_
  rintro e w1 ⟨rfl, hk1⟩
  have HOK1 := hide (HOK.out.still hk1)
  have HK1 := hide hk1
  have c54 : w1.cell? ⟨B, 54, none⟩ = some (.int .i64 (t : Nat)) := HOK1.out.blk.cell 54 _ rfl
  have c55 : w1.cell? ⟨B, 55, none⟩ = some (.int .i64 (d : Nat)) := HOK1.out.blk.cell 55 _ rfl
  clear hk1
  by_cases hdt : d = t
  · have hdt' : ((d : Int) == (t : Int)) = true := beq_iff_eq.2 (by omega)
    have HDT := hide hdt
    clear hdt
    go_wp2
    go_quiet (fail)
    go_wp2
    go_ret
    exact ⟨rfl, ⟨vb, vo, es, a, d, u, HOK1.out.still ((Kp.refl _ _).drewN _), fun k hk => .inl (HF.out k hk)⟩, (HK1.out.mono (fun _ _ h => h.elim)).drewN _⟩
  · have hdt' : ((d : Int) == (t : Int)) = false := beq_eq_false_iff_ne.2 (by omega)
    clear hdt
    go_wp2
    go_quiet (fail)
    go_wp2_with fail
    refine (bgrow_any (HOK1.out.still ((Kp.refl _ _).drewN _)) (Nat.le_trans HBS.out HK1.out.size)).mono ?_
    rintro e w2 ⟨rfl, vb2, vo2, es2, a2, hok2, hk2, hf2⟩
    have HOK2 := hide hok2
    have HK2 := hide hk2
    have HF2 := hide hf2
    clear hok2 hk2 hf2
    go_wp2_with fail
    refine (holds_any HOK2.out).mono ?_
    rintro e w3 ⟨rfl, hk3⟩
    have HOK3 := hide (HOK2.out.still hk3)
    have HK3 := hide hk3
    clear hk3
    go_wp2
    go_ret
    refine ⟨rfl, ⟨vb2, vo2, es2, a2, t, u, HOK3.out, fun k hk => ?_⟩, ?_⟩
    · rcases HF2.out k hk with h | h
      · exact .inl (HF.out k h)
      · exact .inr (Nat.le_trans HK1.out.size h)
    · exact ((HK1.out.mono (fun _ _ h => h.elim)).drewN _).trans ((HK2.out.trans HK3.out (fun _ _ h => h.elim)).mono (fun k _ hk => HF.out k hk)) (fun _ _ h => h)
end
section
open Go.RowKit
/-- An answer that waits, and what it must hold. -/
structure Wait where
  got : Value
  want : Value
  xs : List Nat

structure LateOk (w : World) (base L : Nat) (vg vw : Value) (ps : List Wait) : Prop where
  blk : w.heap[L]? = some (.cells #[vg, vw] 52 (0, 0))
  hg : w.ownsRow base 56 1 vg ps.length (ps.map (·.got))
  hw : w.ownsRow base 56 1 vw ps.length (ps.map (·.want))
  apart : ∀ k, vg.ownBlock = some k → vw.ownBlock ≠ some k
  got : ∀ p ∈ ps, w.ownsRow base 5 1 p.got p.xs.length (bv p.xs)
  want : ∀ p ∈ ps, BSl w p.want p.xs
  wblk : ∀ p ∈ ps, ∀ k, p.want.ownBlock = some k → base ≤ k ∧ ∃ cur fr, w.heap[k]? = some (.cells cur 5 fr)
  byte : ∀ p ∈ ps, (∀ x ∈ p.xs, x < 256) ∧ p.xs.length < 68719476736
  two : ∀ (i j : Nat) (pi pj : Wait), ps[i]? = some pi → ps[j]? = some pj → i ≠ j → ∀ k, pi.got.ownBlock = some k → pj.got.ownBlock ≠ some k
  hbase : base ≤ L

def LFoot (L : Nat) (vg vw : Value) (ps : List Wait) (k : Nat) : Prop := k = L ∨ vg.ownBlock = some k ∨ vw.ownBlock = some k ∨ (∃ p ∈ ps, p.got.ownBlock = some k) ∨ ∃ p ∈ ps, p.want.ownBlock = some k

theorem lfoot_lt {w : World} {base L : Nat} {vg vw : Value} {ps : List Wait} (h : LateOk w base L vg vw ps) : ∀ k, LFoot L vg vw ps k → base ≤ k ∧ k < w.heap.size := by
  intro k hk
  rcases hk with rfl | hk | hk | ⟨p, hp, hk⟩ | ⟨p, hp, hk⟩
  · exact ⟨h.hbase, blk_lt h.blk⟩
  · exact own_back h.hg k hk
  · exact own_back h.hw k hk
  · exact own_back (h.got p hp) k hk
  · obtain ⟨h1, cur, fr, h2⟩ := h.wblk p hp k hk
    exact ⟨h1, blk_lt h2⟩

theorem LateOk.kp {S : Nat → Prop} {w w' : World} {base L : Nat} {vg vw : Value} {ps : List Wait} (h : LateOk w base L vg vw ps) (hk : Kp S w w') (hs : ∀ k, LFoot L vg vw ps k → ¬ S k) : LateOk w' base L vg vw ps :=
  ⟨(hk.block L (blk_lt h.blk) (hs L (.inl rfl))).trans h.blk, hk.owns h.hg (fun k hq => hs k (.inr (.inl hq))), hk.owns h.hw (fun k hq => hs k (.inr (.inr (.inl hq)))), h.apart,
    fun p hp => hk.owns (h.got p hp) (fun k hq => hs k (.inr (.inr (.inr (.inl ⟨p, hp, hq⟩))))), fun p hp => hk.bsl (h.want p hp) (fun k hq => hs k (.inr (.inr (.inr (.inr ⟨p, hp, hq⟩))))),
    fun p hp k hq => by
      obtain ⟨h1, cur, fr, h2⟩ := h.wblk p hp k hq
      exact ⟨h1, cur, fr, (hk.block k (blk_lt h2) (hs k (.inr (.inr (.inr (.inr ⟨p, hp, hq⟩)))))).trans h2⟩,
    h.byte, h.two, h.hbase⟩

def LateAt (w : World) (base L : Nat) (G : Nat → Prop) (c : Nat) : Prop := ∃ vg vw ps, LateOk w base L vg vw ps ∧ (∀ k, LFoot L vg vw ps k → G k) ∧ ps.length ≤ c

theorem LateAt.kp {S : Nat → Prop} {w w' : World} {base L : Nat} {G : Nat → Prop} {c : Nat} (h : LateAt w base L G c) (hk : Kp S w w') (hs : ∀ k, G k → ¬ S k) : LateAt w' base L G c := by
  obtain ⟨vg, vw, ps, hok, hf, hc⟩ := h
  exact ⟨vg, vw, ps, hok.kp hk (fun k hq => hs k (hf k hq)), hf, hc⟩

/-- Book and Late side by side; none of their blocks is in X. -/
def Hs (w : World) (base : Nat) (X : Nat → Prop) (B L t c : Nat) : Prop := ∃ F G, BookAt w base B F t ∧ LateAt w base L G c ∧ (∀ k, G k → ¬ F k) ∧ ∀ k, F k ∨ G k → base ≤ k ∧ k < w.heap.size ∧ ¬ X k

theorem Hs.kp {S : Nat → Prop} {w w' : World} {base : Nat} {X : Nat → Prop} {B L t c : Nat} (h : Hs w base X B L t c) (hk : Kp S w w') (hs : ∀ k, base ≤ k → k < w.heap.size → ¬ X k → ¬ S k) : Hs w' base X B L t c := by
  obtain ⟨F, G, hb, hl, hd, hx⟩ := h
  refine ⟨F, G, hb.kp hk (fun k hf => ?_), hl.kp hk (fun k hg => ?_), hd, fun k hk' => ⟨(hx k hk').1, Nat.lt_of_lt_of_le (hx k hk').2.1 hk.size, (hx k hk').2.2⟩⟩
  · have := hx k (.inl hf); exact hs k this.1 this.2.1 this.2.2
  · have := hx k (.inr hg); exact hs k this.1 this.2.1 this.2.2
theorem Hs.mono {w : World} {base : Nat} {X Y : Nat → Prop} {B L t c : Nat} (h : Hs w base X B L t c) (hy : ∀ k, base ≤ k → k < w.heap.size → Y k → X k) : Hs w base Y B L t c := by
  obtain ⟨F, G, hb, hl, hd, hx⟩ := h
  exact ⟨F, G, hb, hl, hd, fun k hk => ⟨(hx k hk).1, (hx k hk).2.1, fun h => (hx k hk).2.2 (hy k (hx k hk).1 (hx k hk).2.1 h)⟩⟩

set_option maxRecDepth 1000000 in
set_option maxHeartbeats 400000 in
theorem same_any {w : World} {base L : Nat} {vg vw : Value} {ps : List Wait} (h : LateOk w base L vg vw ps) :
    Calls Tryz.prog 40 #[.pointer (some ⟨L, 0, none⟩)] w fun e w' => e = .returned (.bool true) ∧ Kp (fun _ => False) w w' := by
  obtain ⟨ag, cg, hvg, hq1, hq2, hcg⟩ := own_form h.hg
  obtain ⟨aw, cw, hvw, hq3, hq4, hcw⟩ := own_form h.hw
  have HCG := hide hcg
  have HCW := hide hcw
  have HH := hide h
  subst hvg
  subst hvw
  clear hcg hcw h hq3 hq4
  go_enter Tryz.func40, Tryz.ntmps40
  go_wp2
  go_loopw [3] (fun i wr => ∃ k : Nat, k ≤ ps.length ∧ i = .int .i64 k ∧ Kp (fun _ => False) w wr) (fun i _ => ps.length - (intOf i).toNat)
  case atStart => exact ⟨0, Nat.zero_le _, rfl, Kp.refl _ _⟩
  case round =>
    obtain ⟨k, hk, rfl, hkp⟩ := hrel
    have HK := hide hkp
    clear hkp
    have HL := hide (HH.out.kp HK.out (fun _ _ h => h))
    have c0 : wr.cell? ⟨L, 0, none⟩ = some (.slice ag ps.length cg) := blk_cell HL.out.blk rfl
    have c1 : wr.cell? ⟨L, 1, none⟩ = some (.slice aw ps.length cw) := blk_cell HL.out.blk rfl
    by_cases hlt : k < ps.length
    · have hlt' : (k : Int) < (ps.length : Int) := by omega
      obtain ⟨p, hp⟩ : ∃ p, ps[k]? = some p := ⟨ps[k], by simp [hlt]⟩
      have hmem := List.mem_of_getElem? hp
      obtain ⟨gb, hab, hcb1⟩ := HCG.out k p.got (by simp [hp])
      obtain ⟨gw, haw, hcw1⟩ := HCW.out k p.want (by simp [hp])
      subst hab
      subst haw
      have cg1 := HK.out.cell hcb1 (by simp)
      have cw1 := HK.out.cell hcw1 (by simp)
      have hb1 := BSl.own (HL.out.got p hmem) (HL.out.byte p hmem).1
      have hb2 := HL.out.want p hmem
      have hcv1 : ∀ nq, Sem.run Tryz.prog (convert 56 9 p.got) (wr.drewN nq) = .ok (.string (nstr p.xs)) (wr.drewN nq) := fun nq => (hb1.move (w' := wr.drewN nq) (fun _ _ h => h)).text
      have hcv2 : ∀ nq, Sem.run Tryz.prog (convert 56 9 p.want) (wr.drewN nq) = .ok (.string (nstr p.xs)) (wr.drewN nq) := fun nq => (hb2.move (w' := wr.drewN nq) (fun _ _ h => h)).text
      generalize nstr p.xs = S at *
      generalize p.got = pg at *
      generalize p.want = pw at *
      clear hb1 hb2 hmem hp hcb1 hcw1
      go_wp2
      go_quiet (fail)
      go_wp2
      go_roundw
      case rel => exact ⟨k + 1, by omega, by go_num, HK.out.drewN _⟩
      case measure => simp [intOf]; omega
    · have hlt' : ¬ (k : Int) < (ps.length : Int) := by omega
      go_wp2
      go_ret
      exact ⟨rfl, HK.out⟩
end
section
open Go.RowKit
theorem bytes_at {w : World} {base B : Nat} {F : Nat → Prop} {t : Nat} (h : BookAt w base B F t) (l : Value) (n : Nat) (xs : List Value) (hl : w.ownsRow base 5 1 l n xs) (hn : n < 68719476736)
    (hd : ∀ k, l.ownBlock = some k → ¬ F k) (ht : t + 1 < 68719476736) (hbase : base ≤ w.heap.size) :
    Calls Tryz.prog 41 #[.pointer (some ⟨B, 0, none⟩), l] w fun e w' => e = .returned (.tuple #[]) ∧ BookAt w' base B (fun k => F k ∨ l.ownBlock = some k ∨ w.heap.size ≤ k) (t + 1) ∧ Kp (fun k => F k ∨ l.ownBlock = some k) w w' := by
  obtain ⟨vb, vo, es, a, d, u, hok, hf⟩ := h
  refine (bytes_any hok l n xs hl hn (fun e he k hk hlk => hd k hlk (hf k (.inr (.inr (.inr ⟨e, he, hk⟩))))) ht hbase).mono ?_
  rintro e w' ⟨rfl, vb', vo', es', u', hok', hk', hf'⟩
  refine ⟨rfl, ⟨vb', vo', es', a, d, u', hok', fun k hk => ?_⟩, hk'.mono (fun k _ hk => ?_)⟩
  · rcases hf' k hk with h | h | h
    · exact .inl (hf k h)
    · exact .inr (.inl h)
    · exact .inr (.inr h.1)
  · rcases hk with h | h | h | h
    · exact .inl (hf k (.inl h))
    · exact .inl (hf k (.inr (.inl h)))
    · exact .inl (hf k (.inr (.inr (.inl h))))
    · exact .inr h

/-- The blocks of the first k answers. -/
def Firsts (ps : List Wait) (k q : Nat) : Prop := ∃ (j : Nat) (p : Wait), j < k ∧ ps[j]? = some p ∧ p.got.ownBlock = some q

set_option maxRecDepth 1000000 in
set_option maxHeartbeats 400000 in
theorem settle_any {w : World} {base : Nat} {X : Nat → Prop} {B L t c : Nat} (h : Hs w base X B L t c) (hbase : base ≤ w.heap.size) (n : Int) (hb : t + c + 1 < 68719476736) :
    Calls Tryz.prog 21 #[.pointer (some ⟨L, 0, none⟩), .pointer (some ⟨B, 0, none⟩), .int .i64 n] w fun e w' => e = .returned (.bool true) ∧
      Hid (∃ t' c', t' + c' ≤ t + c ∧ Hs w' base (fun k => X k ∧ k < w.heap.size) B L t' c' ∧ Kp (fun k => base ≤ k ∧ ¬ X k) w w') := by
  have HH := hide h
  obtain ⟨F, G, hbook, ⟨vg, vw, ps, hok, hlf, hpc⟩, hd, hx⟩ := h
  obtain ⟨ag, cg, hvg, hq1, hq2, hcg⟩ := own_form hok.hg
  have HBK := hide hbook
  have HLT := hide hok
  have HLF := hide hlf
  have HD := hide hd
  have HX := hide hx
  have HCG := hide hcg
  have HBS := hide hbase
  have HTC := hide hb
  have HPC := hide hpc
  have c0 : w.cell? ⟨L, 0, none⟩ = some (.slice ag ps.length cg) := by rw [← hvg]; exact blk_cell hok.blk rfl
  clear hbook hok hlf hd hx hcg hbase hb hq1 hpc
  by_cases hfew : (ps.length : Int) < n
  · go_enter Tryz.func21, Tryz.ntmps21
    go_wp2
    go_ret
    exact ⟨rfl, t, c, Nat.le_refl _, HH.out.mono (fun k _ _ hk => hk.1), Kp.refl _ _⟩
  · have hfew' : n ≤ (ps.length : Int) := by omega
    clear hfew HH
    go_enter Tryz.func21, Tryz.ntmps21
    go_wp2_with fail
    refine (same_any HLT.out).mono ?_
    rintro e w1 ⟨rfl, hk1⟩
    have HK1 := hide hk1
    have HLT1 := hide (HLT.out.kp hk1 (fun _ _ h => h))
    have HBK1 := hide (HBK.out.kp hk1 (fun _ _ h => h))
    clear hk1 c0
    go_wp2
    go_loopw [7] (fun i wr => ∃ k : Nat, k ≤ ps.length ∧ i = .int .i64 k ∧ BookAt wr base B (fun q => F q ∨ Firsts ps k q ∨ w.heap.size ≤ q) (t + k) ∧ Kp (fun q => F q ∨ Firsts ps k q) w wr) (fun i _ => ps.length - (intOf i).toNat)
    case atStart => exact ⟨0, Nat.zero_le _, rfl, HBK1.out.mono (fun k _ hk => .inl hk), HK1.out.mono (fun _ _ h => h.elim)⟩
    case round =>
      obtain ⟨k, hk, rfl, hbk, hkp⟩ := hrel
      have HBR := hide hbk
      have HKR := hide hkp
      clear hbk hkp HLT1 HBK1 HK1
      have HSZ : Hid (base ≤ wr.heap.size ∧ w.heap.size ≤ wr.heap.size) := ⟨Nat.le_trans HBS.out HKR.out.size, HKR.out.size⟩
      -- what Late holds is not touched but for the answers' own blocks
      have HNF : Hid (∀ q, LFoot L vg vw ps q → ¬ F q) := fun q hq => HD.out q (HLF.out q hq)
      have HNB : Hid (∀ {ee : TypeId} {cur : Array Value} {fr : Nat × Nat} {q : Nat}, w.heap[q]? = some (.cells cur ee fr) → ee ≠ 5 → ¬ Firsts ps k q) := fun hq hne hfi => by
        obtain ⟨j, p, _, hp, hpq⟩ := hfi
        obtain ⟨cur', hc'⟩ := own_block_type (HLT.out.got p (List.mem_of_getElem? hp)) hpq
        rw [hc'] at hq
        injection hq with hq
        injection hq with _ h2
        exact hne h2.symm
      have HLB : Hid (wr.heap[L]? = some (.cells #[vg, vw] 52 (0, 0))) := (HKR.out.block L (blk_lt HLT.out.blk) (fun hor => by
        rcases hor with h | h
        · exact HNF.out L (.inl rfl) h
        · exact HNB.out HLT.out.blk (by decide) h)).trans HLT.out.blk
      have HVG : Hid (wr.ownsRow base 56 1 vg ps.length (ps.map (·.got))) := HKR.out.owns HLT.out.hg (fun q hq hor => by
        rcases hor with h | h
        · exact HNF.out q (.inr (.inl hq)) h
        · obtain ⟨cur, hcur⟩ := own_block_type HLT.out.hg hq
          exact HNB.out hcur (by decide) h)
      have c0 : wr.cell? ⟨L, 0, none⟩ = some (.slice ag ps.length cg) := by rw [← hvg]; exact blk_cell HLB.out rfl
      by_cases hlt : k < ps.length
      · have hlt' : (k : Int) < (ps.length : Int) := by omega
        obtain ⟨p, hp⟩ : ∃ p, ps[k]? = some p := ⟨ps[k], by simp [hlt]⟩
        have hmem := List.mem_of_getElem? hp
        have hgot := HLT.out.got p hmem
        have hnot : ∀ q, p.got.ownBlock = some q → ¬ (F q ∨ Firsts ps k q) := fun q hq hor => by
          rcases hor with h | ⟨j, pj, hj, hpj, hqj⟩
          · exact HNF.out q (.inr (.inr (.inr (.inl ⟨p, hmem, hq⟩)))) h
          · exact HLT.out.two j k pj p hpj hp (by omega) q hqj hq
        have hgotr := HKR.out.owns hgot hnot
        obtain ⟨gb, hab, hcb1⟩ := HCG.out k p.got (by simp [hp])
        have hgb : (Value.slice ag ps.length cg).ownBlock = some gb := by rw [hab]; rfl
        have cg1 : wr.cell? ⟨gb, k, none⟩ = some p.got := HKR.out.cell hcb1 (fun hor => by
          rcases hor with h | h
          · exact HNF.out gb (.inr (.inl (by rw [hvg]; exact hgb))) h
          · obtain ⟨cur, hcur⟩ := own_block_type HLT.out.hg (k := gb) (by rw [hvg]; exact hgb)
            exact HNB.out hcur (by decide) h)
        have HGR := hide hgotr
        have HNT : Hid (∀ q, p.got.ownBlock = some q → ¬ (F q ∨ Firsts ps k q ∨ w.heap.size ≤ q)) := fun q hq hor => by
          rcases hor with h | h | h
          · exact hnot q hq (.inl h)
          · exact hnot q hq (.inr h)
          · have := (own_back hgot q hq).2; omega
        have HP := hide hp
        have HBY : Hid (p.xs.length < 68719476736) := (HLT.out.byte p hmem).2
        rw [hab] at c0
        clear hgotr hnot hgot hmem hp hcb1 hgb hab
        go_wp2_with fail
        refine (bytes_at HBR.out p.got _ _ HGR.out HBY.out HNT.out (by have := HTC.out; have := HPC.out; omega) HSZ.out.1).mono ?_
        rintro e w2 ⟨rfl, hbk2, hkp2⟩
        have HB2 := hide hbk2
        have HK2 := hide hkp2
        clear hbk2 hkp2 c0 cg1
        go_wp2
        go_roundw
        case rel =>
          have hstep : ∀ q, Firsts ps k q ∨ p.got.ownBlock = some q → Firsts ps (k + 1) q := fun q hor => by
            rcases hor with ⟨j, pj, hj, hpj, hqj⟩ | h
            · exact ⟨j, pj, by omega, hpj, hqj⟩
            · exact ⟨k, p, by omega, HP.out, h⟩
          refine ⟨k + 1, by omega, by go_num, HB2.out.mono (fun q _ hor => ?_), HKR.out.mono (fun q _ hor => ?_) |>.trans HK2.out (fun q hq hor => ?_)⟩
          · rcases hor with (h | h | h) | h | h
            · exact .inl h
            · exact .inr (.inl (hstep q (.inl h)))
            · exact .inr (.inr h)
            · exact .inr (.inl (hstep q (.inr h)))
            · exact .inr (.inr (by have := HSZ.out.2; omega))
          · rcases hor with h | h
            · exact .inl h
            · exact .inr (hstep q (.inl h))
          · rcases hor with (h | h | h) | h
            · exact .inl h
            · exact .inr (hstep q (.inl h))
            · omega
            · exact .inr (hstep q (.inr h))
        case measure => simp [intOf]; omega
      · have hlt' : ¬ (k : Int) < (ps.length : Int) := by omega
        have hke : k = ps.length := by omega
        have c1 : wr.cell? ⟨L, 1, none⟩ = some vw := blk_cell HLB.out rfl
        have f0 := blk_frozen 0 HLB.out
        have f1 := blk_frozen 1 HLB.out
        have HKL : Hid (Kp (fun q => q = L) wr ((wr.setCell ⟨L, 0, none⟩ (.slice none 0 0)).setCell ⟨L, 1, none⟩ (.slice none 0 0))) := ((Kp.refl (fun q => q = L) wr).setCell ⟨L, 0, none⟩ (.slice none 0 0) (fun _ => rfl)).setCell ⟨L, 1, none⟩ (.slice none 0 0) (fun _ => rfl)
        have HL2 : Hid (((wr.setCell ⟨L, 0, none⟩ (.slice none 0 0)).setCell ⟨L, 1, none⟩ (.slice none 0 0)).heap[L]? = some (.cells #[.slice none 0 0, .slice none 0 0] 52 (0, 0))) := by
          have h1 := blk_set 0 (.slice none 0 0) HLB.out
          have h2 := blk_set 1 (.slice none 0 0) h1
          exact h2
        have HNL : Hid (∀ q, F q ∨ Firsts ps k q ∨ w.heap.size ≤ q → q ≠ L) := fun q hor e => by
          subst e
          rcases hor with h | h | h
          · exact HNF.out q (.inl rfl) h
          · exact HNB.out HLT.out.blk (by decide) h
          · have := blk_lt HLT.out.blk; omega
        have HB3 := hide (HBR.out.kp HKL.out HNL.out)
        have HKE := hide hke
        clear hke
        go_wp2_with fail
        refine (look_any HB3.out (Nat.le_trans HSZ.out.1 HKL.out.size)).mono ?_
        rintro e w4 ⟨rfl, hb4⟩
        have HB4 := hide hb4.out.1
        have HK4 := hide hb4.out.2
        clear hb4 c0 c1 f0 f1
        go_wp2
        go_ret
        refine ⟨rfl, t + k, 0, by have := HPC.out; omega, ?_, ?_⟩
        · have hF : ∀ q, F q ∨ Firsts ps k q → base ≤ q ∧ ¬ X q := fun q hor => by
            rcases hor with h | ⟨j, p, _, hp, hq⟩
            · have := HX.out q (.inl h); exact ⟨this.1, this.2.2⟩
            · have := HX.out q (.inr (HLF.out q (.inr (.inr (.inr (.inl ⟨p, List.mem_of_getElem? hp, hq⟩)))))); exact ⟨this.1, this.2.2⟩
          have hLX : base ≤ L ∧ ¬ X L := by have := HX.out L (.inr (HLF.out L (.inl rfl))); exact ⟨this.1, this.2.2⟩
          refine ⟨fun q => (F q ∨ Firsts ps k q ∨ w.heap.size ≤ q) ∧ q < w4.heap.size, fun q => q = L, HB4.out.mono (fun q hq hor => ⟨?_, hq⟩), ?_, fun q hq hf => HNL.out q hf.1 hq, fun q hor => ?_⟩
          · rcases hor with h | h
            · exact h
            · exact .inr (.inr (Nat.le_trans (Nat.le_trans HSZ.out.2 HKL.out.size) h))
          · refine ⟨.slice none 0 0, .slice none 0 0, [], ⟨(HK4.out.block L (blk_lt HL2.out) (fun h => HNL.out L h rfl)).trans HL2.out, World.ownsRow_nil _ _ _ _, World.ownsRow_nil _ _ _ _, (fun q hq => by cases hq), by simp, by simp, by simp, by simp, by simp, HLT.out.hbase⟩, fun q hq => ?_, Nat.le_refl _⟩
            rcases hq with h | h | h | ⟨p, hp, _⟩ | ⟨p, hp, _⟩
            · exact h
            · cases h
            · cases h
            · cases hp
            · cases hp
          · rcases hor with ⟨h, hlt4⟩ | h
            · refine ⟨?_, hlt4, fun hxx => ?_⟩
              · rcases h with h | h | h
                · exact (hF q (.inl h)).1
                · exact (hF q (.inr h)).1
                · exact Nat.le_trans HBS.out h
              · rcases h with h | h | h
                · exact (hF q (.inl h)).2 hxx.1
                · exact (hF q (.inr h)).2 hxx.1
                · omega
            · subst h
              refine ⟨hLX.1, ?_, fun hxx => hLX.2 hxx.1⟩
              exact Nat.lt_of_lt_of_le (blk_lt HL2.out) HK4.out.size
        · have hS : ∀ q, F q ∨ Firsts ps k q → base ≤ q ∧ ¬ X q := fun q hor => by
            rcases hor with h | ⟨j, p, _, hp, hq⟩
            · have := HX.out q (.inl h); exact ⟨this.1, this.2.2⟩
            · have := HX.out q (.inr (HLF.out q (.inr (.inr (.inr (.inl ⟨p, List.mem_of_getElem? hp, hq⟩)))))); exact ⟨this.1, this.2.2⟩
          have hLX : base ≤ L ∧ ¬ X L := by have := HX.out L (.inr (HLF.out L (.inl rfl))); exact ⟨this.1, this.2.2⟩
          refine ((HKR.out.mono (fun q _ hor => hS q hor)).trans HKL.out (fun q _ e => by subst e; exact hLX)).trans HK4.out (fun q hq hor => ?_)
          rcases hor with h | h | h
          · exact hS q (.inl h)
          · exact hS q (.inr h)
          · omega
end
section
open Go.RowKit
theorem nstr_sizeL (xs : List Nat) : (nstr xs).size = xs.length := by unfold nstr; rw [strOfNums_size]; simp
theorem nstr_get (xs : List Nat) (hx : ∀ x ∈ xs, x < 256) : (nstr xs).data.toList.map (fun b => Value.int .u8 (b.toNat : Int)) = bv xs := by
  simp only [nstr, strOfNums_data, List.map_map, bv]
  apply List.map_congr_left
  intro x h
  have := hx x h
  simp
  omega

theorem bytesRow_get (xs : List Nat) (hx : ∀ x ∈ xs, x < 256) (cap j : Nat) (hj : j < xs.length) : (bytesRow (nstr xs) cap)[j]? = some (.int .u8 ((xs.getD j 0 : Nat) : Int)) := by
  have hl : ((nstr xs).data.map fun b => Value.int .u8 (b.toNat : Int)).toList = bv xs := by rw [Array.toList_map]; exact nstr_get xs hx
  have hs : ((nstr xs).data.map fun b => Value.int .u8 (b.toNat : Int)).size = xs.length := by rw [← Array.length_toList, hl, bv_len]
  unfold bytesRow
  rw [Array.getElem?_append_left (by rw [hs]; exact hj), ← Array.getElem?_toList, hl]
  exact bv_get hj

/-- '[]byte(s)'. -/
theorem conv_bytes (w : World) (xs : List Nat) (hx : ∀ x ∈ xs, x < 256) (hl : xs.length < 68719476736) : ∃ cap w2, (convert 9 56 (.string (nstr xs))).run Tryz.prog w = .ok (.slice (some ⟨w.heap.size, 0, none⟩) xs.length cap) w2 ∧
    BSl w2 (.slice (some ⟨w.heap.size, 0, none⟩) xs.length cap) xs ∧ Kp (fun _ => False) w w2 ∧ w2.heap.size = w.heap.size + 1 ∧ ∃ cur fr, w2.heap[w.heap.size]? = some (.cells cur 5 fr) := by
  have hr := run_bytes_of_string (P := Tryz.prog) w 9 56 5 (nstr xs) Tryz.underlying9 Tryz.underlying56 Tryz.underlying5
  rw [nstr_sizeL] at hr
  have hge := grownCap_ge w xs.length 0 5
  refine ⟨_, _, hr, ?_, ⟨rfl, rfl, rfl, by simp, fun k hk _ => Below.heap_alloc w.drew _ k hk⟩, by simp, _, _, heap_alloc_new w.drew _⟩
  refine ⟨⟨_, _, rfl, ⟨hge, fun h => by cases h⟩, .inr ⟨_, 0, rfl, fun j hj => ?_⟩⟩, by omega, hx⟩
  have hn := heap_alloc_new w.drew (.cells (bytesRow (nstr xs) (grownCap w xs.length 0 5)) 5 ((bytesRow (nstr xs) (grownCap w xs.length 0 5)).size, (bytesRow (nstr xs) (grownCap w xs.length 0 5)).size + 1))
  have hn' : (w.drew.alloc (.cells (bytesRow (nstr xs) (grownCap w xs.length 0 5)) 5 ((bytesRow (nstr xs) (grownCap w xs.length 0 5)).size, (bytesRow (nstr xs) (grownCap w xs.length 0 5)).size + 1))).heap[w.heap.size]? = _ := hn
  simp only [World.cell?, hn', Nat.zero_add]
  exact bytesRow_get xs hx _ j hj

/-- 'append(rows, x)', one row, as one step of a region that draws its order. -/
theorem step_append_row {ops : Array Oper} {o : Oper} {a : Act} {w : World} {K : Act → World → Prop} {Q : Exit → Act → World → Prop} {E : Prop} (hgd : o.guard = none) (s x : Operand)
    (ho : o.op = .call { callee := .builtin .append, args := #[s, x], argTypes := #[24, 24] }) (B : Nat) (v : Value) (n : Nat) (ds : List Value) (hs : a.eval s = v) (hown : w.ownsRow B 56 1 v n ds)
    (y : Value) (S : Nat) (hS : w.heap.size = S) (hx : a.eval x = .slice (some ⟨S, 0, none⟩) 1 1) (hone : y.oneCell' = true) (hlen : n < 1099511627776) (hbase : B ≤ w.heap.size)
    (hK : ∀ v' w', w'.ownsRow B 56 1 v' (n + 1) (ds ++ [y]) → (w.alloc (.cells #[y] 56)).grownBy w' v.ownBlock → (v'.ownBlock = v.ownBlock ∨ v'.ownBlock = some (w.heap.size + 1)) → K (a.put o.dst v') w') :
    if Region.wanted o (yielded ops a.tmps) = true then Oper.wp Tryz.prog o a (w.alloc (.cells #[y] 56)) K Q else E := by
  have hw : Region.wanted o (yielded ops a.tmps) = true := by simp [Region.wanted, hgd]
  rw [if_pos hw]
  subst hS
  obtain ⟨i, hi, hz0, hz1, hz2⟩ := info50_ex
  obtain ⟨v', w', hrun, r1, r2, _, r4⟩ := run_append_own_at (P := Tryz.prog) (w.alloc (.cells #[y] 56)) B 24 o.type 56 i (.slice none 0 0) 1 24 Tryz.underlying24 hi hz0 hz1 hz2 rfl (by decide) v n ds (hown.alloc _) ⟨w.heap.size, 0, none⟩ 1 1 [y] rfl (cell_one_new _ _ _) (by intro u hu; simp at hu; subst hu; exact hone) (by unfold maxLen; omega) (by omega) (by simp; omega)
  unfold Oper.wp
  simp [execOp, ho, resolve, invoke, builtin, hs, hx, hrun, Result.andThen]
  exact hK v' w' r1 r2 (by simpa using r4)

/-- What Add leaves, out of its steps' worlds. -/
theorem add_fin {w w4 w5 w6 : World} {base : Nat} {X F G : Nat → Prop} {B L t c : Nat} {vg vw v3 v6 : Value} {ps : List Wait} {ag : Option Addr} {cg cap5 : Nat} {xs : List Nat}
    (hbk : BookAt w base B F t) (hlt : LateOk w base L vg vw ps) (hlf : ∀ k, LFoot L vg vw ps k → G k) (hd : ∀ k, G k → ¬ F k) (hx : ∀ k, F k ∨ G k → base ≤ k ∧ k < w.heap.size ∧ ¬ X k) (hbs : base ≤ w.heap.size)
    (hgo : w.ownsRow base 5 1 (Value.slice ag xs.length cg) xs.length (bv xs)) (hxs : ∀ x ∈ xs, x < 256) (hl : xs.length < 68719476736) (hgx : ∀ k, (Value.slice ag xs.length cg).ownBlock = some k → X k) (hpc : ps.length ≤ c)
    (hk4 : Kp (fun q => q = L ∨ vg.ownBlock = some q) w w4) (hb4 : w4.heap[L]? = some (.cells #[v3, vw] 52 (0, 0))) (hv4 : w4.ownsRow base 56 1 v3 (ps.length + 1) (ps.map (·.got) ++ [Value.slice ag xs.length cg]))
    (hvw4 : w4.ownsRow base 56 1 vw ps.length (ps.map (·.want))) (hgo4 : w4.ownsRow base 5 1 (Value.slice ag xs.length cg) xs.length (bv xs)) (hat3 : v3.ownBlock = vg.ownBlock ∨ v3.ownBlock = some (w.heap.size + 1))
    (hk5 : Kp (fun _ => False) w4 w5) (hbsl5 : BSl w5 (.slice (some ⟨w4.heap.size, 0, none⟩) xs.length cap5) xs) (hsz5 : w5.heap.size = w4.heap.size + 1) (hblk5 : ∃ cur fr, w5.heap[w4.heap.size]? = some (.cells cur 5 fr))
    (ho6 : w6.ownsRow base 56 1 v6 (ps.length + 1) (ps.map (·.want) ++ [.slice (some ⟨w4.heap.size, 0, none⟩) xs.length cap5])) (hg6 : (w5.alloc (.cells #[.slice (some ⟨w4.heap.size, 0, none⟩) xs.length cap5] 56)).grownBy w6 vw.ownBlock)
    (hat6 : v6.ownBlock = vw.ownBlock ∨ v6.ownBlock = some (w5.heap.size + 1)) (hb6 : w6.heap[L]? = some (.cells #[v3, vw] 52 (0, 0))) :
    Hs (w6.setCell ⟨L, 1, none⟩ v6) base (fun k => X k ∧ (Value.slice ag xs.length cg).ownBlock ≠ some k ∧ k < w.heap.size) B L t (c + 1) ∧ Kp (fun k => base ≤ k ∧ ¬ X k) w (w6.setCell ⟨L, 1, none⟩ v6) := by
  have hk56 : Kp (fun q => vw.ownBlock = some q) w5 w6 := ((Kp.refl _ w5).alloc _).grown hg6 (fun q _ hq => hq)
  have hk67 : Kp (fun q => q = L) w6 (w6.setCell ⟨L, 1, none⟩ v6) := (Kp.refl _ _).setCell _ _ (fun _ => rfl)
  have hk57 : Kp (fun q => q = L ∨ vw.ownBlock = some q) w5 (w6.setCell ⟨L, 1, none⟩ v6) := (hk56.mono (fun _ _ h => .inr h)).trans hk67 (fun _ _ h => .inl h)
  have hk47 : Kp (fun q => q = L ∨ vw.ownBlock = some q) w4 (w6.setCell ⟨L, 1, none⟩ v6) := (hk5.mono (fun _ _ h => h.elim)).trans hk57 (fun _ _ h => h)
  have hk07 : Kp (fun q => q = L ∨ vg.ownBlock = some q ∨ vw.ownBlock = some q) w (w6.setCell ⟨L, 1, none⟩ v6) :=
    (hk4.mono (fun q _ h => by rcases h with h | h; exact .inl h; exact .inr (.inl h))).trans hk47 (fun q _ h => by rcases h with h | h; exact .inl h; exact .inr (.inr h))
  have hSG : ∀ q, (q = L ∨ vg.ownBlock = some q ∨ vw.ownBlock = some q) → G q := fun q h => hlf q (by
    rcases h with h | h | h
    · exact .inl h
    · exact .inr (.inl h)
    · exact .inr (.inr (.inl h)))
  have hvwlt : ∀ q, vw.ownBlock = some q → q < w.heap.size := fun q hq => (own_back hlt.hw q hq).2
  have hvglt : ∀ q, vg.ownBlock = some q → q < w.heap.size := fun q hq => (own_back hlt.hg q hq).2
  have hLlt := blk_lt hlt.blk
  have hs4 := hk4.size
  have hs6 : w5.heap.size ≤ (w6.setCell ⟨L, 1, none⟩ v6).heap.size := hk57.size
  have hn5 : ∀ {ee : TypeId} {v : Value} {nn : Nat} {yy : List Value}, w4.ownsRow base ee 1 v nn yy → ee ≠ 52 → ee ≠ 56 → (w6.setCell ⟨L, 1, none⟩ v6).ownsRow base ee 1 v nn yy := fun ho h1 h2 =>
    hk47.owns ho (fun q hq hor => by
      rcases hor with h | h
      · subst h; exact own_not ho hb4 h1 hq
      · exact own_apart ho hvw4 h2 hq h)
  have hv3b : ∀ q, v3.ownBlock = some q → vg.ownBlock = some q ∨ q = w.heap.size + 1 := fun q hq => by
    rcases hat3 with h | h
    · exact .inl (by rw [← h]; exact hq)
    · rw [h] at hq; injection hq with hq; exact .inr hq.symm
  have hv6b : ∀ q, v6.ownBlock = some q → vw.ownBlock = some q ∨ q = w5.heap.size + 1 := fun q hq => by
    rcases hat6 with h | h
    · exact .inl (by rw [← h]; exact hq)
    · rw [h] at hq; injection hq with hq; exact .inr hq.symm
  have hV : ∀ q, q = w4.heap.size → ¬ (q = L ∨ vw.ownBlock = some q) := fun q hq hor => by
    rcases hor with h | h
    · omega
    · have := hvwlt q h; omega
  have hlate : LateOk (w6.setCell ⟨L, 1, none⟩ v6) base L v3 v6 (ps ++ [⟨Value.slice ag xs.length cg, .slice (some ⟨w4.heap.size, 0, none⟩) xs.length cap5, xs⟩]) := by
    refine ⟨blk_set 1 v6 hb6, ?_, ?_, ?_, ?_, ?_, ?_, ?_, ?_, hlt.hbase⟩
    · have := hk47.owns hv4 (fun q hq hor => by
        rcases hor with h | h
        · subst h; exact own_not hv4 hb4 (by decide) hq
        · rcases hv3b q hq with h3 | h3
          · exact hlt.apart q h3 h
          · have := hvwlt q h; omega)
      simpa using this
    · have := hk67.owns ho6 (fun q hq e => own_not ho6 hb6 (by decide) (by rw [hq, e]))
      simpa using this
    · intro q h3 h6
      rcases hv3b q h3 with h3 | h3 <;> rcases hv6b q h6 with h6 | h6
      · exact hlt.apart q h3 h6
      · have := hvglt q h3; omega
      · have := hvwlt q h6; omega
      · omega
    · intro p hp
      rcases List.mem_append.1 hp with hp | hp
      · exact hk07.owns (hlt.got p hp) (fun q hq hor => by
          rcases hor with h | h | h
          · subst h; exact own_not (hlt.got p hp) hlt.blk (by decide) hq
          · exact own_apart (hlt.got p hp) hlt.hg (by decide) hq h
          · exact own_apart (hlt.got p hp) hlt.hw (by decide) hq h)
      · rw [List.mem_singleton.1 hp]; exact hn5 hgo4 (by decide) (by decide)
    · intro p hp
      rcases List.mem_append.1 hp with hp | hp
      · exact hk07.bsl (hlt.want p hp) (fun q hq hor => by
          obtain ⟨_, cur, fr, hc⟩ := hlt.wblk p hp q hq
          rcases hor with h | h | h
          · subst h; rw [hlt.blk] at hc; injection hc with hc; injection hc with _ hc; exact absurd hc (by decide)
          · obtain ⟨cur', hc'⟩ := own_block_type hlt.hg h; rw [hc'] at hc; injection hc with hc; injection hc with _ hc; exact absurd hc (by decide)
          · obtain ⟨cur', hc'⟩ := own_block_type hlt.hw h; rw [hc'] at hc; injection hc with hc; injection hc with _ hc; exact absurd hc (by decide))
      · rw [List.mem_singleton.1 hp]
        exact hk57.bsl hbsl5 (fun q hq => hV q (by simp [Value.ownBlock] at hq; omega))
    · intro p hp q hq
      rcases List.mem_append.1 hp with hp | hp
      · obtain ⟨h1, cur, fr, hc⟩ := hlt.wblk p hp q hq
        refine ⟨h1, cur, fr, (hk07.block q (blk_lt hc) (fun hor => ?_)).trans hc⟩
        rcases hor with h | h | h
        · subst h; rw [hlt.blk] at hc; injection hc with hc; injection hc with _ hc; exact absurd hc (by decide)
        · obtain ⟨cur', hc'⟩ := own_block_type hlt.hg h; rw [hc'] at hc; injection hc with hc; injection hc with _ hc; exact absurd hc (by decide)
        · obtain ⟨cur', hc'⟩ := own_block_type hlt.hw h; rw [hc'] at hc; injection hc with hc; injection hc with _ hc; exact absurd hc (by decide)
      · rw [List.mem_singleton.1 hp] at hq
        simp [Value.ownBlock] at hq
        subst hq
        obtain ⟨cur, fr, hc⟩ := hblk5
        exact ⟨by omega, cur, fr, (hk57.block _ (blk_lt hc) (hV _ rfl)).trans hc⟩
    · intro p hp
      rcases List.mem_append.1 hp with hp | hp
      · exact hlt.byte p hp
      · rw [List.mem_singleton.1 hp]; exact ⟨hxs, hl⟩
    · have hnew : ∀ p ∈ ps, ∀ q, p.got.ownBlock = some q → (Value.slice ag xs.length cg).ownBlock ≠ some q := fun p hp q hq hq' =>
        (hx q (.inr (hlf q (.inr (.inr (.inr (.inl ⟨p, hp, hq⟩))))))).2.2 (hgx q hq')
      intro i j pi pj hi hj hij q hq
      rcases snoc_get hi with ⟨_, hi⟩ | ⟨hi0, hi⟩ <;> rcases snoc_get hj with ⟨_, hj⟩ | ⟨hj0, hj⟩
      · exact hlt.two i j pi pj hi hj hij q hq
      · subst hj; exact hnew pi (List.mem_of_getElem? hi) q hq
      · subst hi; exact fun hq' => hnew pj (List.mem_of_getElem? hj) q hq' hq
      · omega
  refine ⟨⟨F, fun q => G q ∨ (Value.slice ag xs.length cg).ownBlock = some q ∨ (w.heap.size ≤ q ∧ q < (w6.setCell ⟨L, 1, none⟩ v6).heap.size), hbk.kp hk07 (fun q hf hor => hd q (hSG q hor) hf), ⟨v3, v6, _, hlate, fun q hq => ?_, by simp; omega⟩, fun q hq hf => ?_, fun q hor => ?_⟩, hk07.mono (fun q _ hor => ?_)⟩
  · have hlt7 := (lfoot_lt hlate q hq).2
    by_cases hq0 : w.heap.size ≤ q
    · exact .inr (.inr ⟨hq0, hlt7⟩)
    · rcases hq with h | h | h | ⟨p, hp, h⟩ | ⟨p, hp, h⟩
      · exact .inl (hlf q (.inl h))
      · rcases hv3b q h with h | h
        · exact .inl (hlf q (.inr (.inl h)))
        · omega
      · rcases hv6b q h with h | h
        · exact .inl (hlf q (.inr (.inr (.inl h))))
        · omega
      · rcases List.mem_append.1 hp with hp | hp
        · exact .inl (hlf q (.inr (.inr (.inr (.inl ⟨p, hp, h⟩)))))
        · rw [List.mem_singleton.1 hp] at h; exact .inr (.inl h)
      · rcases List.mem_append.1 hp with hp | hp
        · exact .inl (hlf q (.inr (.inr (.inr (.inr ⟨p, hp, h⟩)))))
        · rw [List.mem_singleton.1 hp] at h
          simp [Value.ownBlock] at h
          omega
  · rcases hq with h | h | h
    · exact hd q h hf
    · exact (hx q (.inl hf)).2.2 (hgx q h)
    · have := (hx q (.inl hf)).2.1; omega
  · have hmono := hk07.size
    rcases hor with h | h | h | h
    · have := hx q (.inl h); exact ⟨this.1, by omega, fun hxx => this.2.2 hxx.1⟩
    · have := hx q (.inr h); exact ⟨this.1, by omega, fun hxx => this.2.2 hxx.1⟩
    · have := own_back hgo q h; exact ⟨this.1, by omega, fun hxx => hxx.2.1 h⟩
    · exact ⟨by omega, h.2, fun hxx => by omega⟩
  · have := hx q (.inr (hSG q hor)); exact ⟨this.1, this.2.2⟩

set_option maxRecDepth 1000000 in
set_option maxHeartbeats 400000 in
theorem add_any {w : World} {base : Nat} {X : Nat → Prop} {B L t c : Nat} (h : Hs w base X B L t c) (hbase : base ≤ w.heap.size) (got wv : Value) (xs : List Nat) (hgo : w.ownsRow base 5 1 got xs.length (bv xs)) (hxs : ∀ x ∈ xs, x < 256) (hl : xs.length < 68719476736)
    (hX : ∀ k, got.ownBlock = some k → X k) (hwv : BSl w wv xs) (hwX : ∀ k, wv.ownBlock = some k → X k) (hc : c < 68719476736) :
    Calls Tryz.prog 11 #[.pointer (some ⟨L, 0, none⟩), got, wv] w fun e w' => e = .returned (.tuple #[]) ∧
      Hid (Hs w' base (fun k => X k ∧ got.ownBlock ≠ some k ∧ k < w.heap.size) B L t (c + 1) ∧ Kp (fun k => base ≤ k ∧ ¬ X k) w w') := by
  obtain ⟨F, G, hbook, ⟨vg, vw, ps, hok, hlf, hpc⟩, hd, hx⟩ := h
  obtain ⟨ag, cg, hgf, hq1, hq2, hq3⟩ := own_form hgo
  have HBK := hide hbook
  have HLT := hide hok
  have HLF := hide hlf
  have HD := hide hd
  have HX := hide hx
  have HBS := hide hbase
  have HGO := hide hgo
  have HXS := hide hxs
  have HL := hide hl
  have HGX := hide hX
  have HWV := hide hwv
  have HWX := hide hwX
  have HLN : Hid (ps.length < 1099511627776 ∧ ps.length ≤ c) := ⟨by omega, hpc⟩
  have c0 : w.cell? ⟨L, 0, none⟩ = some vg := blk_cell hok.blk rfl
  subst hgf
  clear hbook hok hlf hd hx hbase hgo hxs hl hX hwv hwX hc hpc hq1 hq2 hq3
  go_enter Tryz.func11, Tryz.ntmps11
  go_wp2_with (at_builtin; refine append_row rfl _ _ rfl base vg ps.length _ rfl HLT.out.hg _ _ rfl rfl rfl HLN.out.1 HBS.out ?_)
  intro v3 w3 ho3 hg3 hat3
  obtain ⟨a3, c3, hv3, hq1, hq2, hq3⟩ := own_form ho3
  have HLG : Hid (vg.ownBlock ≠ some L) := own_not HLT.out.hg HLT.out.blk (by decide)
  have hblk3 : w3.heap[L]? = some (.cells #[vg, vw] 52 (0, 0)) := (hg3.block L (by have := blk_lt HLT.out.blk; simp; omega) (fun e => HLG.out e.symm)).trans (blk_alloc _ HLT.out.blk)
  have hkg : Kp (fun q => vg.ownBlock = some q) w w3 := ((Kp.refl _ w).alloc _).grown hg3 (fun q _ hq => hq)
  have c0' : w3.cell? ⟨L, 0, none⟩ = some vg := blk_cell hblk3 rfl
  have c1' : w3.cell? ⟨L, 1, none⟩ = some vw := blk_cell hblk3 rfl
  have f0' := blk_frozen 0 hblk3
  have hkall : Kp (fun q => q = L ∨ vg.ownBlock = some q) w (w3.setCell ⟨L, 0, none⟩ v3) := (hkg.mono (fun _ _ h => .inr h)).setCell _ _ (fun _ => .inl rfl)
  have hXG : ∀ q, X q → ¬ (q = L ∨ vg.ownBlock = some q) := fun q hxq hor => by
    rcases hor with h | h
    · subst h; exact (HX.out q (.inr (HLF.out q (.inl rfl)))).2.2 hxq
    · exact (HX.out q (.inr (HLF.out q (.inr (.inl h))))).2.2 hxq
  have HK4 := hide hkall
  have HB4 : Hid ((w3.setCell ⟨L, 0, none⟩ v3).heap[L]? = some (.cells #[v3, vw] 52 (0, 0))) := blk_set 0 v3 hblk3
  have HV4 : Hid ((w3.setCell ⟨L, 0, none⟩ v3).ownsRow base 56 1 v3 (ps.length + 1) (ps.map (·.got) ++ [Value.slice ag xs.length cg])) :=
    ((Kp.refl (fun q => q = L) w3).setCell ⟨L, 0, none⟩ v3 (fun _ => rfl)).owns ho3 (fun q hq e => own_not ho3 hblk3 (by decide) (by rw [hq, e]))
  have HVW4 : Hid ((w3.setCell ⟨L, 0, none⟩ v3).ownsRow base 56 1 vw ps.length (ps.map (·.want))) := hkall.owns HLT.out.hw (fun q hq hor => by
    rcases hor with h | h
    · subst h; exact own_not HLT.out.hw HLT.out.blk (by decide) hq
    · exact HLT.out.apart q h hq)
  have HWV4 : Hid (BSl (w3.setCell ⟨L, 0, none⟩ v3) wv xs) := hkall.bsl HWV.out (fun q hq => hXG q (HWX.out q hq))
  have HGO4 : Hid ((w3.setCell ⟨L, 0, none⟩ v3).ownsRow base 5 1 (Value.slice ag xs.length cg) xs.length (bv xs)) := hkall.owns HGO.out (fun q hq => hXG q (HGX.out q hq))
  have HAT3 : Hid (v3.ownBlock = vg.ownBlock ∨ v3.ownBlock = some (w.heap.size + 1)) := hat3
  have HBS4 : Hid (base ≤ (w3.setCell ⟨L, 0, none⟩ v3).heap.size) := Nat.le_trans HBS.out hkall.size
  have HXG := hide hXG
  subst hv3
  clear ho3 hg3 hat3 hq1 hq2 hq3 hblk3 hkg hkall hXG c0
  go_wp2
  clear c0' c1' f0'
  generalize w3.setCell ⟨L, 0, none⟩ (Value.slice a3 (ps.length + 1) c3) = w4 at *
  obtain ⟨cap5, w5, hconv, hbsl5, hk5, hsz5, hblk5⟩ := conv_bytes w4.drew xs HXS.out HL.out
  have hk5' : Kp (fun _ => False) w4 w5 := (Kp.refl _ w4).drew.trans hk5 (fun _ _ h => h)
  have hcv : Sem.run Tryz.prog (convert 56 9 wv) w4.drew = .ok (.string (nstr xs)) w4.drew := (HWV4.out.move (w' := w4.drew) (fun _ _ h => h)).text
  have hL4 : L < w4.heap.size := blk_lt HB4.out
  have hB5 : w5.heap[L]? = some (.cells #[Value.slice a3 (ps.length + 1) c3, vw] 52 (0, 0)) := (hk5'.block L hL4 (fun h => h)).trans HB4.out
  have c14 : w4.cell? ⟨L, 1, none⟩ = some vw := blk_cell HB4.out rfl
  have c15 : w5.cell? ⟨L, 1, none⟩ = some vw := blk_cell hB5 rfl
  have hL5 : L < w5.heap.size := blk_lt hB5
  have HB5 := hide hB5
  have HBSL5 := hide hbsl5
  have HK5 := hide hk5'
  have HSZ5 : Hid (w5.heap.size = w4.heap.size + 1) := hsz5
  have HBLK5 : Hid (∃ cur fr, w5.heap[w4.heap.size]? = some (.cells cur 5 fr)) := hblk5
  have HVW5 := hide (hk5'.owns HVW4.out (fun _ _ h => h))
  have HBS5 : Hid (base ≤ w5.heap.size) := Nat.le_trans HBS4.out hk5'.size
  clear hbsl5 hk5 hk5' hsz5 hblk5 hB5
  generalize nstr xs = S at *
  go_region_law (first
    | (refine step_append_row rfl (.tmp 20) (.tmp 24) rfl base vw ps.length _ rfl HVW5.out _ _ rfl rfl rfl HLN.out.1 HBS5.out ?_
       intro v6 w6 ho6 hg6 hat6
       obtain ⟨a6, c6, hv6, hq1, hq2, hq3⟩ := own_form ho6
       have hblk6 : w6.heap[L]? = some (.cells #[Value.slice a3 (ps.length + 1) c3, vw] 52 (0, 0)) := (hg6.block L (by simp; omega) (fun e => own_not HVW5.out HB5.out (by decide) e.symm)).trans (blk_alloc _ HB5.out)
       have c16 : w6.cell? ⟨L, 1, none⟩ = some vw := blk_cell hblk6 rfl
       have f16 := blk_frozen 1 hblk6
       have HO6 := hide ho6
       have HG6 := hide hg6
       have HA6 := hide hat6
       have HB6 := hide hblk6
       subst hv6
       clear hq1 hq2 hq3 ho6 hg6 hat6 hblk6))
  all_goals
    go_wp2
    go_end0
    exact ⟨rfl, add_fin HBK.out HLT.out HLF.out HD.out HX.out HBS.out HGO.out HXS.out HL.out HGX.out HLN.out.2 HK4.out HB4.out HV4.out HVW4.out HGO4.out HAT3.out HK5.out HBSL5.out HSZ5.out HBLK5.out HO6.out HG6.out HA6.out HB6.out⟩
end
section
open Go.RowKit
/-- A new book and a new Late. -/
theorem hs_new (w : World) :
    Hs ((w.alloc (.cells (bookCells (.slice none 0 0) (.slice none 0 0) 0 0 0 0) 49)).alloc (.cells #[.slice none 0 0, .slice none 0 0] 52)) w.heap.size (fun q => w.heap.size + 2 ≤ q) w.heap.size (w.heap.size + 1) 0 0 := by
  have hb : BkBlk ((w.alloc (.cells (bookCells (.slice none 0 0) (.slice none 0 0) 0 0 0 0) 49)).alloc (.cells #[.slice none 0 0, .slice none 0 0] 52)) w.heap.size (.slice none 0 0) (.slice none 0 0) 0 0 0 0 :=
    BkBlk.alloc (heap_alloc_new w _) _
  have hl : ((w.alloc (.cells (bookCells (.slice none 0 0) (.slice none 0 0) 0 0 0 0) 49)).alloc (.cells #[.slice none 0 0, .slice none 0 0] 52)).heap[w.heap.size + 1]? = some (.cells #[.slice none 0 0, .slice none 0 0] 52 (0, 0)) := by
    have := heap_alloc_new (w.alloc (.cells (bookCells (.slice none 0 0) (.slice none 0 0) 0 0 0 0) 49)) (.cells #[.slice none 0 0, .slice none 0 0] 52)
    simpa using this
  refine ⟨fun q => q = w.heap.size, fun q => q = w.heap.size + 1, ⟨.slice none 0 0, .slice none 0 0, [], 0, 0, 0, ⟨hb, World.ownsRow_nil _ _ _ _, World.ownsRow_nil _ _ _ _, by simp, by simp, Nat.le_refl _, by simp, by decide, by decide, ⟨0, 0, rfl, rfl, by decide⟩, by simp, by simp⟩, fun q hq => ?_⟩,
    ⟨.slice none 0 0, .slice none 0 0, [], ⟨hl, World.ownsRow_nil _ _ _ _, World.ownsRow_nil _ _ _ _, (fun q hq => by cases hq), by simp, by simp, by simp, by simp, by simp, by omega⟩, fun q hq => ?_, Nat.le_refl _⟩, fun q h1 h2 => by omega, fun q hor => ?_⟩
  · rcases hq with h | h | h | ⟨e, he, _⟩
    · exact h
    · cases h
    · cases h
    · cases he
  · rcases hq with h | h | h | ⟨p, hp, _⟩ | ⟨p, hp, _⟩
    · exact h
    · cases h
    · cases h
    · cases hp
    · cases hp
  · have hs : ((w.alloc (.cells (bookCells (.slice none 0 0) (.slice none 0 0) 0 0 0 0) 49)).alloc (.cells #[.slice none 0 0, .slice none 0 0] 52)).heap.size = w.heap.size + 2 := by simp
    rw [hs]
    rcases hor with h | h <;> omega

theorem builtBook : Tryz.prog.built 49 [] = some (bookCells (.slice none 0 0) (.slice none 0 0) 0 0 0 0) := by kernel_rfl

theorem run_buildBook (w : World) : (Instr.build 49 #[]).run Tryz.prog w = .ok (.agg (bookCells (.slice none 0 0) (.slice none 0 0) 0 0 0 0)) w := run_build w 49 #[] _ builtBook

theorem wpList_buildBook {ops : Array Oper} {rest : List Oper} {o : Oper} {a : Act} {Q : Exit → Act → World → Prop} {w : World} (hgd : o.guard = none) (ho : o.op = .build 49 #[])
    (h : wpList Tryz.prog ops Q rest (a.put o.dst (.agg (bookCells (.slice none 0 0) (.slice none 0 0) 0 0 0 0))) w) : wpList Tryz.prog ops Q (o :: rest) a w := by
  refine wpList_plain hgd fun K hK => ?_
  unfold Oper.wp execOp
  have hr := run_buildBook w
  simp only [ho, Sem.run_bind, List.map_toArray, List.map_nil, hr, Result.andThen_ok]
  exact hK _ _ h
end
section
open Go.ChangeShapes Go.WideShapes Go.ChangeAt Go.RowKit Go.Deep
theorem Tryz.own : ownKnob Tryz.prog.godebug = none := by kernel_rfl

theorem Tryz.laidOut : laidOutB Tryz.prog = true := by kernel_rfl

theorem Tryz.cells5 : Tryz.prog.cellsOf 5 = 1 := by kernel_rfl

theorem Tryz.cells_bytes : Tryz.prog.cellsOf 56 = 1 := by kernel_rfl

theorem Tryz.bytes5 : Tryz.prog.bytesOf 5 = 1 := by kernel_rfl

theorem wf_u8 {n : Int} (h : (Lit.int .u8 n).wf = true) : 0 ≤ n ∧ n ≤ 255 := bounds_u8 h

/-- A row of bytes that was read as data, as BSl says it. -/
theorem bsl_of_row {w : World} (A : Option Addr) (L C : Nat) (Z : List Int) (hl : L ≤ C) (hm : C ≤ maxLen) (hz : Z.length = C) (hwf : ∀ n ∈ Z, (Lit.int .u8 n).wf = true) (hn : A = none → C = 0)
    (hc : ∀ a', A = some a' → ∀ c, c < C → w.cell? (a'.add c) = some (.int .u8 (Z.getD c 0))) : BSl w (.slice A L C) ((Z.take L).map Int.toNat) := by
  have hlen : ((Z.take L).map Int.toNat).length = L := by simp; omega
  refine ⟨⟨A, C, by rw [hlen], ⟨by rw [hlen]; exact hl, hn⟩, ?_⟩, by rw [hlen]; unfold maxLen at hm; omega, ?_⟩
  · by_cases h0 : L = 0
    · left; subst h0; simp
    · right
      cases A with
      | none => have := hn rfl; omega
      | some a =>
        obtain ⟨b, off, spot⟩ := a
        have h1 := hc _ rfl 0 (by omega)
        have hspot : spot = none := by simpa [Addr.add] using World.cell?_spot h1
        subst hspot
        refine ⟨b, off, rfl, fun j hj => ?_⟩
        rw [hlen] at hj
        have h2 := hc _ rfl j (by omega)
        have hadd : (⟨b, off, none⟩ : Addr).add j = ⟨b, off + j, none⟩ := by unfold Addr.add; split <;> simp_all
        rw [hadd] at h2
        rw [h2]
        have hjz : j < Z.length := by omega
        have hb := wf_u8 (hwf Z[j] (List.getElem_mem hjz))
        simp [List.getD, hj, hjz]
        omega
  · intro x hx
    simp only [List.mem_map] at hx
    obtain ⟨n, hn', rfl⟩ := hx
    have := wf_u8 (hwf n (List.mem_of_mem_take hn'))
    omega

/-- What a row weighs, inside a slice of rows. -/
theorem weights_all {H : Type} {P : Program} {e : TypeId} {d : DataW H} : ∀ {l : List (DataW H)}, d ∈ l → ∀ n ∈ d.weights P e, n ∈ DataW.weightsAll P e l
  | [], h, _, _ => by cases h
  | x :: r, h, n, hn => by
    simp only [DataW.weightsAll, List.mem_append]
    rcases List.mem_cons.1 h with h | h
    · subst h; exact .inl hn
    · exact .inr (weights_all h n hn)

theorem row_weight {H : Type} (a' : Addr) (L C : Nat) (Z : List Int) (hz : Z.length = C) : C ∈ (intRow (H := H) .u8 (some a') L Z).weights Tryz.prog 56 := by
  have e : (intRow (H := H) .u8 (some a') L Z) = .slice (lits .u8 (Z.take L)) (lits .u8 (Z.drop L)) := rfl
  rw [e]
  simp only [DataW.weights, Tryz.underlying56, Tryz.bytes5]
  refine List.mem_cons.2 (.inl ?_)
  simp [lits]
  omega

/-- A row of a slice of rows of bytes is within the reach. -/
theorem rows_reach {H : Type} {ts : List TypeId} {ds : List (DataW H)} (h : (DataW.weightsEach Tryz.prog ts ds).all (· ≤ reachBytes) = true) {j : Nat} {elems spare : List (DataW H)} (ht : ts[j]? = some 24) (hd : ds[j]? = some (.slice elems spare))
    {d : DataW H} (hm : d ∈ elems) {n : Nat} (hn : n ∈ d.weights Tryz.prog 56) : n ≤ reachBytes := by
  have h1 : n ∈ DataW.weightsAll Tryz.prog 56 elems := weights_all hm n hn
  have h2 : n ∈ (DataW.slice elems spare).weights Tryz.prog 24 := by
    simp only [DataW.weights, Tryz.underlying24]
    exact List.mem_cons.2 (.inr (List.mem_append.2 (.inl h1)))
  have := List.all_eq_true.1 h _ (DataW.weights_mem_each ht hd n h2)
  simpa using this
end
section
open Go.ChangeShapes Go.WideShapes Go.ChangeAt Go.RowKit Go.Deep Go.Joins
/-- A slice of rows of bytes, all within the reach. -/
structure RowsIn (w : World) (v : Value) (len : Nat) : Prop where
  form : ∃ a cap, v = .slice a len cap ∧ len ≤ cap ∧ (len = 0 ∨ ∃ b off, a = some ⟨b, off, none⟩ ∧ ∀ i, i < len → ∃ u xs, w.cell? ⟨b, off + i, none⟩ = some u ∧ BSl w u xs ∧ xs.length ≤ 140737488351232)
  max : len ≤ 9223372036854775807

theorem rows_open {H : Type} {enc : TypeId × Value → H} {W : World} {base fuel : Nat} {held : Bool} {v : Value} {y : DataW H × List MemPlace} (h : DataW.trod enc Tryz.prog W base (fun _ => true) held fuel 24 [v] = some y)
    {ts : List TypeId} {ds : List (DataW H)} (hsz : (DataW.weightsEach Tryz.prog ts ds).all (· ≤ reachBytes) = true) {j : Nat} (ht : ts[j]? = some 24) (hd : ds[j]? = some y.1) : ∃ len, RowsIn W v len := by
  rcases open_int_rows Tryz.underlying24 Tryz.underlying56 Tryz.underlying5 Tryz.cells_bytes Tryz.cells5 h with ⟨hcs, _⟩ | ⟨a, len, cap, A, L, C, Z, hcs, _, hl, hm, hx, hcell⟩
  · injection hcs with hcs _
    subst hcs
    exact ⟨0, ⟨none, 0, rfl, Nat.le_refl _, .inl rfl⟩, by omega⟩
  · injection hcs with hcs _
    subst hcs
    refine ⟨len, ⟨some a, cap, rfl, hl, ?_⟩, by unfold maxLen at hm; omega⟩
    by_cases hz : len = 0
    · exact .inl hz
    · obtain ⟨b, off, spot⟩ := a
      have h1 := (hcell 0 (by omega)).1
      have hspot : spot = none := by simpa [Addr.add] using World.cell?_spot h1
      subst hspot
      refine .inr ⟨b, off, rfl, fun i hi => ?_⟩
      obtain ⟨c1, c2, c3, c4, c5, c6, c7⟩ := hcell i (by omega)
      have hadd : (⟨b, off, none⟩ : Addr).add i = ⟨b, off + i, none⟩ := by unfold Addr.add; split <;> simp_all
      rw [hadd] at c1
      refine ⟨_, _, c1, bsl_of_row (A i) (L i) (C i) (Z i) c2 c3 c4 c5 c6 (fun a' h => (c7 a' h).2), ?_⟩
      have hlen : (((Z i).take (L i)).map Int.toNat).length = L i := by simp; omega
      rw [hlen]
      cases hAi : A i with
      | none => have := c6 hAi; omega
      | some a' =>
        have hd1 := congrArg Prod.fst hx
        simp only at hd1
        rw [hd1] at hd
        have h2 := rows_reach hsz (j := j) ht hd (d := intRow .u8 (A i) (L i) (Z i)) (List.mem_map.2 ⟨i, List.mem_range.2 hi, rfl⟩) (n := C i) (by rw [hAi]; exact row_weight a' _ _ _ c4)
        unfold reachBytes at h2
        omega
end
section
open Go.RowKit Go
/-- A string's bytes. -/
def sl (s : ByteArray) : List Nat := s.data.toList.map UInt8.toNat
theorem sl_byte (s : ByteArray) : ∀ x ∈ sl s, x < 256 := fun x hx => by
  obtain ⟨u, _, rfl⟩ := List.mem_map.1 hx
  exact u.toNat_lt
theorem sl_len (s : ByteArray) : (sl s).length = s.size := by
  unfold sl
  rw [List.length_map, Array.length_toList]
  rfl
theorem sl_get (s : ByteArray) (j : Nat) : (sl s).getD j 0 = (s.data.toList.getD j 0).toNat := by
  simp only [sl, List.getD, List.getElem?_map]
  cases s.data.toList[j]? <;> simp
/-- '[]byte(s)' of a string that is no constant. -/
theorem conv_sb (w : World) (s : ByteArray) : (convert 9 56 (.string s)).run Tryz.prog w = .ok (.slice (some ⟨w.heap.size, 0, none⟩) s.size (grownCap w s.size 0 5)) (Lib.bytesWorld w 5 s) := Lib.run_convert_string_bytes w 9 56 5 s Tryz.underlying9 Tryz.underlying56 Tryz.underlying5
theorem conv_sb_below (w : World) (s : ByteArray) : Below w.heap.size w (Lib.bytesWorld w 5 s) :=
  ⟨rfl, rfl, rfl, by rw [Lib.bytesWorld_size]; omega, fun k hk => Lib.bytesWorld_at_old w 5 s k hk⟩
theorem conv_sb_bsl (w : World) (s : ByteArray) (hs : s.size ≤ 9223372036854775807) : BSl (Lib.bytesWorld w 5 s) (.slice (some ⟨w.heap.size, 0, none⟩) s.size (grownCap w s.size 0 5)) (sl s) := by
  refine ⟨⟨_, _, by rw [sl_len], ⟨by rw [sl_len]; exact grownCap_ge w s.size 0 5, fun h => by cases h⟩, .inr ⟨w.heap.size, 0, rfl, fun j hj => ?_⟩⟩, by rw [sl_len]; exact hs, sl_byte s⟩
  rw [sl_len] at hj
  rw [Nat.zero_add, Lib.bytesWorld_cell w 5 s j hj, sl_get]
end
section
open Go.RowKit Go
/-- The number that digits make, the first one the highest. -/
def valB (b : Nat) (l : List Nat) : Nat := l.foldl (fun r d => r * b + d) 0
theorem valB_nil (b : Nat) : valB b [] = 0 := rfl
theorem valB_snoc (b : Nat) (l : List Nat) (d : Nat) : valB b (l ++ [d]) = valB b l * b + d := by simp [valB]
theorem foldl_shift (b : Nat) : ∀ (l : List Nat) (r : Nat), l.foldl (fun r d => r * b + d) r = r * b ^ l.length + valB b l
  | [], r => by simp [valB]
  | d :: l, r => by
    have h1 := foldl_shift b l (r * b + d)
    have h2 := foldl_shift b l (0 * b + d)
    simp only [List.foldl_cons, List.length_cons, valB] at *
    rw [h1, h2, Nat.zero_mul, Nat.zero_add, Nat.pow_succ, Nat.add_mul]
    have e : r * b * b ^ l.length = r * (b ^ l.length * b) := by rw [Nat.mul_assoc, Nat.mul_comm b]
    omega
theorem valB_cons (b d : Nat) (l : List Nat) : valB b (d :: l) = d * b ^ l.length + valB b l := by
  have h := foldl_shift b l (0 * b + d)
  unfold valB at *
  rw [List.foldl_cons, h, Nat.zero_mul, Nat.zero_add]
theorem valB_app (b : Nat) (l m : List Nat) : valB b (l ++ m) = valB b l * b ^ m.length + valB b m := by
  have h := foldl_shift b m (valB b l)
  unfold valB at *
  rw [List.foldl_append, h]
theorem valB_lt {b : Nat} (hb : 0 < b) : ∀ {l : List Nat}, (∀ d ∈ l, d < b) → valB b l < b ^ l.length
  | [], _ => by simp [valB]
  | d :: l, h => by
    have ih := valB_lt hb (l := l) (fun x hx => h x (List.mem_cons_of_mem _ hx))
    have hd := h d (by simp)
    rw [valB_cons, List.length_cons, Nat.pow_succ]
    have : (d + 1) * b ^ l.length ≤ b * b ^ l.length := Nat.mul_le_mul_right _ hd
    rw [Nat.add_mul, Nat.one_mul] at this
    rw [Nat.mul_comm (b ^ l.length) b]
    omega
/-- A number's digits, the highest first, none of 0. -/
def digB (b n : Nat) : List Nat := if _h : n = 0 ∨ b < 2 then [] else digB b (n / b) ++ [n % b]
termination_by n
decreasing_by exact Nat.div_lt_self (by omega) (by omega)
theorem digB_zero (b : Nat) : digB b 0 = [] := by unfold digB; simp
theorem digB_pos {b n : Nat} (hb : 2 ≤ b) (hn : 0 < n) : digB b n = digB b (n / b) ++ [n % b] := by
  rw [digB, dif_neg (by omega)]
theorem valB_digB {b : Nat} (hb : 2 ≤ b) (n : Nat) : valB b (digB b n) = n := by
  induction n using Nat.strongRecOn with
  | _ n ih =>
    by_cases h : n = 0
    · subst h
      rw [digB_zero]
      rfl
    · rw [digB_pos hb (by omega), valB_snoc, ih (n / b) (Nat.div_lt_self (by omega) (by omega)), Nat.mul_comm]
      exact Nat.div_add_mod n b
theorem digB_lt {b : Nat} (hb : 2 ≤ b) (n : Nat) : ∀ d ∈ digB b n, d < b := by
  induction n using Nat.strongRecOn with
  | _ n ih =>
    by_cases h : n = 0
    · subst h
      rw [digB_zero]
      simp
    · rw [digB_pos hb (by omega)]
      intro d hd
      rcases List.mem_append.1 hd with hd | hd
      · exact ih (n / b) (Nat.div_lt_self (by omega) (by omega)) d hd
      · simp at hd
        subst hd
        exact Nat.mod_lt _ (by omega)
theorem digB_head {b : Nat} (hb : 2 ≤ b) (n : Nat) : (digB b n).head? ≠ some 0 := by
  induction n using Nat.strongRecOn with
  | _ n ih =>
    by_cases h : n = 0
    · subst h
      rw [digB_zero]
      simp
    · rw [digB_pos hb (by omega)]
      by_cases hq : n / b = 0
      · rw [hq, digB_zero]
        have := Nat.div_add_mod n b
        rw [hq] at this
        simp
        omega
      · have ih2 := ih (n / b) (Nat.div_lt_self (by omega) (by omega))
        have hne : digB b (n / b) ≠ [] := by
          intro e
          have := valB_digB hb (n / b)
          rw [e] at this
          simp [valB] at this
          omega
        cases hd : digB b (n / b) with
        | nil => exact absurd hd hne
        | cons x l =>
          rw [hd] at ih2
          simpa using ih2
theorem valB_pos {b : Nat} (hb : 2 ≤ b) {l : List Nat} (hl : l ≠ []) (hh : l.head? ≠ some 0) : 0 < valB b l := by
  cases l with
  | nil => exact absurd rfl hl
  | cons d l =>
    rw [valB_cons]
    have hd : 0 < d := by simp at hh; omega
    have := Nat.mul_pos hd (Nat.pow_pos (n := l.length) (show 0 < b by omega))
    omega
theorem digB_valB {b : Nat} (hb : 2 ≤ b) : ∀ (k : Nat) (l : List Nat), l.length = k → (∀ d ∈ l, d < b) → l.head? ≠ some 0 → digB b (valB b l) = l
  | 0, l, hk, _, _ => by
    have : l = [] := List.eq_nil_of_length_eq_zero hk
    subst this
    exact digB_zero b
  | k + 1, l, hk, hd, hh => by
    have hne : l ≠ [] := by intro e; subst e; simp at hk
    obtain ⟨l0, d, rfl⟩ : ∃ l0 d, l = l0 ++ [d] := ⟨l.dropLast, l.getLast hne, (List.dropLast_concat_getLast hne).symm⟩
    have hdb : d < b := hd d (by simp)
    have hpos := valB_pos hb hne hh
    rw [digB_pos hb hpos, valB_snoc]
    have e1 : (valB b l0 * b + d) / b = valB b l0 := by
      rw [Nat.mul_comm, Nat.mul_add_div (by omega), Nat.div_eq_of_lt hdb, Nat.add_zero]
    have e2 : (valB b l0 * b + d) % b = d := by
      rw [Nat.mul_comm, Nat.mul_add_mod, Nat.mod_eq_of_lt hdb]
    rw [e1, e2]
    congr 1
    refine digB_valB hb k l0 (by simpa using hk) (fun x hx => hd x (by simp [hx])) ?_
    cases l0 with
    | nil => simp
    | cons x l0 => simpa using hh
/-- Digits of one base in another one: a 0 for each 0 at the front, then the number. -/
def conv (a b : Nat) (l : List Nat) : List Nat := List.replicate (l.takeWhile (· == 0)).length 0 ++ digB b (valB a (l.dropWhile (· == 0)))
theorem drop_head (l : List Nat) : (l.dropWhile (· == 0)).head? ≠ some 0 := by
  induction l with
  | nil => simp
  | cons x l ih =>
    by_cases h : x = 0
    · subst h
      simpa [List.dropWhile_cons] using ih
    · simp [h]
theorem zeros_take (l : List Nat) : l.takeWhile (· == 0) = List.replicate (l.takeWhile (· == 0)).length 0 := by
  induction l with
  | nil => rfl
  | cons x l ih =>
    by_cases h : x = 0
    · subst h
      simp only [List.takeWhile_cons, beq_self_eq_true, if_true, List.length_cons, List.replicate_succ]
      rw [← ih]
    · simp [h]
theorem take_zeros (z : Nat) {d : List Nat} (hd : d.head? ≠ some 0) : (List.replicate z 0 ++ d).takeWhile (· == 0) = List.replicate z 0 ∧ (List.replicate z 0 ++ d).dropWhile (· == 0) = d := by
  induction z with
  | zero =>
    cases d with
    | nil => simp
    | cons x d =>
      have : x ≠ 0 := by simpa using hd
      simp [this]
  | succ z ih => simp [List.replicate_succ, ih]
theorem conv_conv {a b : Nat} (ha : 2 ≤ a) (hb : 2 ≤ b) {l : List Nat} (hl : ∀ d ∈ l, d < a) : conv b a (conv a b l) = l := by
  have h1 := take_zeros (l.takeWhile (· == 0)).length (digB_head hb (valB a (l.dropWhile (· == 0))))
  have e : conv a b l = List.replicate (l.takeWhile (· == 0)).length 0 ++ digB b (valB a (l.dropWhile (· == 0))) := rfl
  show List.replicate ((conv a b l).takeWhile (· == 0)).length 0 ++ digB a (valB b ((conv a b l).dropWhile (· == 0))) = l
  rw [e, h1.1, h1.2, List.length_replicate, valB_digB hb, digB_valB ha _ _ rfl (fun d hd => hl d ((List.dropWhile_suffix _).subset hd)) (drop_head l), ← zeros_take]
  exact List.takeWhile_append_dropWhile
theorem conv_lt {a b : Nat} (hb : 2 ≤ b) (l : List Nat) : ∀ d ∈ conv a b l, d < b := by
  intro d hd
  rcases List.mem_append.1 hd with h | h
  · have := List.eq_of_mem_replicate h
    omega
  · exact digB_lt hb _ d h
/-- A number's lowest w bits, the highest first. -/
def bitsW (w x : Nat) : List Nat := (List.range w).map fun k => x / 2 ^ (w - 1 - k) % 2
theorem bitsW_len (w x : Nat) : (bitsW w x).length = w := by simp [bitsW]
theorem bitsW_lt (w x : Nat) : ∀ d ∈ bitsW w x, d < 2 := by
  intro d hd
  obtain ⟨k, _, rfl⟩ := List.mem_map.1 hd
  exact Nat.mod_lt _ (by decide)
theorem bitsW_succ (w x : Nat) : bitsW (w + 1) x = x / 2 ^ w % 2 :: bitsW w x := by
  unfold bitsW
  rw [List.range_succ_eq_map, List.map_cons, List.map_map]
  congr 1
  refine List.map_congr_left fun k hk => ?_
  have := List.mem_range.1 hk
  simp only [Function.comp]
  congr 3
  omega
theorem valB_bitsW : ∀ w x, valB 2 (bitsW w x) = x % 2 ^ w
  | 0, x => by
    rw [Nat.pow_zero, Nat.mod_one]
    rfl
  | w + 1, x => by
    rw [bitsW_succ, valB_cons, bitsW_len, valB_bitsW w x, Nat.pow_succ, Nat.mod_mul]
    rw [Nat.mul_comm]
    omega
theorem bitsW_valB : ∀ (l : List Nat), (∀ d ∈ l, d < 2) → bitsW l.length (valB 2 l) = l
  | [], _ => rfl
  | d :: l, h => by
    have hd := h d (by simp)
    have hl : ∀ x ∈ l, x < 2 := fun x hx => h x (List.mem_cons_of_mem _ hx)
    have hv := valB_lt (b := 2) (by decide) hl
    rw [List.length_cons, bitsW_succ, valB_cons]
    have e1 : (d * 2 ^ l.length + valB 2 l) / 2 ^ l.length % 2 = d := by
      rw [Nat.mul_comm, Nat.mul_add_div (Nat.pow_pos (by decide)), Nat.div_eq_of_lt hv, Nat.add_zero, Nat.mod_eq_of_lt hd]
    have e2 : bitsW l.length (d * 2 ^ l.length + valB 2 l) = bitsW l.length (valB 2 l) := by
      unfold bitsW
      refine List.map_congr_left fun k hk => ?_
      have hk := List.mem_range.1 hk
      have e3 : d * 2 ^ l.length = 2 ^ (l.length - 1 - k) * (2 * (d * 2 ^ k)) := by
        have : 2 ^ l.length = 2 ^ (l.length - 1 - k) * (2 * 2 ^ k) := by
          rw [← Nat.pow_succ', ← Nat.pow_add]
          congr 1
          omega
        rw [this]
        ac_rfl
      rw [e3, Nat.mul_add_div (Nat.pow_pos (by decide)), Nat.add_mod, Nat.mul_mod_right, Nat.zero_add, Nat.mod_mod]
    rw [e1, e2, bitsW_valB l hl]
/-- Whole groups of w bits. -/
def grp (w : Nat) (l : List Nat) : List Nat := if _h : w = 0 ∨ l.length < w then [] else valB 2 (l.take w) :: grp w (l.drop w)
termination_by l.length
decreasing_by rw [List.length_drop]; omega
theorem grp_short {w : Nat} {l : List Nat} (h : l.length < w) : grp w l = [] := by rw [grp, dif_pos (.inr h)]
theorem grp_app {w : Nat} (hw : 0 < w) {a : List Nat} (ha : a.length = w) (l : List Nat) : grp w (a ++ l) = valB 2 a :: grp w l := by
  rw [grp, dif_neg (by rw [List.length_append]; omega), List.take_append_of_le_length (by omega), List.take_of_length_le (by omega), List.drop_append_of_le_length (by omega), List.drop_of_length_le (by omega), List.nil_append]
/-- Bytes read out of their bits, whatever fewer than w bits stand behind. -/
theorem grp_bits {w : Nat} (hw : 0 < w) {z : List Nat} (hz : z.length < w) : ∀ {b : List Nat}, (∀ x ∈ b, x < 2 ^ w) → grp w (b.flatMap (bitsW w) ++ z) = b
  | [], _ => by simpa using grp_short hz
  | x :: b, h => by
    rw [List.flatMap_cons, List.append_assoc, grp_app hw (bitsW_len w x), valB_bitsW, Nat.mod_eq_of_lt (h x (by simp)), grp_bits hw hz (fun y hy => h y (List.mem_cons_of_mem _ hy))]
theorem bits_grp {w : Nat} (hw : 0 < w) : ∀ (k : Nat) (l : List Nat), l.length = k * w → (∀ d ∈ l, d < 2) → (grp w l).flatMap (bitsW w) = l
  | 0, l, hk, _ => by
    have : l = [] := List.eq_nil_of_length_eq_zero (by omega)
    subst this
    rw [grp_short (by simpa using hw)]
    rfl
  | k + 1, l, hk, hd => by
    rw [Nat.add_mul, Nat.one_mul] at hk
    rw [grp, dif_neg (by omega), List.flatMap_cons, bits_grp hw k (l.drop w) (by rw [List.length_drop]; omega) (fun d h => hd d (List.mem_of_mem_drop h))]
    have hl : (l.take w).length = w := by rw [List.length_take]; omega
    have e := bitsW_valB (l.take w) (fun d h => hd d (List.mem_of_mem_take h))
    rw [hl] at e
    rw [e, List.take_append_drop]
/-- The digits, of w bits each, of bytes; the last one is filled with 0. -/
def encW (w : Nat) (b : List Nat) : List Nat := grp w (b.flatMap (bitsW 8) ++ List.replicate ((w - b.length * 8 % w) % w) 0)
/-- The whole bytes of digits. -/
def decW (w : Nat) (ds : List Nat) : List Nat := grp 8 (ds.flatMap (bitsW w))
theorem flat_len (w : Nat) (b : List Nat) : (b.flatMap (bitsW w)).length = b.length * w := by
  induction b with
  | nil => simp
  | cons x b ih => rw [List.flatMap_cons, List.length_append, ih, bitsW_len, List.length_cons, Nat.add_mul, Nat.one_mul]; omega
theorem flat_lt (w : Nat) (b : List Nat) : ∀ d ∈ b.flatMap (bitsW w), d < 2 := by
  intro d hd
  obtain ⟨x, _, h⟩ := List.mem_flatMap.1 hd
  exact bitsW_lt w x d h
theorem dec_enc {w : Nat} (hw : 0 < w) (hw8 : w ≤ 8) {b : List Nat} (hb : ∀ x ∈ b, x < 256) : decW w (encW w b) = b := by
  unfold decW encW
  have hp : (w - b.length * 8 % w) % w < w := Nat.mod_lt _ hw
  have hlen : (b.flatMap (bitsW 8) ++ List.replicate ((w - b.length * 8 % w) % w) 0).length = (b.length * 8 + (w - b.length * 8 % w) % w) := by rw [List.length_append, flat_len, List.length_replicate]
  have hdiv : (b.length * 8 + (w - b.length * 8 % w) % w) % w = 0 := by
    have h1 := Nat.mod_lt (b.length * 8) hw
    by_cases h0 : b.length * 8 % w = 0
    · rw [h0, Nat.sub_zero, Nat.mod_self, Nat.add_zero]
      exact h0
    · rw [Nat.mod_eq_of_lt (a := w - b.length * 8 % w) (by omega)]
      have h2 := Nat.div_add_mod (b.length * 8) w
      have e : b.length * 8 + (w - b.length * 8 % w) = w * (b.length * 8 / w + 1) := by rw [Nat.mul_add, Nat.mul_one]; omega
      rw [e]
      exact Nat.mul_mod_right _ _
  obtain ⟨k, hk⟩ := Nat.dvd_of_mod_eq_zero hdiv
  rw [bits_grp hw k _ (by rw [hlen, hk, Nat.mul_comm]) (fun d hd => by
    rcases List.mem_append.1 hd with h | h
    · exact flat_lt 8 b d h
    · have := List.eq_of_mem_replicate h
      omega)]
  exact grp_bits (by decide) (by rw [List.length_replicate]; omega) hb
end
section
open Go.RowKit Go
/-! ### What is laid is read; what is read is laid -/
theorem dnum_small {n : Nat} (h : n < 128) (r : List Nat) : dnum (n :: r) = (n, 1, 0) := by
  have e : rd 0 0 (n :: r) = (n, 1, 0) := by
    rw [rd]
    have h1 : ¬ 128 ≤ n := by omega
    simp [h1]
    omega
  unfold dnum
  rw [e]
  rfl
theorem dread_laid {h : Nat} {d ms : List Nat} (hk : (h = 18 ∧ d.length = 32) ∨ (h = 0 ∧ d.length ≤ 64)) : dread (h :: d.length :: d ++ ms) = (h, d, 2 + d.length, 0) := by
  have e1 : dnum (h :: d.length :: d ++ ms) = (h, 1, 0) := dnum_small (by omega) _
  have e2 : dnum ((h :: d.length :: d ++ ms).drop 1) = (d.length, 1, 0) := dnum_small (by omega) _
  have f : dfit h d.length = 0 := by
    unfold dfit
    rw [if_neg (by omega), if_neg (by omega)]
  have K := ((dread_fit e1 e2).2 f).2 (by simp)
  rw [K]
  simp
theorem dread_cut {h : Nat} {d : List Nat} (hk : (h = 18 ∧ d.length = 32) ∨ (h = 0 ∧ d.length ≤ 64)) (k : Nat) (hlt : k < 2 + d.length) : dread ((h :: d.length :: d).take k) = (0, [], 0, 32) := by
  match k, hlt with
  | 0, _ =>
    have e : (dnum ([] : List Nat)).2.2 ≠ 0 := by rw [dnum_nil]; decide
    have := dread_one e
    rw [dnum_nil] at this
    simpa using this
  | 1, _ =>
    have e1 : dnum [h] = (h, 1, 0) := dnum_small (by omega) _
    have e2 : (dnum ([h].drop 1)).2.2 ≠ 0 := by simp [dnum_nil]
    have := (dread_rest e1).1 e2
    simpa [dnum_nil] using this
  | k + 2, hlt =>
    have e0 : (h :: d.length :: d).take (k + 2) = h :: d.length :: d.take k := rfl
    rw [e0]
    have e1 : dnum (h :: d.length :: d.take k) = (h, 1, 0) := dnum_small (by omega) _
    have e2 : dnum ((h :: d.length :: d.take k).drop 1) = (d.length, 1, 0) := dnum_small (by omega) _
    have f : dfit h d.length = 0 := by
      unfold dfit
      rw [if_neg (by omega), if_neg (by omega)]
    exact ((dread_fit e1 e2).2 f).1 (by simp; omega)
theorem rd_small : ∀ (xs : List Nat) (k m : Nat), 1 ≤ k → (rd k m xs).2.2 = 0 → 128 ^ k ≤ (rd k m xs).1
  | [], k, m, _, h => by
    rw [rd] at h
    split at h <;> simp at h
  | x :: r, k, m, hk, h => by
    rw [rd] at h ⊢
    by_cases h9 : k = 9
    · rw [if_pos h9] at h; simp at h
    · rw [if_neg h9] at h ⊢
      by_cases h1 : 128 ≤ x
      · rw [if_pos h1] at h ⊢
        have := rd_small r (k + 1) _ (by omega) h
        have e : 128 ^ (k + 1) = 128 * 128 ^ k := by rw [Nat.pow_succ, Nat.mul_comm]
        have hp : 0 < 128 ^ k := Nat.pow_pos (by decide)
        omega
      · rw [if_neg h1] at h ⊢
        by_cases h0 : x = 0 ∧ 0 < k
        · rw [if_pos h0] at h; simp at h
        · rw [if_neg h0]
          simp only
          have hx : 1 ≤ x % 128 := by omega
          have : 1 * 128 ^ k ≤ x % 128 * 128 ^ k := Nat.mul_le_mul_right _ hx
          omega
theorem dnum_form {xs : List Nat} {n u : Nat} (h : dnum xs = (n, u, 0)) (hn : n < 128) : u = 1 ∧ ∃ r, xs = n :: r := by
  have h0 : (rd 0 0 xs).2.2 = 0 := by
    by_cases e : (rd 0 0 xs).2.2 = 0
    · exact e
    · unfold dnum at h
      rw [if_neg e] at h
      injection h with _ h
      injection h with _ h
      split at h <;> cases h
  have hr : rd 0 0 xs = (n, u, 0) := by
    unfold dnum at h
    rw [if_pos h0] at h
    exact h
  cases xs with
  | nil => rw [rd] at hr; simp at hr
  | cons x r =>
    rw [rd] at hr
    simp only [if_neg (show ¬ (0 : Nat) = 9 by decide)] at hr
    by_cases h1 : 128 ≤ x
    · rw [if_pos h1] at hr
      have h2 := rd_small r 1 (0 + x % 128 * 128 ^ 0) (by omega) (by rw [hr])
      rw [hr] at h2
      simp at h2
      omega
    · rw [if_neg h1, if_neg (by omega)] at hr
      injection hr with e1 e2
      injection e2 with e2 _
      simp at e1
      refine ⟨e2.symm, r, ?_⟩
      rw [← e1, Nat.mod_eq_of_lt (by omega)]
theorem dread_back {xs : List Nat} (h : (dread xs).2.2.2 = 0) : (dread xs).2.2.1 ≤ xs.length ∧ dlay (dread xs).1 (dread xs).2.1 = (xs.take (dread xs).2.2.1, 0) ∧ (dread xs).1 < 128 := by
  by_cases h1 : (dnum xs).2.2 = 0
  · obtain ⟨hn, u, re, hR⟩ : ∃ hn u re, dnum xs = (hn, u, re) := ⟨_, _, _, rfl⟩
    rw [hR] at h1
    simp only at h1
    subst h1
    by_cases h2 : (dnum (xs.drop u)).2.2 = 0
    · obtain ⟨n, m, qe, hQ⟩ : ∃ n m qe, dnum (xs.drop u) = (n, m, qe) := ⟨_, _, _, rfl⟩
      rw [hQ] at h2
      simp only at h2
      subst h2
      have K := dread_fit hR hQ
      by_cases hf : dfit hn n = 0
      · have hk := dfit_ok hf
        have K2 := K.2 hf
        by_cases hs : xs.length - (u + m) < n
        · rw [K2.1 hs] at h; cases h
        · have E := K2.2 hs
          obtain ⟨hu, r, hx⟩ := dnum_form hR (by omega)
          subst hu
          subst hx
          have hQ' : dnum r = (n, m, 0) := hQ
          obtain ⟨hm, r2, hr⟩ := dnum_form hQ' (by omega)
          subst hm
          subst hr
          rw [E]
          have hlen : n ≤ r2.length := by simp at hs; omega
          have e : ((hn :: n :: r2).drop (1 + 1)).take n = r2.take n := rfl
          have et : (hn :: n :: r2).take (1 + 1 + n) = hn :: n :: r2.take n := by
            have : 1 + 1 + n = n + 1 + 1 := by omega
            rw [this]
            rfl
          refine ⟨by simp; omega, ?_, by simp only; omega⟩
          simp only
          rw [e, et, dlay_fit]
          have el : (r2.take n).length = n := by simp; omega
          rw [el, if_pos hf]
      · rw [K.1 hf] at h; exact absurd h hf
    · rw [(dread_rest hR).1 h2] at h; exact absurd h h2
  · rw [dread_one h1] at h; exact absurd h h1
theorem dlay_ok {h : Nat} {d : List Nat} (hk : (h = 18 ∧ d.length = 32) ∨ (h = 0 ∧ d.length ≤ 64)) : dlay h d = (h :: d.length :: d, 0) := by
  unfold dlay
  rw [if_neg (by omega), if_neg (by omega)]
theorem dlay_long {d : List Nat} (hd : 64 < d.length) : dlay 0 d = ([], 31) := by
  unfold dlay
  rw [if_neg (by omega), if_pos (by omega)]
end
section
open Go.RowKit Go
/-- What is laid is read. -/
theorem rd_digs : ∀ (f n k m : Nat) (r : List Nat), k + f = 9 → n < 128 ^ f → (k = 0 ∨ 0 < n) → rd k m (digs f n ++ r) = (m + n * 128 ^ k, k + (digs f n).length, 0)
  | 0, n, k, m, r, hk, hn, h0 => by
    simp at hn
    omega
  | f + 1, n, k, m, r, hk, hn, h0 => by
    by_cases h : n < 128
    · rw [digs_small h]
      simp only [List.cons_append, List.nil_append, List.length_singleton]
      unfold rd
      rw [if_neg (by omega), if_neg (by omega), if_neg (by omega), Nat.mod_eq_of_lt h]
    · have hge : 128 ≤ n := by omega
      rw [digs_big hge, List.cons_append]
      unfold rd
      rw [if_neg (by omega), if_pos (by omega), rd_digs f (n / 128) (k + 1) _ r (by omega) (by rw [Nat.pow_succ] at hn; exact Nat.div_lt_of_lt_mul (by omega)) (.inr (Nat.div_pos hge (by decide)))]
      have e1 : (n % 128 + 128) % 128 = n % 128 := by omega
      have e2 : n % 128 * 128 ^ k + n / 128 * 128 ^ (k + 1) = n * 128 ^ k := by
        rw [Nat.pow_succ, Nat.mul_comm (128 ^ k) 128, ← Nat.mul_assoc, ← Nat.add_mul]
        congr 1
        omega
      rw [e1, List.length_cons, Nat.add_assoc, e2]
      congr 2
      omega
/-- What is read was laid so. -/
theorem rd_back : ∀ (xs : List Nat) (f k m v u : Nat), k + f = 9 → (∀ x ∈ xs, x < 256) → rd k m xs = (v, u, 0) → ∃ n, v = m + n * 128 ^ k ∧ n < 128 ^ f ∧ (0 < k → 0 < n) ∧ k ≤ u ∧ u - k ≤ xs.length ∧ digs f n = xs.take (u - k)
  | [], f, k, m, v, u, hk, _, h => by
    unfold rd at h
    split at h <;> simp at h
  | x :: r, f, k, m, v, u, hk, hb, h => by
    have hx := hb x (by simp)
    unfold rd at h
    split at h
    · simp at h
    · rename_i h9
      obtain ⟨g, rfl⟩ : ∃ g, f = g + 1 := ⟨f - 1, by omega⟩
      split at h
      · rename_i h128
        obtain ⟨n, hv, hn, hp, hu, hl, hd⟩ := rd_back r g (k + 1) _ v u (by omega) (fun y hy => hb y (List.mem_cons_of_mem _ hy)) h
        have hp := hp (by omega)
        refine ⟨x % 128 + n * 128, ?_, ?_, fun _ => by omega, by omega, by simp; omega, ?_⟩
        · rw [hv, Nat.pow_succ, Nat.add_mul, Nat.add_assoc]
          congr 2
          rw [Nat.mul_comm (128 ^ k) 128, Nat.mul_assoc]
        · rw [Nat.pow_succ]
          have : (n + 1) * 128 ≤ 128 ^ g * 128 := Nat.mul_le_mul_right _ hn
          omega
        · rw [digs_big (by omega)]
          have e1 : (x % 128 + n * 128) % 128 + 128 = x := by omega
          have e2 : (x % 128 + n * 128) / 128 = n := by omega
          rw [e1, e2, hd]
          have e3 : u - k = u - (k + 1) + 1 := by omega
          rw [e3, List.take_succ_cons]
      · split at h
        · simp at h
        · rename_i h128 hz
          simp only [Prod.mk.injEq] at h
          refine ⟨x, ?_, ?_, fun hk0 => by omega, by omega, by simp; omega, ?_⟩
          · rw [← h.1, Nat.mod_eq_of_lt (by omega)]
          · rw [Nat.pow_succ]
            have : 1 ≤ 128 ^ g := Nat.pow_pos (by decide)
            omega
          · rw [digs_small (by omega)]
            have e3 : u - k = 1 := by omega
            rw [e3]
            simp
theorem dnum_digs {n : Nat} (h : n < 9223372036854775808) (r : List Nat) : dnum (digs 9 n ++ r) = (n, (digs 9 n).length, 0) := by
  have e := rd_digs 9 n 0 0 r rfl (by have : (128 : Nat) ^ 9 = 9223372036854775808 := by decide
                                      omega) (.inl rfl)
  rw [Nat.pow_zero, Nat.mul_one, Nat.zero_add, Nat.zero_add] at e
  unfold dnum
  rw [e]
  simp
theorem dnum_back {xs : List Nat} {n u : Nat} (hb : ∀ x ∈ xs, x < 256) (h : dnum xs = (n, u, 0)) : n < 9223372036854775808 ∧ u ≤ xs.length ∧ digs 9 n = xs.take u := by
  unfold dnum at h
  split at h
  · obtain ⟨m, hv, hm, _, _, hl, hd⟩ := rd_back xs 9 0 0 n u rfl hb h
    have e : (128 : Nat) ^ 9 = 9223372036854775808 := by decide
    rw [Nat.pow_zero, Nat.mul_one, Nat.zero_add] at hv
    subst hv
    exact ⟨by omega, by omega, by simpa using hd⟩
  · simp only [Prod.mk.injEq] at h
    have := h.2.2
    split at this <;> omega

/-- A link. -/
structure Lk where
  v : Int
  c : Nat
  h : Nat
  d : List Nat
def Lk.none : Lk := ⟨0, 0, 0, []⟩
/-- A digest that its hash may have. -/
def okd (h : Nat) (d : List Nat) : Prop := (h = 18 ∧ d.length = 32) ∨ (h = 0 ∧ d.length ≤ 64)
instance (h : Nat) (d : List Nat) : Decidable (okd h d) := inferInstanceAs (Decidable (_ ∨ _))
/-- A link that may be. -/
def lok (l : Lk) : Prop := (l.v = 0 ∧ l.c = 112 ∧ l.h = 18 ∧ l.d.length = 32) ∨ (l.v = 1 ∧ l.c < 9223372036854775808 ∧ okd l.h l.d)
instance (l : Lk) : Decidable (lok l) := inferInstanceAs (Decidable (_ ∨ _))
theorem lok_okd {l : Lk} (h : lok l) : okd l.h l.d := by
  rcases h with ⟨_, _, h1, h2⟩ | ⟨_, _, h⟩
  · exact .inl ⟨h1, h2⟩
  · exact h
theorem dlay_okd {h : Nat} {d : List Nat} : (dlay h d).2 = 0 ↔ okd h d := by
  unfold dlay okd
  split
  · simp
    omega
  · split
    · simp
      omega
    · simp
      omega
/-- A link's bytes (P4.4). -/
def lbytes (l : Lk) : List Nat := if l.v = 0 then l.h :: l.d.length :: l.d else 1 :: digs 9 l.c ++ (l.h :: l.d.length :: l.d)
/-- What digest.Read's error is here. -/
def lerr (e : Nat) : Nat := if e = 32 ∨ e = 33 then 42 else 43
/-- Row 3 of P4.5. -/
def lthird (v : Int) (c at' : Nat) (b : List Nat) : Lk × Nat × Nat := if (dread (b.drop at')).2.2.2 = 0 then (⟨v, c, (dread (b.drop at')).1, (dread (b.drop at')).2.1⟩, at' + (dread (b.drop at')).2.2.1, 0) else (Lk.none, 0, lerr (dread (b.drop at')).2.2.2)
/-- The link at the front (P4.5). -/
def lfirst (b : List Nat) : Lk × Nat × Nat :=
  if b.head? = some 18 then lthird 0 112 0 b
  else if (dnum b).2.2 ≠ 0 then (Lk.none, 0, 42) else if (dnum b).1 ≠ 1 then (Lk.none, 0, 41)
  else if (dnum (b.drop (dnum b).2.1)).2.2 ≠ 0 then (Lk.none, 0, 42)
  else lthird 1 (dnum (b.drop (dnum b).2.1)).1 ((dnum b).2.1 + (dnum (b.drop (dnum b).2.1)).2.1) b
/-- The link of bytes (P4.6). -/
def lparse (b : List Nat) : Lk × Nat := if (lfirst b).2.2 ≠ 0 then (Lk.none, (lfirst b).2.2) else if (lfirst b).2.1 < b.length then (Lk.none, 44) else ((lfirst b).1, 0)
theorem lfirst_bytes {l : Lk} (h : lok l) (ms : List Nat) : lfirst (lbytes l ++ ms) = (l, (lbytes l).length, 0) := by
  obtain ⟨v, c, hh, d⟩ := l
  have hk := lok_okd h
  simp only at hk
  have hr := dread_laid (ms := ms) hk
  rcases h with ⟨h1, h2, h3, h4⟩ | ⟨h1, h2, _⟩
  · simp only at h1 h2 h3 h4
    subst h1
    subst h2
    subst h3
    unfold lfirst lbytes
    simp only [if_true, List.cons_append, List.head?_cons]
    unfold lthird
    simp only [List.cons_append] at hr
    rw [List.drop_zero, hr]
    simp
    omega
  · simp only at h1 h2
    subst h1
    have e1 : lbytes ⟨1, c, hh, d⟩ = 1 :: (digs 9 c ++ (hh :: d.length :: d)) := rfl
    rw [e1]
    have n1 : dnum (1 :: (digs 9 c ++ (hh :: d.length :: d)) ++ ms) = (1, 1, 0) := by
      rw [List.cons_append]
      exact dnum_small (by decide) _
    have n2 : dnum ((1 :: (digs 9 c ++ (hh :: d.length :: d)) ++ ms).drop 1) = (c, (digs 9 c).length, 0) := by
      rw [List.cons_append, List.drop_succ_cons, List.drop_zero, List.append_assoc]
      exact dnum_digs h2 _
    have n3 : (1 :: (digs 9 c ++ (hh :: d.length :: d)) ++ ms).drop (1 + (digs 9 c).length) = hh :: d.length :: d ++ ms := by
      rw [List.cons_append, Nat.add_comm, List.drop_succ_cons, List.append_assoc, List.drop_append_of_le_length (Nat.le_refl _), List.drop_length, List.nil_append]
    unfold lfirst
    rw [if_neg (by simp), n1]
    simp only [ne_eq, not_true_eq_false, if_false]
    rw [n2]
    simp only [not_true_eq_false, if_false]
    unfold lthird
    rw [n3, hr]
    simp
    omega
theorem lparse_bytes {l : Lk} (h : lok l) : lparse (lbytes l) = (l, 0) := by
  have e := lfirst_bytes h []
  rw [List.append_nil] at e
  unfold lparse
  rw [e]
  simp
theorem lparse_left {l : Lk} (h : lok l) (x : Nat) : lparse (lbytes l ++ [x]) = (Lk.none, 44) := by
  have e := lfirst_bytes h [x]
  unfold lparse
  rw [e]
  simp
end
section
open Go.RowKit Go
theorem lthird_back {v : Int} {c a n : Nat} {b : List Nat} {l : Lk} (h : lthird v c a b = (l, n, 0)) : okd l.h l.d ∧ l.v = v ∧ l.c = c ∧ a ≤ n ∧ n - a ≤ (b.drop a).length ∧ l.h :: l.d.length :: l.d = (b.drop a).take (n - a) := by
  unfold lthird at h
  split at h
  · rename_i h0
    simp only [Prod.mk.injEq] at h
    obtain ⟨h1, h2, _⟩ := h
    have hb := dread_back h0
    have hk : okd (dread (b.drop a)).1 (dread (b.drop a)).2.1 := dlay_okd.1 (by rw [hb.2.1])
    have hd := dlay_ok hk
    rw [hd] at hb
    subst h1
    have e : n - a = (dread (b.drop a)).2.2.1 := by omega
    refine ⟨hk, rfl, rfl, by omega, by omega, ?_⟩
    rw [e]
    exact congrArg Prod.fst hb.2.1
  · rename_i h0
    simp only [Prod.mk.injEq] at h
    have := h.2.2
    unfold lerr at this
    split at this <;> omega
theorem lfirst_back {b : List Nat} {l : Lk} {n : Nat} (hb : ∀ x ∈ b, x < 256) (h : lfirst b = (l, n, 0)) : lok l ∧ n ≤ b.length ∧ lbytes l = b.take n := by
  unfold lfirst at h
  split at h
  · rename_i h18
    obtain ⟨hk, hv, hc, _, hn, he⟩ := lthird_back h
    rw [List.drop_zero, Nat.sub_zero] at hn he
    have hh : l.h = 18 := by
      cases b with
      | nil => simp at h18
      | cons x b =>
        simp at h18
        subst h18
        cases n with
        | zero => simp at he
        | succ n =>
          rw [List.take_succ_cons] at he
          injection he
    have hd : l.d.length = 32 := by
      rcases hk with h1 | h1
      · exact h1.2
      · omega
    refine ⟨.inl ⟨hv, hc, hh, hd⟩, hn, ?_⟩
    unfold lbytes
    rw [if_pos hv]
    exact he
  · split at h
    · simp at h
    · rename_i hn1
      split at h
      · simp at h
      · rename_i hv1
        split at h
        · simp at h
        · rename_i hn2
          generalize hd1 : dnum b = r1 at *
          obtain ⟨v1, u1, e1⟩ := r1
          simp only [ne_eq, Decidable.not_not] at hn1 hv1 hn2 h
          subst hn1
          subst hv1
          generalize hd2 : dnum (b.drop u1) = r2 at *
          obtain ⟨c2, u2, e2⟩ := r2
          simp only at hn2 h
          subst hn2
          have d1 := dnum_back hb hd1
          have d2 := dnum_back (fun x hx => hb x (List.mem_of_mem_drop hx)) hd2
          obtain ⟨hk, hv, hc, ha, hn, he⟩ := lthird_back h
          have f1 : u1 = 1 := by
            have := congrArg List.length d1.2.2
            rw [digs_small (by decide), List.length_take] at this
            simp at this
            omega
          rw [List.length_drop] at d2 hn
          refine ⟨.inr ⟨hv, by rw [hc]; exact d2.1, hk⟩, by omega, ?_⟩
          unfold lbytes
          rw [if_neg (by rw [hv]; decide), hc, he, d2.2.2]
          have g1 : [1] = b.take u1 := by rw [← d1.2.2, digs_small (by decide)]
          have g2 : (1 : Nat) :: (b.drop u1).take u2 = b.take (u1 + u2) := by
            rw [List.take_add, ← g1]
            rfl
          rw [g2]
          have g3 : b.take n = b.take ((u1 + u2) + (n - (u1 + u2))) := by
            congr 1
            omega
          rw [g3, List.take_add (i := u1 + u2)]
theorem lparse_back {b : List Nat} {l : Lk} (hb : ∀ x ∈ b, x < 256) (h : lparse b = (l, 0)) : lok l ∧ lbytes l = b := by
  unfold lparse at h
  split at h
  · rename_i h0
    simp only [Prod.mk.injEq] at h
    exact absurd h.2 h0
  · split at h
    · simp at h
    · rename_i h0 h1
      simp only [Prod.mk.injEq, and_true] at h
      simp only [ne_eq, Decidable.not_not] at h0
      have e : lfirst b = (l, (lfirst b).2.1, 0) := by
        rw [← h, ← h0]
      obtain ⟨h2, h3, h4⟩ := lfirst_back hb e
      refine ⟨h2, ?_⟩
      rw [h4, List.take_of_length_le (by omega)]
/-- No link's bytes are the beginning of another's. -/
theorem lbytes_free {l m : Lk} (hl : lok l) (hm : lok m) {r : List Nat} (h : lbytes l ++ r = lbytes m) : l = m ∧ r = [] := by
  have e1 := lfirst_bytes hl r
  have e2 := lfirst_bytes hm []
  rw [List.append_nil] at e2
  rw [h, e2] at e1
  simp only [Prod.mk.injEq, and_true] at e1
  refine ⟨e1.1.symm, ?_⟩
  have := congrArg List.length h
  rw [List.length_append, e1.2] at this
  exact List.eq_nil_of_length_eq_zero (by omega)
theorem lbytes_inj {l m : Lk} (hl : lok l) (hm : lok m) (h : lbytes l = lbytes m) : l = m := (lbytes_free hl hm (r := []) (by rw [List.append_nil]; exact h)).1
theorem lbytes_len {l : Lk} (h : lok l) : (lbytes l).length ≤ 76 := by
  have hk := lok_okd h
  have hd := digs_len 9 l.c
  unfold lbytes
  unfold okd at hk
  split
  · simp
    omega
  · simp
    omega
end
section
open Go.RowKit Go
/-- The digits of the bases. -/
def d16 : List Nat := [48, 49, 50, 51, 52, 53, 54, 55, 56, 57, 97, 98, 99, 100, 101, 102]
def d32 : List Nat := [97, 98, 99, 100, 101, 102, 103, 104, 105, 106, 107, 108, 109, 110, 111, 112, 113, 114, 115, 116, 117, 118, 119, 120, 121, 122, 50, 51, 52, 53, 54, 55]
def d58 : List Nat := [49, 50, 51, 52, 53, 54, 55, 56, 57, 65, 66, 67, 68, 69, 70, 71, 72, 74, 75, 76, 77, 78, 80, 81, 82, 83, 84, 85, 86, 87, 88, 89, 90, 97, 98, 99, 100, 101, 102, 103, 104, 105, 106, 107, 109, 110, 111, 112, 113, 114, 115, 116, 117, 118, 119, 120, 121, 122]
/-- What a digit stands for. -/
def look : List Nat → Nat → Option Nat
  | [], _ => none
  | x :: t, c => if x = c then some 0 else (look t c).map (· + 1)
theorem look_get : ∀ {t : List Nat} {c i : Nat}, look t c = some i → i < t.length ∧ t.getD i 0 = c
  | [], _, _, h => by simp [look] at h
  | x :: t, c, i, h => by
    unfold look at h
    split at h
    · rename_i hx
      injection h with h
      subst h
      subst hx
      simp
    · obtain ⟨j, hj, rfl⟩ := Option.map_eq_some_iff.1 h
      have := look_get hj
      simp
      exact ⟨this.1, by simpa using this.2⟩
theorem look16 : ∀ i, i < 16 → look d16 (d16.getD i 0) = some i := by decide
theorem look32 : ∀ i, i < 32 → look d32 (d32.getD i 0) = some i := by decide
theorem look58 : ∀ i, i < 58 → look d58 (d58.getD i 0) = some i := by decide
/-- What all digits stand for. -/
def looks (t : List Nat) : List Nat → Option (List Nat)
  | [] => some []
  | c :: s => (look t c).bind fun i => (looks t s).map (i :: ·)
theorem looks_map {t : List Nat} (ht : ∀ i, i < t.length → look t (t.getD i 0) = some i) : ∀ {l : List Nat}, (∀ i ∈ l, i < t.length) → looks t (l.map (t.getD · 0)) = some l
  | [], _ => rfl
  | i :: l, h => by
    rw [List.map_cons, looks, ht i (h i (by simp)), Option.bind_some, looks_map ht (fun j hj => h j (List.mem_cons_of_mem _ hj))]
    rfl
theorem looks_back {t : List Nat} : ∀ {s l : List Nat}, looks t s = some l → l.map (t.getD · 0) = s ∧ ∀ i ∈ l, i < t.length
  | [], l, h => by
    simp [looks] at h
    subst h
    simp
  | c :: s, l, h => by
    unfold looks at h
    obtain ⟨i, hi, h⟩ := Option.bind_eq_some_iff.1 h
    obtain ⟨m, hm, rfl⟩ := Option.map_eq_some_iff.1 h
    have h1 := look_get hi
    have h2 := looks_back hm
    refine ⟨by rw [List.map_cons, h1.2, h2.1], fun j hj => ?_⟩
    rcases List.mem_cons.1 hj with e | e
    · subst e
      exact h1.1
    · exact h2.2 j e
theorem grp_lt {w : Nat} (hw : 0 < w) : ∀ (k : Nat) (l : List Nat), l.length ≤ k → (∀ d ∈ l, d < 2) → ∀ x ∈ grp w l, x < 2 ^ w
  | 0, l, hk, _, x, hx => by
    rw [grp_short (by omega)] at hx
    simp at hx
  | k + 1, l, hk, hd, x, hx => by
    rw [grp] at hx
    split at hx
    · simp at hx
    · rename_i h
      rcases List.mem_cons.1 hx with e | e
      · subst e
        have := valB_lt (b := 2) (by decide) (l := l.take w) (fun d h => hd d (List.mem_of_mem_take h))
        rwa [List.length_take, Nat.min_eq_left (by omega)] at this
      · exact grp_lt hw k (l.drop w) (by rw [List.length_drop]; omega) (fun d h => hd d (List.mem_of_mem_drop h)) x e
theorem encW_lt {w : Nat} (hw : 0 < w) (b : List Nat) : ∀ x ∈ encW w b, x < 2 ^ w := grp_lt hw _ _ (Nat.le_refl _) (fun d hd => by
  rcases List.mem_append.1 hd with h | h
  · exact flat_lt 8 b d h
  · have := List.eq_of_mem_replicate h
    omega)
theorem decW_lt (w : Nat) (b : List Nat) : ∀ x ∈ decW w b, x < 256 := grp_lt (w := 8) (by decide) _ _ (Nat.le_refl _) (flat_lt w b)
/-- Bytes in a base: 16, 32, 58. -/
def of16 (b : List Nat) : List Nat := (encW 4 b).map (d16.getD · 0)
def of32 (b : List Nat) : List Nat := (encW 5 b).map (d32.getD · 0)
def of58 (b : List Nat) : List Nat := (conv 256 58 b).map (d58.getD · 0)
/-- The bytes of a text in a base; none: it is none there. -/
def in16 (s : List Nat) : Option (List Nat) := (looks d16 s).bind fun l => if of16 (decW 4 l) = s then some (decW 4 l) else none
def in32 (s : List Nat) : Option (List Nat) := (looks d32 s).bind fun l => if of32 (decW 5 l) = s then some (decW 5 l) else none
def in58 (s : List Nat) : Option (List Nat) := (looks d58 s).map (conv 58 256)
theorem in16_of {b : List Nat} (hb : ∀ x ∈ b, x < 256) : in16 (of16 b) = some b := by
  unfold in16
  have h : looks d16 (of16 b) = some (encW 4 b) := looks_map (t := d16) look16 (encW_lt (by decide) b)
  rw [h, Option.bind_some, dec_enc (by decide) (by decide) hb, if_pos rfl]
theorem in32_of {b : List Nat} (hb : ∀ x ∈ b, x < 256) : in32 (of32 b) = some b := by
  unfold in32
  have h : looks d32 (of32 b) = some (encW 5 b) := looks_map (t := d32) look32 (encW_lt (by decide) b)
  rw [h, Option.bind_some, dec_enc (by decide) (by decide) hb, if_pos rfl]
theorem in58_of {b : List Nat} (hb : ∀ x ∈ b, x < 256) : in58 (of58 b) = some b := by
  unfold in58
  have h : looks d58 (of58 b) = some (conv 256 58 b) := looks_map (t := d58) look58 (conv_lt (by decide) b)
  rw [h, Option.map_some, conv_conv (by decide) (by decide) hb]
theorem of16_in {s b : List Nat} (h : in16 s = some b) : of16 b = s ∧ ∀ x ∈ b, x < 256 := by
  unfold in16 at h
  obtain ⟨l, hl, h⟩ := Option.bind_eq_some_iff.1 h
  split at h
  · injection h with h
    subst h
    exact ⟨by assumption, decW_lt 4 l⟩
  · cases h
theorem of32_in {s b : List Nat} (h : in32 s = some b) : of32 b = s ∧ ∀ x ∈ b, x < 256 := by
  unfold in32 at h
  obtain ⟨l, hl, h⟩ := Option.bind_eq_some_iff.1 h
  split at h
  · injection h with h
    subst h
    exact ⟨by assumption, decW_lt 5 l⟩
  · cases h
theorem of58_in {s b : List Nat} (h : in58 s = some b) : of58 b = s ∧ ∀ x ∈ b, x < 256 := by
  unfold in58 at h
  obtain ⟨l, hl, rfl⟩ := Option.map_eq_some_iff.1 h
  have h2 := looks_back hl
  refine ⟨?_, conv_lt (by decide) l⟩
  unfold of58
  rw [conv_conv (a := 58) (b := 256) (by decide) (by decide) h2.2]
  exact h2.1
/-- A link's texts (P4.8). -/
def ltextin (l : Lk) (base : Nat) : List Nat := if base = 1 then 102 :: of16 (lbytes l) else if base = 2 then 98 :: of32 (lbytes l) else 122 :: of58 (lbytes l)
def ltext (l : Lk) : List Nat := if l.v = 0 then of58 (lbytes l) else ltextin l 2
/-- The bytes that a text is, and the version that it wants. -/
def ltake : List Nat → Option (Int × List Nat)
  | 81 :: s => (in58 (81 :: s)).map fun b => (0, b)
  | 102 :: s => (in16 s).map fun b => (1, b)
  | 98 :: s => (in32 s).map fun b => (1, b)
  | 122 :: s => (in58 s).map fun b => (1, b)
  | _ => none
/-- The link of a text (P4.9). -/
def lparsetext (s : List Nat) : Lk × Nat :=
  if 153 < s.length then (Lk.none, 46)
  else if s.head? ≠ some 81 ∧ s.head? ≠ some 102 ∧ s.head? ≠ some 98 ∧ s.head? ≠ some 122 then (Lk.none, 45)
  else match ltake s with
    | none => (Lk.none, 46)
    | some (v, b) => if (lparse b).2 ≠ 0 then (Lk.none, (lparse b).2) else if (lparse b).1.v ≠ v then (Lk.none, 41) else ((lparse b).1, 0)
theorem lbytes_byte {l : Lk} (h : lok l) (hd : ∀ x ∈ l.d, x < 256) : ∀ x ∈ lbytes l, x < 256 := by
  have hk := lok_okd h
  have hdg : ∀ (f n : Nat), ∀ x ∈ digs f n, x < 256 := by
    intro f
    induction f with
    | zero => intro n x hx; simp [digs] at hx
    | succ f ih =>
      intro n x hx
      unfold digs at hx
      split at hx
      · simp at hx
        omega
      · rcases List.mem_cons.1 hx with e | e
        · omega
        · exact ih _ x e
  have hrow : ∀ x ∈ l.h :: l.d.length :: l.d, x < 256 := fun x hx => by
    unfold okd at hk
    simp only [List.mem_cons] at hx
    rcases hx with e | e | e
    · omega
    · omega
    · exact hd x e
  intro x hx
  unfold lbytes at hx
  split at hx
  · exact hrow x hx
  · rcases List.mem_append.1 hx with e | e
    · rcases List.mem_cons.1 e with e | e
      · omega
      · exact hdg 9 l.c x e
    · exact hrow x e
/-- A number's highest digit. -/
theorem digB_first {b q : Nat} (hb : 2 ≤ b) (hq : 0 < q) (hqb : q < b) : ∀ (k n : Nat), q * b ^ k ≤ n → n < (q + 1) * b ^ k → (digB b n).head? = some q
  | 0, n, h1, h2 => by
    rw [Nat.pow_zero, Nat.mul_one] at h1 h2
    have e : n = q := by omega
    subst e
    rw [digB_pos hb hq, Nat.div_eq_of_lt hqb, digB_zero, Nat.mod_eq_of_lt hqb]
    rfl
  | k + 1, n, h1, h2 => by
    have hp : 0 < b ^ k := Nat.pow_pos (by omega)
    have hm : 0 < q * b ^ k := Nat.mul_pos hq hp
    rw [Nat.pow_succ, ← Nat.mul_assoc] at h1 h2
    have h3 : q * b ^ k ≤ n / b := (Nat.le_div_iff_mul_le (by omega)).2 h1
    have h4 : n / b < (q + 1) * b ^ k := Nat.div_lt_of_lt_mul (by rw [Nat.mul_comm]; exact h2)
    have hn : 0 < n := Nat.lt_of_lt_of_le (Nat.mul_pos hm (by omega)) h1
    have ih := digB_first hb hq hqb k (n / b) h3 h4
    rw [digB_pos hb hn]
    cases hd : digB b (n / b) with
    | nil => rw [hd] at ih; simp at ih
    | cons x l => rw [hd] at ih; simpa using ih
theorem of58_old {l : Lk} (h : lok l) (hv : l.v = 0) (hd : ∀ x ∈ l.d, x < 256) : ∃ s, of58 (lbytes l) = 81 :: s := by
  rcases h with ⟨_, _, h3, h4⟩ | ⟨h1, _⟩
  · have e : lbytes l = 18 :: 32 :: l.d := by unfold lbytes; rw [if_pos hv, h3, h4]
    have hval : valB 256 (18 :: 32 :: l.d) = 18 * 256 ^ 33 + (32 * 256 ^ 32 + valB 256 l.d) := by
      rw [valB_cons, valB_cons, List.length_cons, h4]
    have hlt := valB_lt (b := 256) (by decide) hd
    rw [h4] at hlt
    have hf := digB_first (b := 58) (q := 23) (by decide) (by decide) (by decide) 45 (18 * 256 ^ 33 + (32 * 256 ^ 32 + valB 256 l.d))
      (Nat.le_trans (show 23 * 58 ^ 45 ≤ 18 * 256 ^ 33 + 32 * 256 ^ 32 by decide) (by omega)) (Nat.lt_of_lt_of_le (show _ < 18 * 256 ^ 33 + 33 * 256 ^ 32 by omega) (show 18 * 256 ^ 33 + 33 * 256 ^ 32 ≤ (23 + 1) * 58 ^ 45 by decide))
    unfold of58 conv
    rw [e]
    have t1 : (18 :: 32 :: l.d).takeWhile (· == 0) = [] := by simp
    have t2 : (18 :: 32 :: l.d).dropWhile (· == 0) = 18 :: 32 :: l.d := by simp
    rw [t1, t2, hval]
    cases hg : digB 58 (18 * 256 ^ 33 + (32 * 256 ^ 32 + valB 256 l.d)) with
    | nil => rw [hg] at hf; simp at hf
    | cons x m =>
      rw [hg] at hf
      simp at hf
      subst hf
      exact ⟨m.map (d58.getD · 0), rfl⟩
  · rw [hv] at h1
    cases h1
end
section
open Go.RowKit Go
theorem grp_len {w : Nat} (hw : 0 < w) : ∀ (k : Nat) (l : List Nat), l.length ≤ k → (grp w l).length = l.length / w
  | 0, l, hk => by
    rw [grp_short (by omega), Nat.div_eq_of_lt (by omega)]
    rfl
  | k + 1, l, hk => by
    rw [grp]
    split
    · rw [Nat.div_eq_of_lt (by omega)]
      rfl
    · rename_i h
      rw [List.length_cons, grp_len hw k (l.drop w) (by rw [List.length_drop]; omega), List.length_drop]
      have : l.length = l.length - w + w := by omega
      rw [this, Nat.add_sub_cancel, Nat.add_div_right _ hw]
theorem of16_len (b : List Nat) : (of16 b).length = 2 * b.length := by
  unfold of16 encW
  rw [List.length_map, grp_len (by decide) _ _ (Nat.le_refl _), List.length_append, flat_len, List.length_replicate]
  omega
theorem of32_len (b : List Nat) : (of32 b).length ≤ 2 * b.length := by
  unfold of32 encW
  rw [List.length_map, grp_len (by decide) _ _ (Nat.le_refl _), List.length_append, flat_len, List.length_replicate]
  omega
theorem digB_len {b : Nat} (hb : 2 ≤ b) : ∀ (k n : Nat), n < b ^ k → (digB b n).length ≤ k
  | 0, n, h => by
    rw [Nat.pow_zero] at h
    have e : n = 0 := by omega
    subst e
    rw [digB_zero]
    simp
  | k + 1, n, h => by
    by_cases hn : n = 0
    · subst hn
      rw [digB_zero]
      simp
    · rw [digB_pos hb (by omega), List.length_append, List.length_singleton]
      have := digB_len hb k (n / b) (Nat.div_lt_of_lt_mul (by rw [Nat.pow_succ, Nat.mul_comm] at h; exact h))
      omega
theorem of58_len {b : List Nat} (hb : ∀ x ∈ b, x < 256) : (of58 b).length ≤ 2 * b.length := by
  unfold of58 conv
  rw [List.length_map, List.length_append, List.length_replicate]
  have hd : ∀ x ∈ b.dropWhile (· == 0), x < 256 := fun x hx => hb x ((List.dropWhile_suffix _).subset hx)
  have hlt := valB_lt (b := 256) (by decide) hd
  have hp : (256 : Nat) ^ (b.dropWhile (· == 0)).length ≤ 58 ^ (2 * (b.dropWhile (· == 0)).length) := by
    rw [Nat.pow_mul]
    exact Nat.pow_le_pow_left (by decide) _
  have h1 := digB_len (b := 58) (by decide) _ _ (Nat.lt_of_lt_of_le hlt hp)
  have h2 := congrArg List.length (List.takeWhile_append_dropWhile (p := (· == 0)) (l := b))
  rw [List.length_append] at h2
  omega
theorem ltextin_len {l : Lk} (h : lok l) (hd : ∀ x ∈ l.d, x < 256) (base : Nat) : (ltextin l base).length ≤ 153 := by
  have h1 := lbytes_len h
  have h2 := of16_len (lbytes l)
  have h3 := of32_len (lbytes l)
  have h4 := of58_len (lbytes_byte h hd)
  unfold ltextin
  split
  · simp
    omega
  · split
    · simp
      omega
    · simp
      omega
theorem ltext_len {l : Lk} (h : lok l) (hd : ∀ x ∈ l.d, x < 256) : (ltext l).length ≤ 153 := by
  have h1 := lbytes_len h
  have h4 := of58_len (lbytes_byte h hd)
  unfold ltext
  split
  · omega
  · exact ltextin_len h hd 2
theorem lparsetext_in {l : Lk} (h : lok l) (hd : ∀ x ∈ l.d, x < 256) (hv : l.v = 1) (base : Nat) : lparsetext (ltextin l base) = (l, 0) := by
  have hb := lbytes_byte h hd
  have hl := ltextin_len h hd base
  have hp := lparse_bytes h
  unfold lparsetext
  rw [if_neg (by omega)]
  have ht : ltake (ltextin l base) = some (1, lbytes l) ∧ ((ltextin l base).head? = some 102 ∨ (ltextin l base).head? = some 98 ∨ (ltextin l base).head? = some 122) := by
    unfold ltextin
    split
    · exact ⟨by show (in16 _).map _ = _; rw [in16_of hb]; rfl, .inl rfl⟩
    · split
      · exact ⟨by show (in32 _).map _ = _; rw [in32_of hb]; rfl, .inr (.inl rfl)⟩
      · exact ⟨by show (in58 _).map _ = _; rw [in58_of hb]; rfl, .inr (.inr rfl)⟩
  rw [if_neg (by rcases ht.2 with e | e | e <;> simp [e]), ht.1]
  simp only [hp]
  simp [hv]
theorem lparsetext_text {l : Lk} (h : lok l) (hd : ∀ x ∈ l.d, x < 256) : lparsetext (ltext l) = (l, 0) := by
  by_cases hv : l.v = 0
  · have hb := lbytes_byte h hd
    have hl := ltext_len h hd
    have hp := lparse_bytes h
    obtain ⟨s, hs⟩ := of58_old h hv hd
    have e : ltext l = 81 :: s := by unfold ltext; rw [if_pos hv]; exact hs
    have hi := in58_of hb
    rw [hs] at hi
    unfold lparsetext
    rw [if_neg (by omega), e, if_neg (by simp)]
    have ht : ltake (81 :: s) = some (0, lbytes l) := by show (in58 (81 :: s)).map _ = _; rw [hi]; rfl
    rw [ht]
    simp only [hp]
    simp [hv]
  · have hv1 : l.v = 1 := by
      rcases h with h | h
      · exact absurd h.1 hv
      · exact h.1
    unfold ltext
    rw [if_neg hv]
    exact lparsetext_in h hd hv1 2
/-- What is read of a text has just that text, or one of its texts in a base. -/
theorem lparsetext_back {s : List Nat} {l : Lk} (h : lparsetext s = (l, 0)) : lok l ∧ (∀ x ∈ l.d, x < 256) ∧ (s = ltext l ∨ (l.v = 1 ∧ ∃ base, 1 ≤ base ∧ base ≤ 3 ∧ s = ltextin l base)) := by
  unfold lparsetext at h
  split at h
  · simp at h
  · split at h
    · simp at h
    · rename_i hne
      cases ht : ltake s with
      | none => rw [ht] at h; simp at h
      | some p =>
        obtain ⟨v, b⟩ := p
        rw [ht] at h
        simp only at h
        split at h
        · rename_i h0
          simp only [Prod.mk.injEq] at h
          exact absurd h.2 h0
        · split at h
          · simp at h
          · rename_i h0 hv
            simp only [Prod.mk.injEq, and_true] at h
            simp only [ne_eq, Decidable.not_not] at h0 hv
            rw [h] at hv
            have hp : lparse b = (l, 0) := by rw [← h, ← h0]
            have key : ∀ {t : List Nat}, (∀ x ∈ b, x < 256) → lok l ∧ lbytes l = b := fun hb => lparse_back hb hp
            have dby : (∀ x ∈ b, x < 256) → lbytes l = b → ∀ x ∈ l.d, x < 256 := fun hb e x hx => hb x (by
              rw [← e]
              unfold lbytes
              split
              · simp [hx]
              · simp [hx])
            unfold ltake at ht
            split at ht
            · rename_i s'
              obtain ⟨b', hb', e⟩ := Option.map_eq_some_iff.1 ht
              simp only [Prod.mk.injEq] at e
              obtain ⟨e1, e2⟩ := e
              subst e2
              have g := of58_in hb'
              have k := key (t := []) g.2
              refine ⟨k.1, dby g.2 k.2, .inl ?_⟩
              unfold ltext
              rw [if_pos (by rw [hv, ← e1]), k.2]
              exact g.1.symm
            · rename_i s'
              obtain ⟨b', hb', e⟩ := Option.map_eq_some_iff.1 ht
              simp only [Prod.mk.injEq] at e
              obtain ⟨e1, e2⟩ := e
              subst e2
              have g := of16_in hb'
              have k := key (t := []) g.2
              refine ⟨k.1, dby g.2 k.2, .inr ⟨by rw [hv, ← e1], 1, by decide, by decide, ?_⟩⟩
              unfold ltextin
              rw [if_pos rfl, k.2, g.1]
            · rename_i s'
              obtain ⟨b', hb', e⟩ := Option.map_eq_some_iff.1 ht
              simp only [Prod.mk.injEq] at e
              obtain ⟨e1, e2⟩ := e
              subst e2
              have g := of32_in hb'
              have k := key (t := []) g.2
              refine ⟨k.1, dby g.2 k.2, .inr ⟨by rw [hv, ← e1], 2, by decide, by decide, ?_⟩⟩
              unfold ltextin
              rw [if_neg (by decide), if_pos rfl, k.2, g.1]
            · rename_i s'
              obtain ⟨b', hb', e⟩ := Option.map_eq_some_iff.1 ht
              simp only [Prod.mk.injEq] at e
              obtain ⟨e1, e2⟩ := e
              subst e2
              have g := of58_in hb'
              have k := key (t := []) g.2
              refine ⟨k.1, dby g.2 k.2, .inr ⟨by rw [hv, ← e1], 3, by decide, by decide, ?_⟩⟩
              unfold ltextin
              rw [if_neg (by decide), if_neg (by decide), k.2, g.1]
            · cases ht
theorem ltext_inj {l m : Lk} (hl : lok l) (hm : lok m) (dl : ∀ x ∈ l.d, x < 256) (dm : ∀ x ∈ m.d, x < 256) (h : ltext l = ltext m) : l = m := by
  have e1 := lparsetext_text hl dl
  have e2 := lparsetext_text hm dm
  rw [h, e2] at e1
  simp only [Prod.mk.injEq, and_true] at e1
  exact e1.symm
end
section
open Go.RowKit Go
theorem below_alloc4 (w : World) (o : Obj) : Below w.heap.size w (w.alloc o) := (Below.refl _ _).alloc (Nat.le_refl _) _
set_option maxRecDepth 1000000 in
set_option maxHeartbeats 1000000 in
theorem refCheck_any (w : World) (v : Int) (c h : Nat) (s : ByteArray) (hh : h < 18446744073709551616) (hs : s.size ≤ 9223372036854775807) :
    Calls Tryz.prog 8 #[.agg #[.int .i64 v, .int .u64 (c : Nat), .int .u64 (h : Nat), .string s]] w fun e w' => e = .returned (.int .i64 (if lok ⟨v, c, h, sl s⟩ then 0 else 40)) ∧ Below w.heap.size w w' := by
  generalize hR : (if lok ⟨v, c, h, sl s⟩ then (0 : Int) else 40) = R
  have HR := hide hR
  have HSL := hide (sl_len s)
  clear hR
  by_cases hv0 : v = 0
  · subst hv0
    have HE : Hid (lok ⟨0, c, h, sl s⟩ ↔ c = 112 ∧ h = 18 ∧ s.size = 32) := by
      show _ ↔ _
      unfold lok
      simp [sl_len]
    by_cases h1 : c = 112
    · by_cases h2 : h = 18
      · by_cases h3 : s.size = 32
        · have HZ : Hid (R = 0) := by show _ = _; rw [← HR.out, if_pos (HE.out.2 ⟨h1, h2, h3⟩)]
          subst h1
          subst h2
          have g3 : ((s.size : Int) == 32) = true := beq_iff_eq.2 (by omega)
          clear h3 HE HR
          go_enter Tryz.func8, Tryz.ntmps8
          go_wp2_with fail
          go_ret
          exact ⟨by rw [HZ.out]; rfl, below_alloc4 w _⟩
        · have HZ : Hid (R = 40) := by show _ = _; rw [← HR.out, if_neg (fun e => h3 (HE.out.1 e).2.2)]
          subst h1
          subst h2
          have g3 : ((s.size : Int) == 32) = false := beq_eq_false_iff_ne.2 (by omega)
          clear h3 HE HR
          go_enter Tryz.func8, Tryz.ntmps8
          go_wp2_with fail
          go_ret
          exact ⟨by rw [HZ.out]; rfl, below_alloc4 w _⟩
      · have HZ : Hid (R = 40) := by show _ = _; rw [← HR.out, if_neg (fun e => h2 (HE.out.1 e).2.1)]
        subst h1
        have g3 : ((h : Int) == 18) = false := beq_eq_false_iff_ne.2 (by omega)
        clear h2 HE HR
        go_enter Tryz.func8, Tryz.ntmps8
        go_wp2_with fail
        go_ret
        exact ⟨by rw [HZ.out]; rfl, below_alloc4 w _⟩
    · have HZ : Hid (R = 40) := by show _ = _; rw [← HR.out, if_neg (fun e => h1 (HE.out.1 e).1)]
      have g3 : ((c : Int) == 112) = false := beq_eq_false_iff_ne.2 (by omega)
      clear h1 HE HR
      go_enter Tryz.func8, Tryz.ntmps8
      go_wp2_with fail
      go_ret
      exact ⟨by rw [HZ.out]; rfl, below_alloc4 w _⟩
  · have g0 : (v == 0) = false := beq_eq_false_iff_ne.2 hv0
    by_cases hv1 : v = 1
    · subst hv1
      have HE : Hid (lok ⟨1, c, h, sl s⟩ ↔ c < 9223372036854775808 ∧ (dlay h (sl s)).2 = 0) := by as_aux_lemma =>
        show _ ↔ _
        rw [dlay_okd]
        unfold lok
        simp
      have cv := conv_sb (w.alloc (.cells #[.int .i64 1, .int .u64 (c : Nat), .int .u64 (h : Nat), .string s] 61)) s
      have hb0 := below_alloc4 w (.cells #[.int .i64 1, .int .u64 (c : Nat), .int .u64 (h : Nat), .string s] 61)
      have HB1 : Hid (Below w.heap.size w (Lib.bytesWorld (w.alloc (.cells #[.int .i64 1, .int .u64 (c : Nat), .int .u64 (h : Nat), .string s] 61)) 5 s)) := hb0.trans ((conv_sb_below _ s).mono hb0.size)
      have HS1 := hide (conv_sb_bsl (w.alloc (.cells #[.int .i64 1, .int .u64 (c : Nat), .int .u64 (h : Nat), .string s] 61)) s hs)
      have q1 : (Lib.bytesWorld (w.alloc (.cells #[.int .i64 1, .int .u64 (c : Nat), .int .u64 (h : Nat), .string s] 61)) 5 s).heap[w.heap.size]? = some (.cells #[.int .i64 1, .int .u64 (c : Nat), .int .u64 (h : Nat), .string s] 61 (0, 0)) := by
        rw [Lib.bytesWorld_at_old _ _ _ _ (by simp)]
        exact heap_alloc_new w _
      have HQ1 := hide q1
      have hz0 : (w.alloc (.cells #[.int .i64 1, .int .u64 (c : Nat), .int .u64 (h : Nat), .string s] 61)).heap.size = w.heap.size + 1 := by simp
      rw [hz0] at HS1
      clear hb0 q1 hv0 g0 hz0
      generalize hn : (c : Int) = n at *
      have HN := hide hn
      clear hn
      go_enter Tryz.func8, Tryz.ntmps8
      go_wp2_with fail
      clear cv
      generalize grownCap (w.alloc (.cells #[.int .i64 1, .int .u64 n, .int .u64 (h : Nat), .string s] 61)) s.size 0 5 = G at *
      generalize Lib.bytesWorld (w.alloc (.cells #[.int .i64 1, .int .u64 n, .int .u64 (h : Nat), .string s] 61)) 5 s = w1 at *
      refine (refDLay_any w1 h _ (sl s) hh HS1.out).mono ?_
      rintro e w2 ⟨v2, rfl, _, hb2⟩
      have HB2 : Hid (Below w.heap.size w w2) := HB1.out.trans (hb2.mono HB1.out.size)
      have q1 : w2.cell? ⟨w.heap.size, 1, none⟩ = some (.int .u64 n) := blk_cell ((hb2.block _ (blk_lt HQ1.out)).trans HQ1.out) rfl
      clear hb2 HS1 HB1 HQ1
      by_cases hc63 : n < 9223372036854775808
      · by_cases hl0 : (dlay h (sl s)).2 = 0
        · as_aux_lemma =>
          have HZ : Hid (R = 0) := by show _ = _; rw [← HR.out, if_pos (HE.out.2 ⟨by have := HN.out; omega, hl0⟩)]
          rw [hl0]
          clear HE HR HN
          go_wp2_with fail
          go_ret
          exact ⟨by rw [HZ.out]; rfl, HB2.out⟩
        · as_aux_lemma =>
          have HZ : Hid (R = 40) := by show _ = _; rw [← HR.out, if_neg (fun e => hl0 (HE.out.1 e).2)]
          have g3 : (((dlay h (sl s)).2 : Int) == 0) = false := beq_eq_false_iff_ne.2 (by omega)
          generalize (dlay h (sl s)).2 = E at *
          clear HE HR HN
          go_wp2_with fail
          go_ret
          exact ⟨by rw [HZ.out]; rfl, HB2.out⟩
      · as_aux_lemma =>
        have HZ : Hid (R = 40) := by show _ = _; rw [← HR.out, if_neg (fun e => hc63 (by have := (HE.out.1 e).1; have := HN.out; omega))]
        have g2' : (9223372036854775808 : Int) ≤ n := by omega
        generalize (dlay h (sl s)).2 = E at *
        clear HE HR HN hc63
        go_wp2_with fail
        go_ret
        exact ⟨by rw [HZ.out]; rfl, HB2.out⟩
    · have g1 : (v == 1) = false := beq_eq_false_iff_ne.2 hv1
      have HZ : Hid (R = 40) := by
        show _ = _
        rw [← HR.out, if_neg]
        rintro (h1 | h1)
        · exact hv0 h1.1
        · exact hv1 h1.1
      clear HR
      go_enter Tryz.func8, Tryz.ntmps8
      go_wp2_with fail
      go_ret
      exact ⟨by rw [HZ.out]; rfl, below_alloc4 w _⟩
end
section
open Go.RowKit Go
theorem digs_ge {k n : Nat} (hk : k < 9) (hn : 128 ≤ n) : digs (9 - k) n = (n % 128 + 128) :: digs (9 - (k + 1)) (n / 128) := by
  obtain ⟨f, hf⟩ : ∃ f, 9 - k = f + 1 := ⟨8 - k, by omega⟩
  rw [hf, digs_big hn]
  congr 2
  omega
theorem digs_lt {k n : Nat} (hk : k < 9) (hn : n < 128) : digs (9 - k) n = [n] := by
  obtain ⟨f, hf⟩ : ∃ f, 9 - k = f + 1 := ⟨8 - k, by omega⟩
  rw [hf, digs_small hn]

set_option maxRecDepth 1000000 in
set_option maxHeartbeats 1000000 in
theorem refVarint_any (w : World) (n : Nat) (hn : n < 9223372036854775808) :
    Calls Tryz.prog 27 #[.int .u64 (n : Nat)] w fun e w' => ∃ v, e = .returned v ∧ w'.ownsRow w.heap.size 5 1 v (digs 9 n).length (bv (digs 9 n)) ∧ Below w.heap.size w w' := by
  have HN := hide hn
  go_enter Tryz.func27, Tryz.ntmps27
  go_wp2_with fail
  go_loopw [0, 3] (fun nn vv wx => ∃ (m : Nat) (ds : List Nat), m < 9223372036854775808 ∧ nn = .int .u64 (m : Nat) ∧ Hid (ds.length < 9 ∧ m < 128 ^ (9 - ds.length) ∧ ds ++ digs (9 - ds.length) m = digs 9 n ∧ ∀ x ∈ ds, x < 256) ∧ Hid (wx.ownsRow w.heap.size 5 1 vv ds.length (bv ds)) ∧ Hid (Below w.heap.size w wx)) (fun nn _ _ => (intOf nn).toNat)
  case atStart => exact ⟨n, [], hn, rfl, ⟨by decide, by simpa using hn, rfl, by simp⟩, ⟨rfl, .inl ⟨rfl, rfl⟩⟩, Below.refl _ _⟩
  case round =>
    obtain ⟨m, ds, hm, rfl, HI, HO, HB⟩ := hrel
    by_cases hge : 128 ≤ m
    · have g1 : (128 : Int) ≤ (m : Int) := by omega
      have HL := hide (one_bsl wr (m % 128 + 128) (by omega))
      have HA := hide (HO.out.alloc (.cells #[.int .u8 ((m % 128 + 128 : Nat) : Int)] 5))
      have HZ : Hid (ds.length + ([m % 128 + 128] : List Nat).length ≤ 140737488355328) := by have := HI.out.1; show _ ≤ _; simp; omega
      have HBZ : Hid (w.heap.size ≤ (wr.alloc (.cells #[.int .u8 ((m % 128 + 128 : Nat) : Int)] 5)).heap.size) := by have := HB.out.size; show _ ≤ _; simp; omega
      have HBA : Hid (Below w.heap.size w (wr.alloc (.cells #[.int .u8 ((m % 128 + 128 : Nat) : Int)] 5))) := HB.out.alloc HB.out.size _
      have HI2 : Hid ((ds ++ [m % 128 + 128]).length < 9 ∧ m / 128 < 128 ^ (9 - (ds ++ [m % 128 + 128]).length) ∧ (ds ++ [m % 128 + 128]) ++ digs (9 - (ds ++ [m % 128 + 128]).length) (m / 128) = digs 9 n ∧ ∀ x ∈ ds ++ [m % 128 + 128], x < 256) := by
        obtain ⟨h1, h2, h3, h4⟩ := HI.out
        rw [List.length_append, List.length_singleton]
        obtain ⟨f, hf⟩ : ∃ f, 9 - ds.length = f + 1 := ⟨8 - ds.length, by omega⟩
        rw [hf] at h2
        obtain ⟨g, hg, hlt⟩ := fuel_down hge h2
        have e : 9 - (ds.length + 1) = g + 1 := by omega
        refine ⟨by omega, by rw [e]; exact hlt, ?_, fun x hx => ?_⟩
        · rw [List.append_assoc, ← h3, digs_ge h1 hge]
          rfl
        · rcases List.mem_append.1 hx with hx | hx
          · exact h4 x hx
          · simp at hx
            omega
      obtain ⟨a3, c3, hu3, _⟩ := own_form HO.out
      subst hu3
      have hq1 : (m : Int) % 128 = ((m % 128 : Nat) : Int) := by omega
      have hq2 : (m : Int) / 128 = ((m / 128 : Nat) : Int) := by omega
      have hq3 : m % 128 < 128 := Nat.mod_lt _ (by decide)
      have hq4 : m / 128 < m := by omega
      have hq5 : (128 : Int) + ((m % 128 : Nat) : Int) = ((m % 128 + 128 : Nat) : Int) := by omega
      have hq6 : ((m % 128 + 128 : Nat) : Int) < 256 := by omega
      generalize m % 128 + 128 = xx at *
      generalize m % 128 = rr at *
      generalize m / 128 = qq at *
      go_wp2_with (at_builtin; refine append_bsl rfl _ _ rfl w.heap.size _ ds.length ds rfl HA.out _ [xx] rfl HL.out HZ.out HBZ.out ?_)
      intro v7 w7 ho7 hg7
      have HB7 : Hid (Below w.heap.size w w7) := HBA.out.grown hg7 HBZ.out (fun g hg => (HA.out.lt g hg).1)
      have HO7 : Hid (w7.ownsRow w.heap.size 5 1 v7 (ds ++ [xx]).length (bv (ds ++ [xx]))) := by show World.ownsRow _ _ _ _ _ _ _; rw [List.length_append]; exact ho7
      clear ho7 hg7 HA HL HO HB HBA
      go_wp2_with fail
      go_roundw
      case rel => exact ⟨qq, ds ++ [xx], by omega, by go_num, HI2, HO7, HB7⟩
      case measure => simp [intOf]; omega
    · have g1 : ¬ (128 : Int) ≤ (m : Int) := by omega
      have hm3 : m < 128 := by omega
      have HL := hide (one_bsl wr m (by omega))
      have HA := hide (HO.out.alloc (.cells #[.int .u8 (m : Int)] 5))
      have HZ : Hid (ds.length + ([m] : List Nat).length ≤ 140737488355328) := by have := HI.out.1; show _ ≤ _; simp; omega
      have HBZ : Hid (w.heap.size ≤ (wr.alloc (.cells #[.int .u8 (m : Int)] 5)).heap.size) := by have := HB.out.size; show _ ≤ _; simp; omega
      have HBA : Hid (Below w.heap.size w (wr.alloc (.cells #[.int .u8 (m : Int)] 5))) := HB.out.alloc HB.out.size _
      have HE : Hid (ds ++ [m] = digs 9 n) := by
        obtain ⟨h1, h2, h3, h4⟩ := HI.out
        show _ = _
        rw [← h3, digs_lt h1 hm3]
      obtain ⟨a3, c3, hu3, _⟩ := own_form HO.out
      subst hu3
      go_wp2_with (at_builtin; refine append_bsl rfl _ _ rfl w.heap.size _ ds.length ds rfl HA.out _ [m] rfl HL.out HZ.out HBZ.out ?_)
      intro v7 w7 ho7 hg7
      have HB7 : Hid (Below w.heap.size w w7) := HBA.out.grown hg7 HBZ.out (fun g hg => (HA.out.lt g hg).1)
      have HO7 : Hid (w7.ownsRow w.heap.size 5 1 v7 (digs 9 n).length (bv (digs 9 n))) := by show World.ownsRow _ _ _ _ _ _ _; rw [← HE.out, List.length_append]; exact ho7
      obtain ⟨a7, c7, hu7, _⟩ := own_form ho7
      subst hu7
      clear ho7 hg7 HA HL HO HB HBA
      go_wp2_with fail
      go_ret
      exact ⟨_, rfl, HO7.out, HB7.out⟩
end
section
open Go.RowKit Go
theorem lit_row4 (w : World) (B x : Nat) (hB : B ≤ w.heap.size) : (w.alloc (.cells #[.int .u8 ((x : Nat) : Int)] 5)).ownsRow B 5 1 (.slice (some ⟨w.heap.size, 0, none⟩) 1 1) 1 (bv [x]) :=
  ⟨rfl, .inr ⟨w.heap.size, 1, _, rfl, hB, heap_alloc_new w _, Nat.le_refl _, by unfold maxLen; omega, rfl, rfl⟩⟩
theorem own_mono4 {w : World} {b b' : Nat} {v : Value} {n : Nat} {xs : List Value} (h : w.ownsRow b 5 1 v n xs) (hb : b' ≤ b) : w.ownsRow b' 5 1 v n xs := by
  refine ⟨h.1, ?_⟩
  rcases h.2 with h1 | ⟨g, cap, cur, e, hg, r⟩
  · exact .inl h1
  · exact .inr ⟨g, cap, cur, e, Nat.le_trans hb hg, r⟩
theorem own_below4 {w w' : World} {b : Nat} {v : Value} {n : Nat} {xs : List Value} (h : w.ownsRow b 5 1 v n xs) (hb : Below w.heap.size w w') : w'.ownsRow b 5 1 v n xs := (Kp.of_below (S := fun _ => False) hb).owns h (fun _ _ e => e)

set_option maxRecDepth 1000000 in
set_option maxHeartbeats 1000000 in
theorem refBytes_any (w : World) (v : Int) (c h : Nat) (s : ByteArray) (hh : h < 18446744073709551616) (hs : s.size ≤ 9223372036854775807) :
    Calls Tryz.prog 5 #[.agg #[.int .i64 v, .int .u64 (c : Nat), .int .u64 (h : Nat), .string s]] w fun e w' => ∃ v', e = .returned (.tuple #[v', .int .i64 (if lok ⟨v, c, h, sl s⟩ then 0 else 40)]) ∧ w'.ownsRow w.heap.size 5 1 v' (if lok ⟨v, c, h, sl s⟩ then lbytes ⟨v, c, h, sl s⟩ else []).length (bv (if lok ⟨v, c, h, sl s⟩ then lbytes ⟨v, c, h, sl s⟩ else [])) ∧ Below w.heap.size w w' := by
  have HSL := hide (sl_len s)
  have HH := hide hh
  have HT : Hid ((w.alloc (.cells #[.int .i64 v, .int .u64 (c : Nat), .int .u64 (h : Nat), .string s] 61)).heap[w.heap.size]? = some (.cells #[.int .i64 v, .int .u64 (c : Nat), .int .u64 (h : Nat), .string s] 61 (0, 0))) := heap_alloc_new w _
  have HB := hide (below_alloc4 w (.cells #[.int .i64 v, .int .u64 (c : Nat), .int .u64 (h : Nat), .string s] 61))
  by_cases hl : lok ⟨v, c, h, sl s⟩
  · rw [if_pos hl, if_pos hl]
    have HLK := hide hl
    clear hl
    go_enter Tryz.func5, Tryz.ntmps5
    go_wp2_with fail
    generalize w.alloc (.cells #[.int .i64 v, .int .u64 (c : Nat), .int .u64 (h : Nat), .string s] 61) = w0 at *
    refine (refCheck_any w0 v c h s HH.out hs).mono ?_
    rintro e w1 ⟨rfl, hb1⟩
    rw [if_pos HLK.out]
    have q0 : w1.heap[w.heap.size]? = some (.cells #[.int .i64 v, .int .u64 (c : Nat), .int .u64 (h : Nat), .string s] 61 (0, 0)) := (hb1.block _ (blk_lt HT.out)).trans HT.out
    have HB1 : Hid (Below w.heap.size w w1) := HB.out.trans (hb1.mono HB.out.size)
    have c0 : w1.cell? ⟨w.heap.size, 0, none⟩ = some (.int .i64 v) := blk_cell q0 rfl
    have c1 : w1.cell? ⟨w.heap.size, 1, none⟩ = some (.int .u64 (c : Nat)) := blk_cell q0 rfl
    have c2 : w1.cell? ⟨w.heap.size, 2, none⟩ = some (.int .u64 (h : Nat)) := blk_cell q0 rfl
    have c3 : w1.cell? ⟨w.heap.size, 3, none⟩ = some (.string s) := blk_cell q0 rfl
    have cv := conv_sb w1 s
    go_wp2_with fail
    have HS1 := hide (conv_sb_bsl w1 s hs)
    have HB2 : Hid (Below w.heap.size w (Lib.bytesWorld w1 5 s)) := HB1.out.trans ((conv_sb_below w1 s).mono HB1.out.size)
    have HT2 : Hid ((Lib.bytesWorld w1 5 s).heap[w.heap.size]? = some (.cells #[.int .i64 v, .int .u64 (c : Nat), .int .u64 (h : Nat), .string s] 61 (0, 0))) := (Lib.bytesWorld_at_old w1 5 s _ (blk_lt q0)).trans q0
    clear cv c0 c1 c2 c3 q0 hb1
    generalize grownCap w1 s.size 0 5 = G at *
    generalize w1.heap.size = gg at *
    generalize Lib.bytesWorld w1 5 s = w2 at *
    refine (refDLay_any w2 h _ (sl s) HH.out HS1.out).mono ?_
    rintro e w3 ⟨vd, rfl, ho3, hb3⟩
    have HDL := hide (dlay_ok (lok_okd HLK.out))
    simp only at HDL
    rw [HDL.out] at ho3
    have HE2 : Hid ((dlay h (sl s)).2 = 0) := by show _ = _; rw [HDL.out]
    rw [HE2.out]
    have HO3 := hide ho3
    have HB3 : Hid (Below w.heap.size w w3) := HB2.out.trans (hb3.mono HB2.out.size)
    have q3 : w3.heap[w.heap.size]? = some (.cells #[.int .i64 v, .int .u64 (c : Nat), .int .u64 (h : Nat), .string s] 61 (0, 0)) := (hb3.block _ (blk_lt HT2.out)).trans HT2.out
    have HQ3 := hide q3
    have HWB : Hid (w.heap.size ≤ w2.heap.size) := HB2.out.size
    have c0 : w3.cell? ⟨w.heap.size, 0, none⟩ = some (.int .i64 v) := blk_cell q3 rfl
    have c1 : w3.cell? ⟨w.heap.size, 1, none⟩ = some (.int .u64 (c : Nat)) := blk_cell q3 rfl
    clear ho3 hb3 q3 HS1 HT2 HB2
    obtain ⟨ad, cd, hvd, _⟩ := own_form HO3.out
    subst hvd
    by_cases hv0 : v = 0
    · subst hv0
      have HBY : Hid (lbytes ⟨0, c, h, sl s⟩ = h :: (sl s).length :: sl s) := rfl
      go_wp2_with fail
      go_ret2
      exact ⟨_, rfl, by rw [HBY.out]; exact own_mono4 HO3.out HWB.out, HB3.out⟩
    · have hv1 : v = 1 := by
        rcases HLK.out with h1 | h1
        · exact absurd h1.1 hv0
        · exact h1.1
      subst hv1
      have hc63 : c < 9223372036854775808 := by
        rcases HLK.out with h1 | h1
        · exact absurd h1.1 hv0
        · exact h1.2.1
      have HC := hide hc63
      have HBY : Hid (lbytes ⟨1, c, h, sl s⟩ = 1 :: digs 9 c ++ (h :: (sl s).length :: sl s)) := rfl
      clear hc63 hv0
      have HBYT : Hid (∀ x ∈ h :: (sl s).length :: sl s, x < 256) := by
        have hk := lok_okd HLK.out
        intro x hx
        unfold okd at hk
        simp only [List.mem_cons] at hx
        rcases hx with e | e | e
        · simp only at hk
          omega
        · simp only at hk
          omega
        · exact sl_byte s x e
      have HRL : Hid ((h :: (sl s).length :: sl s).length ≤ 66) := by
        have hk := lok_okd HLK.out
        unfold okd at hk
        simp only at hk
        show _ ≤ _
        simp
        omega
      generalize h :: (sl s).length :: sl s = rw3 at *
      have hb4 := below_alloc4 w3 (.cells #[.int .u8 1] 5)
      have c1a : (w3.alloc (.cells #[.int .u8 1] 5)).cell? ⟨w.heap.size, 1, none⟩ = some (.int .u64 (c : Nat)) := keep_below hb4 _ _ c1
      have HA4 : Hid ((w3.alloc (.cells #[.int .u8 1] 5)).ownsRow w.heap.size 5 1 (.slice (some ⟨w3.heap.size, 0, none⟩) 1 1) 1 (bv [1])) := lit_row4 w3 w.heap.size 1 HB3.out.size
      have HB4 : Hid (Below w.heap.size w (w3.alloc (.cells #[.int .u8 1] 5))) := HB3.out.trans (hb4.mono HB3.out.size)
      have HD4 := hide (own_below4 HO3.out hb4)
      have HDK : Hid (∀ k, (Value.slice ad rw3.length cd).ownBlock = some k → k ≠ w3.heap.size) := fun k hk e => by have := (HO3.out.lt k hk).2; omega
      have HS34 : Hid (w3.heap.size < (w3.alloc (.cells #[.int .u8 1] 5)).heap.size) := by show _ < _; simp
      clear c1 hb4 HQ3
      go_wp2_with fail
      clear c0 c1a
      generalize w3.alloc (.cells #[.int .u8 1] 5) = w4 at *
      refine (refVarint_any w4 c HC.out).mono ?_
      rintro e w5 ⟨vv, rfl, ho5, hb5⟩
      have HV5 : Hid (BSl w5 vv (digs 9 c)) := BSl.own ho5 (fun x hx => by
        have hk := lbytes_byte HLK.out (sl_byte s) x
        exact hk (by rw [HBY.out]; simp [hx]))
      have HA5 := hide (own_below4 HA4.out hb5)
      have HD5 := hide (own_below4 HD4.out hb5)
      have HB5 : Hid (Below w.heap.size w w5) := HB4.out.trans (hb5.mono HB4.out.size)
      have HZ5 : Hid (1 + (digs 9 c).length ≤ 140737488355328) := by have := digs_len 9 c; show _ ≤ _; omega
      clear ho5 hb5 HA4 HD4 HB4
      go_wp2_with (at_builtin; refine append_bsl rfl _ _ rfl w.heap.size _ 1 [1] rfl HA5.out _ (digs 9 c) rfl HV5.out HZ5.out HB5.out.size ?_)
      intro v6 w6 ho6 hg6
      have hk6 : Kp (fun q => q = w3.heap.size) w5 w6 := (Kp.refl _ _).grown hg6 (fun k _ h => by injection h with h; exact h.symm)
      have HD6 : Hid (BSl w6 (.slice ad rw3.length cd) rw3) := BSl.own (hk6.owns HD5.out (fun k hk e => HDK.out k hk e)) HBYT.out
      have HO6 := hide ho6
      have HB6 : Hid (Below w.heap.size w w6) := HB5.out.trans (hk6.below HB5.out.size (fun q e => by have := HB3.out.size; omega))
      have HZ6 : Hid (1 + (digs 9 c).length + rw3.length ≤ 140737488355328) := by have := digs_len 9 c; have := HRL.out; show _ ≤ _; omega
      clear ho6 hg6 hk6 HA5 HD5 HB5 HV5
      go_wp2_with (at_builtin; refine append_bsl rfl _ _ rfl w.heap.size _ (1 + (digs 9 c).length) _ rfl HO6.out _ rw3 rfl HD6.out HZ6.out HB6.out.size ?_)
      intro v7 w7 ho7 hg7
      have HB7 : Hid (Below w.heap.size w w7) := HB6.out.grown hg7 HB6.out.size (fun g hg => (HO6.out.lt g hg).1)
      have HO7 : Hid (w7.ownsRow w.heap.size 5 1 v7 (lbytes ⟨1, c, h, sl s⟩).length (bv (lbytes ⟨1, c, h, sl s⟩))) := by
        show World.ownsRow _ _ _ _ _ _ _
        rw [HBY.out]
        have e : (1 :: digs 9 c ++ rw3).length = 1 + (digs 9 c).length + rw3.length := by simp; omega
        rw [e]
        exact ho7
      clear ho7 hg7 HO6 HD6 HB6
      go_wp2_with fail
      go_ret2
      exact ⟨_, rfl, HO7.out, HB7.out⟩
  · rw [if_neg hl, if_neg hl]
    have HLK := hide hl
    clear hl
    go_enter Tryz.func5, Tryz.ntmps5
    go_wp2_with fail
    generalize w.alloc (.cells #[.int .i64 v, .int .u64 (c : Nat), .int .u64 (h : Nat), .string s] 61) = w0 at *
    refine (refCheck_any w0 v c h s HH.out hs).mono ?_
    rintro e w1 ⟨rfl, hb1⟩
    rw [if_neg HLK.out]
    have HB1 : Hid (Below w.heap.size w w1) := HB.out.trans (hb1.mono HB.out.size)
    clear hb1
    go_wp2_with fail
    go_ret2
    exact ⟨_, rfl, ⟨rfl, .inl ⟨rfl, rfl⟩⟩, HB1.out⟩
end
section
open Go.RowKit Go
/-- A link as a value. -/
def lkv (l : Lk) : Value := .agg #[.int .i64 l.v, .int .u64 (l.c : Nat), .int .u64 (l.h : Nat), .string (nstr l.d)]
set_option maxRecDepth 1000000 in
theorem refDigest_any (w : World) (n : Nat) : Calls Tryz.prog 38 #[.int .i64 (n : Nat)] w fun e w' => e = .returned (.int .i64 (lerr n : Nat)) ∧ w' = w := by
  have HE : Hid (lerr n = if n = 32 ∨ n = 33 then 42 else 43) := rfl
  by_cases h1 : n = 32
  · subst h1
    go_enter Tryz.func38, Tryz.ntmps38
    go_wp2_with fail
    go_ret
    exact ⟨rfl, rfl⟩
  · have g1 : ((n : Int) == 32) = false := beq_eq_false_iff_ne.2 (by omega)
    by_cases h2 : n = 33
    · subst h2
      go_enter Tryz.func38, Tryz.ntmps38
      go_wp2_with fail
      go_ret
      exact ⟨rfl, rfl⟩
    · have g2 : ((n : Int) == 33) = false := beq_eq_false_iff_ne.2 (by omega)
      have HE2 : Hid (lerr n = 43) := by show _ = _; rw [HE.out, if_neg (by omega)]
      clear HE
      go_enter Tryz.func38, Tryz.ntmps38
      go_wp2_with fail
      go_ret
      exact ⟨by rw [HE2.out]; rfl, rfl⟩
end
section
open Go.RowKit Go
set_option maxRecDepth 1000000 in
/-- b[k:] of bytes. -/
theorem wpList_drop {ops : Array Oper} {rest : List Oper} {o : Oper} {a : Act} {Q : Exit → Act → World → Prop} {w : World} (hgd : o.guard = none) (x y : Nat) (ho : o.op = .slice 56 (.tmp x) (some (.tmp y)) none none)
    (v : Value) (xs : List Nat) (k : Nat) (hx : a.eval (.tmp x) = v) (hy : a.eval (.tmp y) = .int .i64 (k : Nat)) (hb : BSl w v xs) (hk : k ≤ xs.length)
    (h : ∀ ad n c, BSl w (.slice ad n c) (xs.drop k) → n = xs.length - k → wpList Tryz.prog ops Q rest (a.put o.dst (.slice ad n c)) w) : wpList Tryz.prog ops Q (o :: rest) a w := by
  have HB := hide hb
  obtain ⟨⟨ad, cap, rfl, hn, hc⟩, hmax, hby⟩ := hb
  have hcap := hn.1
  have hx2 : a.tmps[x]?.getD undef = .slice ad xs.length cap := by simpa [Act.eval] using hx
  have hy2 : a.tmps[y]?.getD undef = .int .i64 (k : Nat) := by simpa [Act.eval] using hy
  refine wpList_plain hgd fun K hK => ?_
  have HK := hide hK
  have HH := hide h
  obtain ⟨dst, op, ty, pos, after, guard⟩ := o
  simp only at ho hgd
  subst ho
  have hki : (k : Int) ≤ (xs.length : Int) := by omega
  have hkc : (k : Int) ≤ (cap : Int) := by omega
  clear hK h hgd hx hy
  cases ad with
  | none =>
    have hc0 := hn.2 rfl
    have hx0 : xs.length = 0 := by omega
    have hk0 : k = 0 := by omega
    subst hk0
    have hxe : xs = [] := List.eq_nil_of_length_eq_zero hx0
    subst hxe
    subst hc0
    go_simp
    exact HK.out _ _ (HH.out none 0 0 ⟨⟨none, 0, rfl, ⟨Nat.le_refl _, fun _ => rfl⟩, .inl rfl⟩, by simp, by simp⟩ rfl)
  | some ad =>
    have HC := hide hc
    clear hc hn
    by_cases hkk : k = cap
    · have hxk : xs.length = k := by omega
      have hdr : xs.drop k = [] := List.drop_of_length_le (by omega)
      subst hkk
      rw [hxk] at hx2 hki
      go_simp
      exact HK.out _ _ (HH.out (some ad) 0 0 (by rw [hdr]; exact ⟨⟨some ad, 0, rfl, ⟨Nat.le_refl _, fun e => by cases e⟩, .inl rfl⟩, by simp, by simp⟩) (by omega))
    · have hkl : (k : Int) < (cap : Int) := by omega
      have hkk2 : ¬ cap = k := fun e => hkk e.symm
      go_simp
      refine HK.out _ _ (HH.out (some (ad.add k)) (xs.length - k) (cap - k) ?_ rfl)
      have hlen : (xs.drop k).length = xs.length - k := List.length_drop
      refine ⟨⟨some (ad.add k), cap - k, by rw [hlen], ⟨by rw [hlen]; omega, fun e => by cases e⟩, ?_⟩, by rw [hlen]; omega, fun z hz => hby z (List.mem_of_mem_drop hz)⟩
      rcases HC.out with hx0 | ⟨b, off, e, hcell⟩
      · left
        rw [hx0]
        simp
      · right
        injection e with e
        subst e
        have hadd : (⟨b, off, none⟩ : Addr).add k = ⟨b, off + k, none⟩ := by unfold Addr.add; split <;> simp_all
        rw [hadd]
        refine ⟨b, off + k, rfl, fun j hj => ?_⟩
        rw [hlen] at hj
        have h2 := hcell (k + j) (by omega)
        rw [← Nat.add_assoc] at h2
        rw [h2]
        simp [List.getD, List.getElem?_drop]
end
section
open Go.RowKit Go
/-- No link, as cells. -/
def zlk : Array Value := #[.int .i64 0, .int .u64 0, .int .u64 0, .string ⟨#[]⟩]
theorem info61 : (Tryz.prog.info? 61).map (·.size) = some 4 := by kernel_rfl
/-- What First has in hand: the result's block and the link's. -/
structure Fq (w wx : World) (R L : Nat) (lv : Array Value) : Prop where
  r : wx.heap[R]? = some (.cells zlk 61 (0, 0))
  l : wx.heap[L]? = some (.cells lv 61 (0, 0))
  b : Below w.heap.size w wx
  rb : w.heap.size ≤ R
  lb : w.heap.size ≤ L
  ne : R ≠ L
theorem Fq.below {w wx wy : World} {R L : Nat} {lv : Array Value} (h : Fq w wx R L lv) (hb : Below wx.heap.size wx wy) : Fq w wy R L lv :=
  ⟨(hb.block R (blk_lt h.r)).trans h.r, (hb.block L (blk_lt h.l)).trans h.l, h.b.trans (hb.mono h.b.size), h.rb, h.lb, h.ne⟩
theorem Fq.set {w wx : World} {R L : Nat} {lv : Array Value} (h : Fq w wx R L lv) (j : Nat) (v : Value) : Fq w (wx.setCell ⟨L, j, none⟩ v) R L (lv.setIfInBounds j v) := by
  have hk : Kp (fun q => q = L) wx (wx.setCell ⟨L, j, none⟩ v) := (Kp.refl _ _).setCell _ _ (fun _ => rfl)
  have lb := h.lb
  exact ⟨(hk.block R (blk_lt h.r) h.ne).trans h.r, blk_set j v h.l, h.b.trans (hk.below h.b.size (fun q e => by omega)), h.rb, h.lb, h.ne⟩
theorem results_c3 {fn : Func} {p u q : Tmp} {ty : TypeId} (h : fn.results = #[.cell p ty, .tmp u, .tmp q]) (tmps : Array Value) (P : Program) (w : World) :
    (results fn tmps).run P w = ((asAddr (tmps.getD p undef)).run P w).andThen fun a w₁ => ((loadVar ty a).run P w₁).andThen fun v w₂ => .ok (.tuple #[v, tmps.getD u undef, tmps.getD q undef]) w₂ := by
  simp only [results, h]
  simp [Sem.run_bind, Result.andThen]
/-- First's end. -/
theorem first_end {wx : World} {R : Nat} {cs : Array Value} {x y : Value} {tmps : Array Value} (hr : wx.heap[R]? = some (.cells cs 61 (0, 0))) (hs : cs.size = 4) (hp : tmps.getD 2 undef = .pointer (some ⟨R, 0, none⟩)) (hx : tmps.getD 3 undef = x) (hy : tmps.getD 4 undef = y) :
    (results Tryz.f16 tmps).run Tryz.prog wx = .ok (.tuple #[.agg cs, x, y]) wx := by
  refine (results_c3 rfl _ _ _).trans ?_
  rw [hp, hx, hy]
  have h1 := run_loadVar_row (P := Tryz.prog) wx R 61 61 cs (0, 0) _ hr Tryz.underlying61 rfl (by rw [hs]; exact info61)
  simp [asAddr, h1, Result.andThen]

/-- No link is laid where none is. -/
theorem wpList_zero {ops : Array Oper} {rest : List Oper} {o : Oper} {a : Act} {Q : Exit → Act → World → Prop} {w : World} {p x : Operand} (hgd : o.guard = none) (ho : o.op = .store 61 p x) (g : Nat)
    (hp : a.eval p = .pointer (some ⟨g, 0, none⟩)) (hx : a.eval x = .agg zlk) (hg : w.heap[g]? = some (.cells zlk 61 (0, 0))) (h : wpList Tryz.prog ops Q rest (a.put o.dst undef) w) : wpList Tryz.prog ops Q (o :: rest) a w := by
  refine wpList_storeRow hgd ho g zlk zlk 61 hp hx hg info61 rfl (by kernel_rfl) ?_
  rw [setRow_self w g zlk 61 (0, 0) hg]
  exact h

set_option maxRecDepth 1000000 in
set_option maxHeartbeats 1000000 in
theorem lFirst_none (w : World) (a : Option Addr) (cap : Nat) (hb : BSl w (.slice a 0 cap) []) :
    Calls Tryz.prog 16 #[.slice a 0 cap] w fun e w' => e = .returned (.tuple #[.agg zlk, .int .i64 0, .int .i64 42]) ∧ Below w.heap.size w w' := by
  have HB := hide hb
  have HN : Hid (dnum [] = (0, 0, 32)) := rfl
  have HF0 : Hid (Fq w ((w.alloc (.cells zlk 61)).alloc (.cells #[.int .i64 0, .int .u64 112, .int .u64 0, .string ⟨#[]⟩] 61)) w.heap.size (w.heap.size + 1) #[.int .i64 0, .int .u64 112, .int .u64 0, .string ⟨#[]⟩]) := by
    have h1 := heap_alloc_new w (.cells zlk 61)
    have h2 := heap_alloc_new (w.alloc (.cells zlk 61)) (.cells #[.int .i64 0, .int .u64 112, .int .u64 0, .string ⟨#[]⟩] 61)
    have e : (w.alloc (.cells zlk 61)).heap.size = w.heap.size + 1 := by simp
    rw [e] at h2
    exact ⟨blk_alloc _ h1, h2, (below_alloc4 w _).trans ((below_alloc4 _ _).mono (by simp)), by omega, by omega, by omega⟩
  unfold zlk at HF0
  go_enter Tryz.func16, Tryz.ntmps16
  go_wp2_with fail
  generalize (w.alloc (.cells #[.int .i64 0, .int .u64 0, .int .u64 0, .string ⟨#[]⟩] 61)).alloc (.cells #[.int .i64 0, .int .u64 112, .int .u64 0, .string ⟨#[]⟩] 61) = w0 at *
  refine (refNumber_any w0 _ [] (HB.out.move (keep_below HF0.out.b))).mono ?_
  rintro e w1 ⟨rfl, hk1⟩
  have HF1 := hide (HF0.out.below (hk1.below (Nat.le_refl _) (fun _ h => h.elim)))
  have HR1 := hide HF1.out.r
  clear hk1
  rw [HN.out]
  simp only [dnumR]
  go_wp2_with (refine wpList_zero rfl rfl w.heap.size rfl rfl HR1.out ?_)
  exact bodyPost_ret (first_end HR1.out rfl rfl rfl rfl) rfl ⟨rfl, HF1.out.b⟩
end
section
open Go.RowKit Go
theorem dread_bytes4 {xs : List Nat} (h : ∀ x ∈ xs, x < 256) : ∀ x ∈ (dread xs).2.1, x < 256 := by
  intro x hx
  unfold dread at hx
  repeat' split at hx
  all_goals first | (simp at hx; done) | exact h x (List.mem_of_mem_drop (List.mem_of_mem_take hx))
set_option maxRecDepth 1000000 in
set_option maxHeartbeats 2000000 in
theorem lFirst_any (w : World) (v : Value) (b : List Nat) (hb : BSl w v b) :
    Calls Tryz.prog 16 #[v] w fun e w' => e = .returned (.tuple #[lkv (lfirst b).1, .int .i64 ((lfirst b).2.1 : Nat), .int .i64 ((lfirst b).2.2 : Nat)]) ∧ Below w.heap.size w w' := by
  have HB := hide hb
  obtain ⟨⟨a, cap, rfl, hn, hc⟩, hmax, hby⟩ := hb
  by_cases h0 : b = []
  · subst h0
    exact (lFirst_none w a cap HB.out).mono fun e w' ⟨he, hb⟩ => ⟨he, hb⟩
  · have hpos : 0 < b.length := List.length_pos_iff.2 h0
    have g0 : ((b.length : Int) == 0) = false := beq_eq_false_iff_ne.2 (by omega)
    have g00 : (0 : Int) < (b.length : Int) := by omega
    obtain ⟨bb, off, rfl, hcell⟩ := hc.resolve_left h0
    have hc0 := hcell 0 hpos
    rw [Nat.add_zero] at hc0
    have HF0 : Hid (Fq w ((w.alloc (.cells zlk 61)).alloc (.cells #[.int .i64 0, .int .u64 112, .int .u64 0, .string ⟨#[]⟩] 61)) w.heap.size (w.heap.size + 1) #[.int .i64 0, .int .u64 112, .int .u64 0, .string ⟨#[]⟩]) := by
      have h1 := heap_alloc_new w (.cells zlk 61)
      have h2 := heap_alloc_new (w.alloc (.cells zlk 61)) (.cells #[.int .i64 0, .int .u64 112, .int .u64 0, .string ⟨#[]⟩] 61)
      have e : (w.alloc (.cells zlk 61)).heap.size = w.heap.size + 1 := by simp
      rw [e] at h2
      exact ⟨blk_alloc _ h1, h2, (below_alloc4 w _).trans ((below_alloc4 _ _).mono (by simp)), by omega, by omega, by omega⟩
    unfold zlk at HF0
    have cx : ((w.alloc (.cells #[.int .i64 0, .int .u64 0, .int .u64 0, .string ⟨#[]⟩] 61)).alloc (.cells #[.int .i64 0, .int .u64 112, .int .u64 0, .string ⟨#[]⟩] 61)).cell? ⟨bb, off, none⟩ = some (.int .u8 ((b.getD 0 0 : Nat) : Int)) := keep_below HF0.out.b _ _ hc0
    clear hc hcell hc0
    by_cases h18 : b.getD 0 0 = 18
    · have HLF : Hid (lfirst b = lthird 0 112 0 b) := by
        show _ = _
        unfold lfirst
        rw [if_pos (by cases b with | nil => exact absurd rfl h0 | cons x r => simpa using h18)]
      rw [h18] at cx
      have HAT : Hid (0 ≤ b.length) := Nat.zero_le _
      clear h18 h0 hpos
      go_enter Tryz.func16, Tryz.ntmps16
      have HBV := hide (HB.out.move (keep_below HF0.out.b))
      generalize hw0 : (w.alloc (.cells #[.int .i64 0, .int .u64 0, .int .u64 0, .string ⟨#[]⟩] 61)).alloc (.cells #[.int .i64 0, .int .u64 112, .int .u64 0, .string ⟨#[]⟩] 61) = w0 at HF0 cx HBV
      subst hw0
      have HFX := HF0
      go_wp2_with (refine wpList_drop rfl 56 57 rfl _ b 0 rfl rfl HBV.out HAT.out ?_)
      intro ad nd cd hbd hnd
      have HBD := hide hbd
      clear hbd hnd
      go_wp2_with fail
      refine (refDRead_any _ _ (b.drop 0) HBD.out).mono ?_
      rintro e w5 ⟨vd, rfl, ho5, hb5⟩
      have HF5 := hide (HFX.out.below hb5)
      have HVD := hide (BSl.own ho5 (dread_bytes4 (fun x hx => hby x (List.mem_of_mem_drop hx))))
      obtain ⟨ae, ce, hve, _⟩ := own_form ho5
      subst hve
      have HVL : Hid (∀ k, (Value.slice ae (dread (b.drop 0)).2.1.length ce).ownBlock = some k → ¬ k = w.heap.size + 1) := fun k hk e => own_not ho5 HF5.out.l (by decide) (by rw [← e]; exact hk)
      clear ho5 hb5
      by_cases hre : (dread (b.drop 0)).2.2.2 = 0
      · as_aux_lemma =>
        have HE : Hid (lthird 0 112 0 b = (⟨0, 112, (dread (b.drop 0)).1, (dread (b.drop 0)).2.1⟩, 0 + (dread (b.drop 0)).2.2.1, 0)) := by show _ = _; unfold lthird; rw [if_pos hre]
        have hnr : (((dread (b.drop 0)).2.2.1 : Nat) : Int) ≤ 9223372036854775807 := by have h1 := (dread_back hre).1; rw [List.length_drop] at h1; omega
        rw [hre]
        generalize (dread (b.drop 0)).2.2.1 = nr at *
        generalize (dread (b.drop 0)).1 = hr at *
        generalize (dread (b.drop 0)).2.1 = dr at *
        have q2 : w5.cell? ⟨w.heap.size + 1, 2, none⟩ = some (.int .u64 0) := blk_cell HF5.out.l rfl
        have f2 : w5.frozen? ⟨w.heap.size + 1, 2, none⟩ = false := blk_frozen 2 HF5.out.l
        have HF6 := hide (HF5.out.set 2 (.int .u64 (hr : Nat)))
        have hk6 : Kp (fun q => q = w.heap.size + 1) w5 (w5.setCell ⟨w.heap.size + 1, 2, none⟩ (.int .u64 (hr : Nat))) := (Kp.refl _ _).setCell _ _ (fun _ => rfl)
        have cv := (hk6.bsl HVD.out HVL.out).text
        have q3 : (w5.setCell ⟨w.heap.size + 1, 2, none⟩ (.int .u64 (hr : Nat))).cell? ⟨w.heap.size + 1, 3, none⟩ = some (.string ⟨#[]⟩) := blk_cell HF6.out.l rfl
        have f3 : (w5.setCell ⟨w.heap.size + 1, 2, none⟩ (.int .u64 (hr : Nat))).frozen? ⟨w.heap.size + 1, 3, none⟩ = false := blk_frozen 3 HF6.out.l
        have HF7 := hide (HF6.out.set 3 (.string (nstr dr)))
        have HL7 : Hid (((w5.setCell ⟨w.heap.size + 1, 2, none⟩ (.int .u64 (hr : Nat))).setCell ⟨w.heap.size + 1, 3, none⟩ (.string (nstr dr))).heap[w.heap.size + 1]? = some (.cells #[.int .i64 0, .int .u64 112, .int .u64 (hr : Nat), .string (nstr dr)] 61 (0, 0))) := HF7.out.l
        have HR7 := hide HF7.out.r
        have HB7 := hide HF7.out.b
        clear hk6 HF5 HF6 HF7
        go_wp2_with (first
          | (refine wpList_loadAll rfl rfl (w.heap.size + 1) #[.int .i64 0, .int .u64 112, .int .u64 (hr : Nat), .string (nstr dr)] 61 rfl HL7.out Tryz.underlying61 info61 ?_)
          | (refine wpList_storeRow rfl rfl w.heap.size zlk #[.int .i64 0, .int .u64 112, .int .u64 (hr : Nat), .string (nstr dr)] 61 rfl rfl HR7.out info61 rfl (by kernel_rfl) ?_))
        exact bodyPost_ret (first_end (row_same HR7.out) rfl rfl rfl rfl) rfl ⟨by rw [HLF.out, HE.out, Nat.zero_add]; rfl, (HB7.out.trans ((row_kp _ _ _).below HB7.out.size (fun q e => by omega)))⟩
      · as_aux_lemma =>
        have HE : Hid (lthird 0 112 0 b = (Lk.none, 0, lerr (dread (b.drop 0)).2.2.2)) := by show _ = _; unfold lthird; rw [if_neg hre]
        have g9 : (((dread (b.drop 0)).2.2.2 : Int) == 0) = false := beq_eq_false_iff_ne.2 (by omega)
        have HR5 := hide HF5.out.r
        generalize (dread (b.drop 0)).2.2.2 = er at *
        generalize (dread (b.drop 0)).2.2.1 = nr at *
        generalize (dread (b.drop 0)).1 = hr at *
        go_wp2_with fail
        refine (refDigest_any w5 er).mono ?_
        rintro e w6 ⟨rfl, rfl⟩
        go_wp2_with (refine wpList_zero rfl rfl w.heap.size rfl rfl HR5.out ?_)
        exact bodyPost_ret (first_end HR5.out rfl rfl rfl rfl) rfl ⟨by rw [HLF.out, HE.out]; rfl, HF5.out.b⟩
    · have HNE : Hid (¬ b.head? = some 18) := by
        show ¬ _
        cases b with
        | nil => exact absurd rfl h0
        | cons x r => simpa using h18
      have g18 : (((b.getD 0 0 : Nat) : Int) == 18) = false := beq_eq_false_iff_ne.2 (by omega)
      clear h18 h0 hpos
      generalize b.getD 0 0 = x0 at cx g18
      have HBV0 := hide (HB.out.move (keep_below HF0.out.b))
      go_enter Tryz.func16, Tryz.ntmps16
      go_wp2_with fail
      generalize (w.alloc (.cells #[.int .i64 0, .int .u64 0, .int .u64 0, .string ⟨#[]⟩] 61)).alloc (.cells #[.int .i64 0, .int .u64 112, .int .u64 0, .string ⟨#[]⟩] 61) = w0 at *
      refine (refNumber_any w0 _ b HBV0.out).mono ?_
      rintro e w1 ⟨rfl, hk1⟩
      have hb1 := hk1.below (Nat.le_refl _) (fun _ h => h.elim)
      have HF1 := hide (HF0.out.below hb1)
      have HBV1 := hide (HBV0.out.move (keep_below hb1))
      clear hk1 hb1 HF0 HBV0 cx
      have HDB := hide (dnum_bound b)
      obtain ⟨vn, un, en, hD⟩ : ∃ vn un en, dnum b = (vn, un, en) := ⟨_, _, _, rfl⟩
      rw [hD] at HDB ⊢
      have HD := hide hD
      clear hD
      simp only [dnumR] at HDB ⊢
      by_cases hen : en = 0
      · subst hen
        have hdb := HDB.out rfl
        by_cases hvn : vn = 1
        · subst hvn
          have HUN : Hid (un ≤ b.length) := hdb.2.1
          clear hdb HDB
          go_wp2_with (refine wpList_drop rfl 39 40 rfl _ b un rfl rfl HBV1.out HUN.out ?_)
          intro ad1 nd1 cd1 hbd1 hnd1
          have HBD1 := hide hbd1
          clear hbd1 hnd1
          go_wp2_with fail
          refine (refNumber_any w1 _ (b.drop un) HBD1.out).mono ?_
          rintro e w2 ⟨rfl, hk2⟩
          have hb2 := hk2.below (Nat.le_refl _) (fun _ h => h.elim)
          have HF2 := hide (HF1.out.below hb2)
          have HBV2 := hide (HBV1.out.move (keep_below hb2))
          clear hk2 hb2 HF1 HBV1 HBD1
          have HDB2 := hide (dnum_bound (b.drop un))
          obtain ⟨c2, u2, e2, hD2⟩ : ∃ c2 u2 e2, dnum (b.drop un) = (c2, u2, e2) := ⟨_, _, _, rfl⟩
          rw [hD2] at HDB2 ⊢
          have HD2 := hide hD2
          clear hD2
          simp only [dnumR] at HDB2 ⊢
          by_cases he2 : e2 = 0
          · subst he2
            have hdb2 := HDB2.out rfl
            have HLF : Hid (lfirst b = lthird 1 c2 (un + u2) b) := by
              show _ = _
              unfold lfirst
              rw [if_neg HNE.out, HD.out]
              simp only [ne_eq, not_true_eq_false, if_false]
              rw [HD2.out]
              simp
            have HAT : Hid (un + u2 ≤ b.length) := by have h1 := hdb2.2.1; rw [List.length_drop] at h1; have := HUN.out; show _ ≤ _; omega
            have hun : (un : Int) + (u2 : Int) ≤ 9223372036854775807 := by have := HAT.out; omega
            have hsum : (un : Int) + (u2 : Int) = ((un + u2 : Nat) : Int) := by omega
            clear HDB2 hdb2 HUN HD HD2 HNE
            have q0 : w2.cell? ⟨w.heap.size + 1, 0, none⟩ = some (.int .i64 0) := blk_cell HF2.out.l rfl
            have f0 : w2.frozen? ⟨w.heap.size + 1, 0, none⟩ = false := blk_frozen 0 HF2.out.l
            have HF3 := hide (HF2.out.set 0 (.int .i64 1))
            have q1 : (w2.setCell ⟨w.heap.size + 1, 0, none⟩ (.int .i64 1)).cell? ⟨w.heap.size + 1, 1, none⟩ = some (.int .u64 112) := blk_cell HF3.out.l rfl
            have f1 : (w2.setCell ⟨w.heap.size + 1, 0, none⟩ (.int .i64 1)).frozen? ⟨w.heap.size + 1, 1, none⟩ = false := blk_frozen 1 HF3.out.l
            have HFX : Hid (Fq w ((w2.setCell ⟨w.heap.size + 1, 0, none⟩ (.int .i64 1)).setCell ⟨w.heap.size + 1, 1, none⟩ (.int .u64 (c2 : Nat))) w.heap.size (w.heap.size + 1) #[.int .i64 1, .int .u64 (c2 : Nat), .int .u64 0, .string ⟨#[]⟩]) := HF3.out.set 1 (.int .u64 (c2 : Nat))
            have HBV := hide (HB.out.move (keep_below HFX.out.b))
            clear HF2 HF3 HBV2
            generalize hat4 : un + u2 = at4 at HLF HAT hsum
            clear hat4
            go_wp2_with (refine wpList_drop rfl 56 57 rfl _ b at4 rfl rfl HBV.out HAT.out ?_)
            intro ad nd cd hbd hnd
            have HBD := hide hbd
            clear hbd hnd
            generalize (w2.setCell ⟨w.heap.size + 1, 0, none⟩ (.int .i64 1)).setCell ⟨w.heap.size + 1, 1, none⟩ (.int .u64 (c2 : Nat)) = wx at *
            go_wp2_with fail
            refine (refDRead_any wx _ (b.drop at4) HBD.out).mono ?_
            rintro e w5 ⟨vd, rfl, ho5, hb5⟩
            have HF5 := hide (HFX.out.below hb5)
            have HVD := hide (BSl.own ho5 (dread_bytes4 (fun x hx => hby x (List.mem_of_mem_drop hx))))
            obtain ⟨ae, ce, hve, _⟩ := own_form ho5
            subst hve
            have HVL : Hid (∀ k, (Value.slice ae (dread (b.drop at4)).2.1.length ce).ownBlock = some k → ¬ k = w.heap.size + 1) := fun k hk e => own_not ho5 HF5.out.l (by decide) (by rw [← e]; exact hk)
            clear ho5 hb5
            by_cases hre : (dread (b.drop at4)).2.2.2 = 0
            · as_aux_lemma =>
              have HE : Hid (lthird 1 c2 at4 b = (⟨1, c2, (dread (b.drop at4)).1, (dread (b.drop at4)).2.1⟩, at4 + (dread (b.drop at4)).2.2.1, 0)) := by show _ = _; unfold lthird; rw [if_pos hre]
              have hnr : ((at4 : Nat) : Int) + (((dread (b.drop at4)).2.2.1 : Nat) : Int) ≤ 9223372036854775807 := by have h1 := (dread_back hre).1; rw [List.length_drop] at h1; have := HAT.out; omega
              rw [hre]
              generalize (dread (b.drop at4)).2.2.1 = nr at *
              generalize (dread (b.drop at4)).1 = hr at *
              generalize (dread (b.drop at4)).2.1 = dr at *
              have q2 : w5.cell? ⟨w.heap.size + 1, 2, none⟩ = some (.int .u64 0) := blk_cell HF5.out.l rfl
              have f2 : w5.frozen? ⟨w.heap.size + 1, 2, none⟩ = false := blk_frozen 2 HF5.out.l
              have HF6 := hide (HF5.out.set 2 (.int .u64 (hr : Nat)))
              have hk6 : Kp (fun q => q = w.heap.size + 1) w5 (w5.setCell ⟨w.heap.size + 1, 2, none⟩ (.int .u64 (hr : Nat))) := (Kp.refl _ _).setCell _ _ (fun _ => rfl)
              have cv := (hk6.bsl HVD.out HVL.out).text
              have q3 : (w5.setCell ⟨w.heap.size + 1, 2, none⟩ (.int .u64 (hr : Nat))).cell? ⟨w.heap.size + 1, 3, none⟩ = some (.string ⟨#[]⟩) := blk_cell HF6.out.l rfl
              have f3 : (w5.setCell ⟨w.heap.size + 1, 2, none⟩ (.int .u64 (hr : Nat))).frozen? ⟨w.heap.size + 1, 3, none⟩ = false := blk_frozen 3 HF6.out.l
              have HF7 := hide (HF6.out.set 3 (.string (nstr dr)))
              have HL7 : Hid (((w5.setCell ⟨w.heap.size + 1, 2, none⟩ (.int .u64 (hr : Nat))).setCell ⟨w.heap.size + 1, 3, none⟩ (.string (nstr dr))).heap[w.heap.size + 1]? = some (.cells #[.int .i64 1, .int .u64 (c2 : Nat), .int .u64 (hr : Nat), .string (nstr dr)] 61 (0, 0))) := HF7.out.l
              have HR7 := hide HF7.out.r
              have HB7 := hide HF7.out.b
              clear hk6 HF5 HF6 HF7
              go_wp2_with (first
                | (refine wpList_loadAll rfl rfl (w.heap.size + 1) #[.int .i64 1, .int .u64 (c2 : Nat), .int .u64 (hr : Nat), .string (nstr dr)] 61 rfl HL7.out Tryz.underlying61 info61 ?_)
                | (refine wpList_storeRow rfl rfl w.heap.size zlk #[.int .i64 1, .int .u64 (c2 : Nat), .int .u64 (hr : Nat), .string (nstr dr)] 61 rfl rfl HR7.out info61 rfl (by kernel_rfl) ?_))
              exact bodyPost_ret (first_end (row_same HR7.out) rfl rfl rfl rfl) rfl ⟨by rw [HLF.out, HE.out]; simp only [Int.natCast_add]; rfl, (HB7.out.trans ((row_kp _ _ _).below HB7.out.size (fun q e => by omega)))⟩
            · as_aux_lemma =>
              have HE : Hid (lthird 1 c2 at4 b = (Lk.none, 0, lerr (dread (b.drop at4)).2.2.2)) := by show _ = _; unfold lthird; rw [if_neg hre]
              have g9 : (((dread (b.drop at4)).2.2.2 : Int) == 0) = false := beq_eq_false_iff_ne.2 (by omega)
              have HR5 := hide HF5.out.r
              generalize (dread (b.drop at4)).2.2.2 = er at *
              generalize (dread (b.drop at4)).2.2.1 = nr at *
              generalize (dread (b.drop at4)).1 = hr at *
              go_wp2_with fail
              refine (refDigest_any w5 er).mono ?_
              rintro e w6 ⟨rfl, rfl⟩
              go_wp2_with (refine wpList_zero rfl rfl w.heap.size rfl rfl HR5.out ?_)
              exact bodyPost_ret (first_end HR5.out rfl rfl rfl rfl) rfl ⟨by rw [HLF.out, HE.out]; rfl, HF5.out.b⟩
          · have HLF : Hid (lfirst b = (Lk.none, 0, 42)) := by
              show _ = _
              unfold lfirst
              rw [if_neg HNE.out, HD.out]
              simp only [ne_eq, not_true_eq_false, if_false]
              rw [HD2.out]
              simp [he2]
            have g2 : ((e2 : Int) == 0) = false := beq_eq_false_iff_ne.2 (by omega)
            have HR2 := hide HF2.out.r
            clear HDB2 HD HD2 HNE
            go_wp2_with (refine wpList_zero rfl rfl w.heap.size rfl rfl HR2.out ?_)
            exact bodyPost_ret (first_end HR2.out rfl rfl rfl rfl) rfl ⟨by rw [HLF.out]; rfl, HF2.out.b⟩
        · have HLF : Hid (lfirst b = (Lk.none, 0, 41)) := by
            show _ = _
            unfold lfirst
            rw [if_neg HNE.out, HD.out]
            simp [hvn]
          have g2 : ((vn : Int) == 1) = false := beq_eq_false_iff_ne.2 (by omega)
          have HR1 := hide HF1.out.r
          clear HDB HD HNE hdb
          go_wp2_with (refine wpList_zero rfl rfl w.heap.size rfl rfl HR1.out ?_)
          exact bodyPost_ret (first_end HR1.out rfl rfl rfl rfl) rfl ⟨by rw [HLF.out]; rfl, HF1.out.b⟩
      · have HLF : Hid (lfirst b = (Lk.none, 0, 42)) := by
          show _ = _
          unfold lfirst
          rw [if_neg HNE.out, HD.out]
          simp [hen]
        have g2 : ((en : Int) == 0) = false := beq_eq_false_iff_ne.2 (by omega)
        have HR1 := hide HF1.out.r
        clear HDB HD HNE
        go_wp2_with (refine wpList_zero rfl rfl w.heap.size rfl rfl HR1.out ?_)
        exact bodyPost_ret (first_end HR1.out rfl rfl rfl rfl) rfl ⟨by rw [HLF.out]; rfl, HF1.out.b⟩
end
section
open Go.RowKit Go
/-- Parse's end. -/
theorem parse_end {wx : World} {R : Nat} {cs : Array Value} {x : Value} {tmps : Array Value} (hr : wx.heap[R]? = some (.cells cs 61 (0, 0))) (hs : cs.size = 4) (hp : tmps.getD 2 undef = .pointer (some ⟨R, 0, none⟩)) (hx : tmps.getD 3 undef = x) :
    (results Tryz.f18 tmps).run Tryz.prog wx = .ok (.tuple #[.agg cs, x]) wx := by
  refine (results_cell_tmp rfl _ _ _).trans ?_
  rw [hp, hx]
  have h1 := run_loadVar_row (P := Tryz.prog) wx R 61 61 cs (0, 0) _ hr Tryz.underlying61 rfl (by rw [hs]; exact info61)
  simp [asAddr, h1, Result.andThen]

set_option maxRecDepth 1000000 in
set_option maxHeartbeats 1000000 in
theorem lParse_any (w : World) (v : Value) (b : List Nat) (hb : BSl w v b) :
    Calls Tryz.prog 18 #[v] w fun e w' => e = .returned (.tuple #[lkv (lparse b).1, .int .i64 ((lparse b).2 : Nat)]) ∧ Below w.heap.size w w' := by
  have HB := hide hb
  obtain ⟨⟨a, cap, rfl, hn, hc⟩, hmax, hby⟩ := hb
  have HR0 : Hid ((w.alloc (.cells #[.int .i64 0, .int .u64 0, .int .u64 0, .string ⟨#[]⟩] 61)).heap[w.heap.size]? = some (.cells zlk 61 (0, 0))) := heap_alloc_new w _
  have HB0 := hide (below_alloc4 w (.cells #[.int .i64 0, .int .u64 0, .int .u64 0, .string ⟨#[]⟩] 61))
  clear hn hc hby
  go_enter Tryz.func18, Tryz.ntmps18
  go_wp2_with fail
  generalize w.alloc (.cells #[.int .i64 0, .int .u64 0, .int .u64 0, .string ⟨#[]⟩] 61) = w0 at *
  refine (lFirst_any w0 _ b (HB.out.move (keep_below HB0.out))).mono ?_
  rintro e w1 ⟨rfl, hb1⟩
  have HR1 : Hid (w1.heap[w.heap.size]? = some (.cells zlk 61 (0, 0))) := (hb1.block _ (blk_lt HR0.out)).trans HR0.out
  have HB1 : Hid (Below w.heap.size w w1) := HB0.out.trans (hb1.mono HB0.out.size)
  have HPR : Hid (lparse b = if (lfirst b).2.2 ≠ 0 then (Lk.none, (lfirst b).2.2) else if (lfirst b).2.1 < b.length then (Lk.none, 44) else ((lfirst b).1, 0)) := rfl
  clear hb1
  generalize lfirst b = r at *
  obtain ⟨⟨lv, lc, lh, ld⟩, n, er⟩ := r
  simp only at HPR ⊢
  have HNE : Hid (w.heap.size ≠ w1.heap.size) := by have := blk_lt HR1.out; show _ ≠ _; omega
  have HL2 : Hid ((w1.alloc (.cells #[.int .i64 lv, .int .u64 (lc : Nat), .int .u64 (lh : Nat), .string (nstr ld)] 61)).heap[w1.heap.size]? = some (.cells #[.int .i64 lv, .int .u64 (lc : Nat), .int .u64 (lh : Nat), .string (nstr ld)] 61 (0, 0))) := heap_alloc_new w1 _
  have HR2 : Hid ((w1.alloc (.cells #[.int .i64 lv, .int .u64 (lc : Nat), .int .u64 (lh : Nat), .string (nstr ld)] 61)).heap[w.heap.size]? = some (.cells zlk 61 (0, 0))) := blk_alloc _ HR1.out
  have HB2 : Hid (Below w.heap.size w (w1.alloc (.cells #[.int .i64 lv, .int .u64 (lc : Nat), .int .u64 (lh : Nat), .string (nstr ld)] 61))) := HB1.out.trans ((below_alloc4 w1 _).mono HB1.out.size)
  clear HR1 HB1
  simp only [lkv]
  by_cases he : er = 0
  · subst he
    by_cases hlt : n < b.length
    · as_aux_lemma =>
      have g1 : (n : Int) < (b.length : Int) := by omega
      have HP2 : Hid (lparse b = (Lk.none, 44)) := by show _ = _; rw [HPR.out]; simp [hlt]
      clear HPR hlt
      go_wp2_with (refine wpList_zero rfl rfl w.heap.size rfl rfl HR2.out ?_)
      exact bodyPost_ret (parse_end HR2.out rfl rfl rfl) rfl ⟨by rw [HP2.out]; rfl, HB2.out⟩
    · as_aux_lemma =>
      have g1 : ¬ (n : Int) < (b.length : Int) := by omega
      have HP2 : Hid (lparse b = (⟨lv, lc, lh, ld⟩, 0)) := by show _ = _; rw [HPR.out]; simp [hlt]
      clear HPR hlt
      go_wp2_with (first
        | (refine wpList_loadAll rfl rfl w1.heap.size #[.int .i64 lv, .int .u64 (lc : Nat), .int .u64 (lh : Nat), .string (nstr ld)] 61 rfl HL2.out Tryz.underlying61 info61 ?_)
        | (refine wpList_storeRow rfl rfl w.heap.size zlk #[.int .i64 lv, .int .u64 (lc : Nat), .int .u64 (lh : Nat), .string (nstr ld)] 61 rfl rfl HR2.out info61 rfl (by kernel_rfl) ?_))
      exact bodyPost_ret (parse_end (row_same HR2.out) rfl rfl rfl) rfl ⟨by rw [HP2.out]; rfl, HB2.out.trans ((row_kp _ _ _).below HB2.out.size (fun q e => by omega))⟩
  · as_aux_lemma =>
    have g1 : ((er : Int) == 0) = false := beq_eq_false_iff_ne.2 (by omega)
    have HP2 : Hid (lparse b = (Lk.none, er)) := by show _ = _; rw [HPR.out]; simp [he]
    clear HPR he
    go_wp2_with (refine wpList_zero rfl rfl w.heap.size rfl rfl HR2.out ?_)
    exact bodyPost_ret (parse_end HR2.out rfl rfl rfl) rfl ⟨by rw [HP2.out]; rfl, HB2.out⟩
end
section
open Go.RowKit Go

end
section
open Go.RowKit Go
/-- Which stands ahead, where they differ. -/
def blt : List Nat → List Nat → Bool
  | x :: r, y :: q => if x = y then blt r q else decide (x < y)
  | _, _ => false
theorem blt_drop {x y : List Nat} {i : Nat} (hx : i < x.length) (hy : i < y.length) : blt (x.drop i) (y.drop i) = if x.getD i 0 = y.getD i 0 then blt (x.drop (i + 1)) (y.drop (i + 1)) else decide (x.getD i 0 < y.getD i 0) := by
  rw [List.drop_eq_getElem_cons hx, List.drop_eq_getElem_cons hy]
  simp [blt, List.getD, hx, hy]
theorem blt_end {x y : List Nat} {i : Nat} (h : ¬ i < x.length ∨ ¬ i < y.length) : blt (x.drop i) (y.drop i) = false := by
  rcases h with h | h
  · rw [List.drop_of_length_le (by omega)]
    rfl
  · rw [List.drop_of_length_le (l := y) (by omega)]
    cases x.drop i <;> rfl
theorem bsl_cell {w : World} {a : Option Addr} {n cap : Nat} {xs : List Nat} (h : BSl w (.slice a n cap) xs) {i : Nat} (hi : i < xs.length) : ∃ b off, a = some ⟨b, off, none⟩ ∧ w.cell? ⟨b, off + i, none⟩ = some (.int .u8 ((xs.getD i 0 : Nat) : Int)) := by
  obtain ⟨⟨a', cap', e, _, hc⟩, _, _⟩ := h
  injection e with e1 e2 e3
  subst e1
  rcases hc with hc | ⟨b, off, ha, hc⟩
  · rw [hc] at hi
    simp at hi
  · exact ⟨b, off, ha, hc i hi⟩
/-- The bytes that Bytes tells. -/
def lb (v : Int) (c h : Nat) (s : ByteArray) : List Nat := if lok ⟨v, c, h, sl s⟩ then lbytes ⟨v, c, h, sl s⟩ else []
theorem lb_byte (v : Int) (c h : Nat) (s : ByteArray) : ∀ x ∈ lb v c h s, x < 256 := by
  unfold lb
  split
  · rename_i hl
    exact lbytes_byte hl (sl_byte s)
  · simp
theorem lb_len (v : Int) (c h : Nat) (s : ByteArray) : (lb v c h s).length ≤ 76 := by
  unfold lb
  split
  · rename_i hl
    exact lbytes_len hl
  · simp
end
section
open Go.RowKit Go
theorem sl_nstr {xs : List Nat} (h : ∀ x ∈ xs, x < 256) : sl (nstr xs) = xs := by
  have key : ∀ l : List Nat, (∀ x ∈ l, x < 256) → (nstr l).data.toList.map UInt8.toNat = l := by
    intro l hl
    simp only [nstr, strOfNums_data, List.map_map]
    conv => rhs; rw [← List.map_id l]
    apply List.map_congr_left
    intro x hx
    have := hl x hx
    simp; omega
  exact key xs h
/-- The link of a block (P4.2). -/
def lof (c : Nat) (b : List Nat) : Lk × Nat := if c < 9223372036854775808 then (⟨1, c, 18, sha b⟩, 0) else (Lk.none, 40)
end
section
open Go.RowKit Go
/-- The number that digits make, the first one the lowest. -/
def valL (b : Nat) : List Nat → Nat
  | [] => 0
  | d :: l => d + b * valL b l
theorem valL_rev (b : Nat) : ∀ l, valL b l = valB b l.reverse
  | [] => rfl
  | d :: l => by
    rw [valL, valL_rev b l, List.reverse_cons, valB_snoc, Nat.mul_comm]
    omega
theorem valL_app (b : Nat) : ∀ l m, valL b (l ++ m) = valL b l + b ^ l.length * valL b m
  | [], m => by simp [valL]
  | d :: l, m => by
    rw [List.cons_append, valL, valL_app b l m, valL, List.length_cons, Nat.pow_succ, Nat.mul_add, Nat.mul_comm (b ^ l.length) b, Nat.mul_assoc]
    omega
theorem valL_lt {b : Nat} (hb : 0 < b) {l : List Nat} (h : ∀ d ∈ l, d < b) : valL b l < b ^ l.length := by
  rw [valL_rev, ← List.length_reverse]
  exact valB_lt hb (fun d hd => h d (List.mem_reverse.1 hd))
theorem valL_digB {b : Nat} (hb : 2 ≤ b) {l : List Nat} (h : ∀ d ∈ l, d < b) (h0 : l = [] ∨ b ^ (l.length - 1) ≤ valL b l) : l.reverse = digB b (valL b l) := by
  rw [valL_rev]
  symm
  refine digB_valB hb _ _ rfl (fun d hd => h d (List.mem_reverse.1 hd)) ?_
  rcases h0 with rfl | h0
  · simp
  · intro e
    cases hl : l with
    | nil => rw [hl] at e; simp at e
    | cons x m =>
      obtain ⟨l0, d, hld⟩ : ∃ l0 d, l = l0 ++ [d] := ⟨l.dropLast, l.getLast (by rw [hl]; simp), (List.dropLast_concat_getLast (by rw [hl]; simp)).symm⟩
      rw [hld] at e h0 h
      rw [List.reverse_append] at e
      simp at e
      subst e
      rw [valL_app] at h0
      have := valL_lt (b := b) (by omega) (l := l0) (fun d hd => h d (by simp [hd]))
      simp [valL] at h0
      omega
theorem valB_zeros (b : Nat) (d : List Nat) : ∀ z, valB b (List.replicate z 0 ++ d) = valB b d
  | 0 => by simp
  | z + 1 => by rw [List.replicate_succ, List.cons_append, valB_cons, Nat.zero_mul, Nat.zero_add, valB_zeros b d z]
theorem conv_val (a b : Nat) (l : List Nat) : conv a b l = List.replicate (l.takeWhile (· == 0)).length 0 ++ digB b (valB a l) := by
  unfold conv
  congr 2
  have h := valB_zeros a (l.dropWhile (· == 0)) (l.takeWhile (· == 0)).length
  rw [← zeros_take, List.takeWhile_append_dropWhile] at h
  exact h.symm
theorem tw_snoc {b : Nat} (hb : 0 < b) (n : Nat) : ∀ p : List Nat, ((p ++ [n]).takeWhile (· == 0)).length = if valB b (p ++ [n]) = 0 then (p.takeWhile (· == 0)).length + 1 else (p.takeWhile (· == 0)).length
  | [] => by
    have e : valB b [n] = n := by rw [valB_cons]; simp [valB]
    rw [List.nil_append, e]
    by_cases h : n = 0
    · subst h
      simp
    · simp [h]
  | x :: p => by
    rw [List.cons_append, valB_cons]
    by_cases h : x = 0
    · subst h
      have ih := tw_snoc hb n p
      rw [Nat.zero_mul, Nat.zero_add]
      simp only [List.takeWhile_cons, beq_self_eq_true, if_true, List.length_cons, ih]
      split <;> rfl
    · have hp : 0 < x * b ^ (p ++ [n]).length := Nat.mul_pos (by omega) (Nat.pow_pos hb)
      rw [if_neg (by omega)]
      simp [h]

/-- What regroup has in hand: the digits told, the bits that wait. -/
structure Rg (tt : Nat) (B out R : List Nat) : Prop where
  e : B = out.flatMap (bitsW tt) ++ R
  o : ∀ x ∈ out, x < 2 ^ tt
  r : ∀ x ∈ R, x < 2
theorem Rg.start (tt : Nat) : Rg tt [] [] [] := ⟨rfl, by simp, by simp⟩
theorem Rg.more {tt f n : Nat} {B out R : List Nat} (h : Rg tt B out R) : Rg tt (B ++ bitsW f n) out (R ++ bitsW f n) :=
  ⟨by rw [h.e, List.append_assoc], h.o, fun x hx => by
    rcases List.mem_append.1 hx with hx | hx
    · exact h.r x hx
    · exact bitsW_lt f n x hx⟩
theorem Rg.take {tt : Nat} {B out R : List Nat} (h : Rg tt B out R) (hl : tt ≤ R.length) : Rg tt B (out ++ [valB 2 (R.take tt)]) (R.drop tt) := by
  have hl2 : (R.take tt).length = tt := by rw [List.length_take]; omega
  have hb : ∀ x ∈ R.take tt, x < 2 := fun x hx => h.r x (List.mem_of_mem_take hx)
  refine ⟨?_, ?_, fun x hx => h.r x (List.mem_of_mem_drop hx)⟩
  · have e := bitsW_valB (R.take tt) hb
    rw [hl2] at e
    rw [List.flatMap_append, List.flatMap_singleton, e, List.append_assoc, List.take_append_drop]
    exact h.e
  · intro x hx
    rcases List.mem_append.1 hx with hx | hx
    · exact h.o x hx
    · simp only [List.mem_singleton] at hx
      subst hx
      have := valB_lt (b := 2) (by decide) hb
      rwa [hl2] at this
theorem Rg.grp {tt : Nat} {B out R : List Nat} (h : Rg tt B out R) (hw : 0 < tt) (hl : R.length < tt) : out = grp tt B := by
  rw [h.e]
  exact (grp_bits hw hl h.o).symm
theorem rest_shift {R : List Nat} {tt : Nat} (h : ∀ x ∈ R, x < 2) : valB 2 R / 2 ^ (R.length - tt) = valB 2 (R.take tt) ∧ valB 2 R % 2 ^ (R.length - tt) = valB 2 (R.drop tt) := by
  have hd : (R.drop tt).length = R.length - tt := List.length_drop
  have hv := valB_lt (b := 2) (by decide) (l := R.drop tt) (fun x hx => h x (List.mem_of_mem_drop hx))
  have e := valB_app 2 (R.take tt) (R.drop tt)
  rw [List.take_append_drop] at e
  rw [hd] at hv e
  rw [e, Nat.mul_comm]
  exact ⟨by rw [Nat.mul_add_div (Nat.pow_pos (by decide)), Nat.div_eq_of_lt hv, Nat.add_zero], by rw [Nat.mul_add_mod, Nat.mod_eq_of_lt hv]⟩
theorem rest_more {R : List Nat} {f n : Nat} (hn : n < 2 ^ f) : valB 2 (R ++ bitsW f n) = valB 2 R * 2 ^ f + n := by
  rw [valB_app, bitsW_len, valB_bitsW, Nat.mod_eq_of_lt hn]
/-- The last digit, filled. -/
theorem encW_rg {w : Nat} (hw : 0 < w) {b out R : List Nat} (h : Rg w (b.flatMap (bitsW 8)) out R) (hl : R.length < w) : encW w b = out ++ (if R = [] then [] else [valB 2 R * 2 ^ (w - R.length)]) := by
  have hlen := congrArg List.length h.e
  rw [flat_len, List.length_append, flat_len] at hlen
  have hm : b.length * 8 % w = R.length := by rw [hlen, Nat.mul_comm, Nat.mul_add_mod, Nat.mod_eq_of_lt hl]
  have hfl : ∀ (o : List Nat) (z : List Nat), (∀ x ∈ o, x < 2 ^ w) → grp w (o.flatMap (bitsW w) ++ z) = o ++ grp w z := by
    intro o
    induction o with
    | nil => intro z _; rfl
    | cons x o ih => intro z ho; rw [List.flatMap_cons, List.append_assoc, grp_app hw (bitsW_len w x), valB_bitsW, Nat.mod_eq_of_lt (ho x (by simp)), ih z (fun y hy => ho y (List.mem_cons_of_mem _ hy)), List.cons_append]
  unfold encW
  rw [hm, h.e, List.append_assoc, hfl _ _ h.o]
  congr 1
  by_cases h0 : R = []
  · subst h0
    rw [if_pos rfl, List.length_nil, Nat.sub_zero, Nat.mod_self]
    exact grp_short (by simpa using hw)
  · have hp : 0 < R.length := List.length_pos_iff.2 h0
    rw [if_neg h0, Nat.mod_eq_of_lt (by omega)]
    have hr : (R ++ List.replicate (w - R.length) 0).length = w := by rw [List.length_append, List.length_replicate]; omega
    have e := grp_app hw hr []
    rw [List.append_nil] at e
    rw [e, grp_short (by simpa using hw), valB_app, List.length_replicate]
    congr 1
    have hz := valB_zeros 2 [] (w - R.length)
    rw [List.append_nil] at hz
    rw [hz]
    rfl
theorem valB2_zero : ∀ {R : List Nat}, (∀ x ∈ R, x < 2) → valB 2 R = 0 → R = List.replicate R.length 0
  | [], _, _ => rfl
  | x :: R, h, h0 => by
    rw [valB_cons] at h0
    have hx : x = 0 := by
      rcases Nat.eq_zero_or_pos x with e | e
      · exact e
      · have := Nat.mul_pos e (Nat.pow_pos (n := R.length) (show 0 < 2 by decide))
        omega
    subst hx
    rw [List.length_cons, List.replicate_succ, ← valB2_zero (fun y hy => h y (List.mem_cons_of_mem _ hy)) (by omega)]
/-- Digits are the digits of the bytes that they make just if no whole one is left and the bits that are left are 0. -/
theorem enc_dec {w : Nat} (hw : 0 < w) {l out R : List Nat} (hd : ∀ x ∈ l, x < 2 ^ w) (h : Rg 8 (l.flatMap (bitsW w)) out R) (hl : R.length < 8) : encW w out = l ↔ R.length < w ∧ valB 2 R = 0 := by
  have hlen := congrArg List.length h.e
  rw [flat_len, List.length_append, flat_len] at hlen
  have hp : (w - out.length * 8 % w) % w < w := Nat.mod_lt _ hw
  constructor
  · intro e
    have hd2 := congrArg (List.flatMap (bitsW w)) e
    unfold encW at hd2
    have hdiv : (out.length * 8 + (w - out.length * 8 % w) % w) % w = 0 := by
      have h1 := Nat.mod_lt (out.length * 8) hw
      by_cases h0 : out.length * 8 % w = 0
      · rw [h0, Nat.sub_zero, Nat.mod_self, Nat.add_zero]
        exact h0
      · rw [Nat.mod_eq_of_lt (a := w - out.length * 8 % w) (by omega)]
        have h2 := Nat.div_add_mod (out.length * 8) w
        have e : out.length * 8 + (w - out.length * 8 % w) = w * (out.length * 8 / w + 1) := by rw [Nat.mul_add, Nat.mul_one]; omega
        rw [e]
        exact Nat.mul_mod_right _ _
    obtain ⟨k, hk⟩ := Nat.dvd_of_mod_eq_zero hdiv
    rw [bits_grp hw k _ (by rw [List.length_append, flat_len, List.length_replicate, hk, Nat.mul_comm]) (fun d hd => by
      rcases List.mem_append.1 hd with h | h
      · exact flat_lt 8 out d h
      · have := List.eq_of_mem_replicate h
        omega), h.e] at hd2
    have hR := List.append_cancel_left hd2
    rw [← hR, List.length_replicate]
    have hz := valB_zeros 2 [] ((w - out.length * 8 % w) % w)
    rw [List.append_nil] at hz
    exact ⟨hp, hz⟩
  · rintro ⟨h1, h2⟩
    have hR := valB2_zero h.r h2
    have hpad : (w - out.length * 8 % w) % w = R.length := by
      have h3 := Nat.mod_lt (out.length * 8) hw
      have h4 := Nat.div_add_mod (out.length * 8) w
      have h5 : (out.length * 8 % w + R.length) % w = 0 := by
        have : (out.length * 8 + R.length) % w = 0 := by rw [← hlen]; exact Nat.mul_mod_left _ _
        rw [← h4, Nat.add_assoc, Nat.mul_add_mod] at this
        exact this
      generalize out.length * 8 % w = m at *
      rcases Nat.eq_zero_or_pos m with e | e
      · subst e
        rw [Nat.zero_add, Nat.mod_eq_of_lt h1] at h5
        rw [Nat.sub_zero, Nat.mod_self, h5]
      · have h6 : m + R.length < 2 * w := by omega
        have h7 : m + R.length = w := by
          rcases Nat.lt_or_ge (m + R.length) w with h | h
          · rw [Nat.mod_eq_of_lt h] at h5
            omega
          · rw [Nat.mod_eq_sub_mod h, Nat.mod_eq_of_lt (by omega)] at h5
            omega
        rw [Nat.mod_eq_of_lt (by omega)]
        omega
    unfold encW
    rw [hpad, ← hR, ← h.e]
    have := grp_bits hw (z := []) (by simpa using hw) hd
    rwa [List.append_nil] at this
end
end Go.Proofs.YtidglddjinfncaaGreatDoor
