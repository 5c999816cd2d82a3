import Derived.Test.YtdejcapbggjjgaaGreatDoorJe
import Derived.Test.YtdejcapbggjjgaaGreatDoorJd
import Derived.Test.YtdejcapbggjjgaaGreatDoorJb
import Derived.Lib.BytesEntry
import Derived.Laws.Externs
import Derived.Great.BuildSlice
import Derived.Great.FillDense
import Derived.Maps.AppendAt
import Derived.Test.YtdejcapbggjjgaaGreatDoorJc
import Derived.DeepKeys
import Derived.Deep.RegionHeld
import Derived.Lib.SlBytesConst
import Derived.Test.YtdejcapbggjjgaaGreatDoorJa
import Derived.StillTailTactics
namespace Go.Proofs.YtdejcapbggjjgaaGreatDoor
section
open Go.RowKit Go

end
section
open Go.RowKit Go

end
section
open Go.RowKit Go

end
section
open Go.RowKit Go
/-- The link that begun makes. -/
def L0 : Lk := ⟨1, 85, 18, sha []⟩
end
section
open Go.RowKit Go

end
section
open Go.RowKit Go
/-- A link somewhere in a block. -/
theorem load_lk {w : World} (g o : Nat) (l : Lk) (hc : ∀ j u, (lcs l)[j]? = some u → w.cell? ⟨g, o + j, none⟩ = some u) : (Instr.loadAt 57 (.pointer (some ⟨g, o, none⟩))).run Tryz.prog w = .ok (.agg (lcs l)) w := by
  have hl := run_loadCells_list (P := Tryz.prog) (w := w) ⟨g, o, none⟩ (lcs l).toList (fun j v hv => by rw [addr_add]; exact hc j v (by simpa using hv))
  have hi := info61
  simp only [Instr.loadAt, Instr.sureAddr, Sem.run_bind, Sem.run_pure, Result.andThen]
  cases hq : Tryz.prog.info? 57 with
  | none => simp [hq] at hi
  | some i =>
    have hs : i.size = 4 := by simpa [hq] using hi
    have hn : (lcs l).toList.length = 4 := rfl
    rw [hn] at hl
    have ha : (isAgg 57).run Tryz.prog w = .ok true w := by
      unfold isAgg
      rw [Sem.run_bind, run_underlying Tryz.underlying57 w]
      simp
    simp [loadVar, ha, sizeOf, typeInfo, hq, hs, hl]
theorem wpList_lkAt {ops : Array Oper} {rest : List Oper} {o : Oper} {a : Act} {Q : Exit → Act → World → Prop} {w : World} {p : Operand} (hgd : Region.wanted o (yielded ops a.tmps) = true) (ho : o.op = .load 57 p) (g off : Nat) (l : Lk)
    (hp : a.eval p = .pointer (some ⟨g, off, none⟩)) (hc : ∀ j u, (lcs l)[j]? = some u → w.cell? ⟨g, off + j, none⟩ = some u)
    (h : wpList Tryz.prog ops Q rest (a.put o.dst (.agg (lcs l))) w) : wpList Tryz.prog ops Q (o :: rest) a w := by
  refine wpList_wanted hgd fun K hK => ?_
  unfold Oper.wp execOp
  simp only [ho, Sem.run_bind, hp, load_lk g off l hc, Result.andThen_ok]
  exact hK _ _ h
end
section
open Go.ChangeShapes Go.WideShapes Go.ChangeAt Go.RowKit Go.Deep Go.Joins Go
theorem infoLk_ex : ∃ i, Tryz.prog.info? 57 = some i ∧ i.zero = some (.agg zlk) ∧ i.size = 4 ∧ i.bytes = 40 := by
  have h : (Tryz.prog.info? 57).map (fun i => (i.zero, i.size, i.bytes)) = some (some (.agg zlk), 4, 40) := by kernel_rfl
  cases hi : Tryz.prog.info? 57 with
  | none => rw [hi] at h; cases h
  | some i =>
    rw [hi] at h
    injection h with h
    injection h with h1 h2
    injection h2 with h2 h3
    exact ⟨i, rfl, h1, h2, h3⟩
end
section
open Go.RowKit
/-- What growing the lists of a kind leaves. -/
def GrP (F : Knd) (J : Nat) (w : World) (base B : Nat) (C : Array Value) (vb vo : Value) (es : List Ent) (t u : Nat) (w' : World) : Prop :=
  ∃ vb' vo' es' a' C', w'.heap[B]? = some (.cells C' 45 (0, 0)) ∧ Chg (fun k => k = J ∨ k = J + 1 ∨ k = J + 2) C C' ∧ C'[J]? = some vb' ∧ C'[J + 1]? = some vo' ∧ C'[J + 2]? = some (.int .i64 ((a' : Nat) : Int)) ∧ Ko F w' base vb' vo' es' a' t u ∧ Kp (fun q => q = B ∨ Fut vb vo es q) w w' ∧ ∀ q, Fut vb' vo' es' q → Fut vb vo es q ∨ w.heap.size ≤ q
theorem cset (C : Array Value) (j : Nat) (vb vo v3 v5 : Value) : ((((C.setIfInBounds j vb).setIfInBounds (j + 1) vo).setIfInBounds j v3).setIfInBounds (j + 1) v5) = (C.setIfInBounds j v3).setIfInBounds (j + 1) v5 := by
  apply Array.ext_getElem?
  intro k
  simp only [Array.getElem?_setIfInBounds, Array.size_setIfInBounds]
  by_cases h1 : j + 1 = k
  · simp [h1]
  · by_cases h2 : j = k
    · subst h2
      simp
    · simp [h1, h2]
section
variable {F : Knd} {w0 : World} {base B : Nat} {C0 : Array Value} {j : Nat} {vb0 vo0 : Value} {es0 : List Ent} {t : Nat}
theorem Gw.c0 {w : World} {vb vo : Value} {es : List Ent} {k : Nat} (h : Gw F w0 base B C0 j vb0 vo0 es0 t w vb vo es k) (hj : j + 1 < C0.size) : w.cell? ⟨B, j, none⟩ = some vb := blk_cell h.blk (by rw [get_set_ne (by omega), get_set (by omega)])
theorem Gw.c1 {w : World} {vb vo : Value} {es : List Ent} {k : Nat} (h : Gw F w0 base B C0 j vb0 vo0 es0 t w vb vo es k) (hj : j + 1 < C0.size) : w.cell? ⟨B, j + 1, none⟩ = some vo := blk_cell h.blk (get_set (by simp; omega))
theorem Gw.cx {w : World} {vb vo x : Value} {es : List Ent} {k i : Nat} (h : Gw F w0 base B C0 j vb0 vo0 es0 t w vb vo es k) (h1 : i ≠ j) (h2 : i ≠ j + 1) (hx : C0[i]? = some x) : w.cell? ⟨B, i, none⟩ = some x := blk_cell h.blk (by rw [get_set_ne h2, get_set_ne h1]; exact hx)
theorem Gw.next {w w' : World} {vb vo : Value} {es : List Ent} {k : Nat} (h : Gw F w0 base B C0 j vb0 vo0 es0 t w vb vo es k) (hb : Below w.heap.size w w') : Gw F w0 base B C0 j vb0 vo0 es0 t w' vb vo es k :=
  ⟨(hb.block B (blk_lt h.blk)).trans h.blk, h.core.kp (Kp.of_below (S := fun _ => False) hb) (fun _ _ e => e), h.pre, h.kp.trans (Kp.of_below (S := fun _ => False) hb) (fun _ _ e => e.elim), h.foot, h.un, h.old⟩
theorem Ik.next {w w' : World} {vb vo : Value} {es : List Ent} {k : Nat} {e : Ent} {i : Nat} {gv : Value} (h : Ik F w0 base B C0 j vb0 vo0 es0 t w vb vo es k e i gv) (hb : Below w.heap.size w w') : Ik F w0 base B C0 j vb0 vo0 es0 t w' vb vo es k e i gv :=
  ⟨h.g.next hb, (Kp.of_below (S := fun _ => False) hb).owns h.own (fun _ _ e => e), h.gb, h.share⟩
theorem Gw.start {w : World} {vb vo : Value} {es : List Ent} {a u : Nat} {C : Array Value} (hB : w.heap[B]? = some (.cells C 45 (0, 0))) (h0 : C[j]? = some vb) (h1 : C[j + 1]? = some vo) (hK : Ko F w base vb vo es a t u) : Gw F w base B C j vb vo es t w vb vo es a := by
  refine ⟨?_, hK.c, fun _ _ h => h, Kp.refl _ _, fun q hq => .inl hq, fun j ej hj hej i ei hei hij q hq => hK.hg i j ei ej hei hej hj hij q hq, fun j ej hej q hq => ((hK.c.he ej (List.mem_of_getElem? hej)).lt q hq).2⟩
  rw [set_id h0, set_id h1]
  exact hB
theorem Gw.fin (hF : F.Ok) {w : World} {vb vo : Value} {es : List Ent} {k a u : Nat} (h : Gw F w0 base B C0 j vb0 vo0 es0 t w vb vo es k) (hj : j + 2 < C0.size) (h0 : Ko F w0 base vb0 vo0 es0 a t u) (hp : 1 ≤ F.per) (hl : es.length = es0.length + (F.per - 1) * (es0.length - a)) : GrP F j w0 base B C0 vb0 vo0 es0 t u (w.setCell ⟨B, j + 2, none⟩ (.int .i64 ((es.length : Nat) : Int))) := by
  have hk : Kp (fun q => q = B) w (w.setCell ⟨B, j + 2, none⟩ (.int .i64 ((es.length : Nat) : Int))) := (Kp.refl _ _).setCell _ _ (fun _ => rfl)
  refine ⟨vb, vo, es, es.length, _, blk_set (j + 2) _ h.blk, ?_, ?_, ?_, ?_, (h.done h0 hp hl).kp hk (fun q hf e => h.core.notB hF h.blk (by rw [← e]; exact hf)), h.kp.trans hk (fun q _ e => .inl e), h.foot⟩
  · refine ⟨by simp, fun k hk => ?_⟩
    rw [get_set_ne (fun e => hk (.inr (.inr e))), get_set_ne (fun e => hk (.inr (.inl e))), get_set_ne (fun e => hk (.inl e))]
  · rw [get_set_ne (by omega), get_set_ne (by omega), get_set (by omega)]
  · rw [get_set_ne (by omega), get_set (by simp; omega)]
  · exact get_set (by simp; omega)
end
set_option maxRecDepth 1000000 in
set_option maxHeartbeats 1000000 in
theorem growTextsK_any {w : World} {base B : Nat} {C : Array Value} {vb vo : Value} {es : List Ent} {a t u : Nat} (hB : w.heap[B]? = some (.cells C 45 (0, 0))) (h57 : C.size = 57) (hJ0 : C[6]? = some vb) (hJ1 : C[7]? = some vo) (hJ2 : C[8]? = some (.int .i64 ((a : Nat) : Int))) (hK : Ko KT w base vb vo es a t u) (ht : t < 68719476736) (hu : u ≤ 16777216) (hbase : base ≤ w.heap.size) :
    Calls Tryz.prog 37 #[.pointer (some ⟨B, 0, none⟩)] w fun e w' => e = .returned (.tuple #[]) ∧ Hid (GrP KT 6 w base B C vb vo es t u w') := by
  obtain ⟨ab, capb, hvb, -, -, -⟩ := own_form hK.c.hb
  have HBASE := hide hbase
  have H57 := hide h57
  have HJ2 := hide hJ2
  have HK := hide hK
  have hal : a ≤ es.length := by obtain ⟨c, r, h1, h2, _⟩ := hK.count; omega
  have hel : es.length ≤ 139810 := by obtain ⟨c, r, h1, h2, h3⟩ := hK.count; simp only [KT] at h2 h3; omega
  have HG0 : Hid (Gw KT w base B C 6 vb vo es t w vb vo es a) := Gw.start hB hJ0 hJ1 hK
  have HTT := hide ht
  have c0 : w.cell? ⟨B, 6, none⟩ = some vb := blk_cell hB hJ0
  have c2 : w.cell? ⟨B, 8, none⟩ = some (.int .i64 (a : Nat)) := blk_cell hB hJ2
  clear hB h57 hJ0 hJ1 hJ2 hK ht hu hbase
  rw [hvb] at c0
  clear hvb
  obtain ⟨iL, hiL, hzL0, hzL1, hzL2⟩ := infoS_ex
  obtain ⟨iE, hiE, hzE0, hzE1, hzE2⟩ := info9_ex
  go_enter Tryz.func37, Tryz.ntmps37
  go_wp2
  clear c0 c2
  go_loopw [3] (fun i wr => ∃ (k : Nat) (vb2 vo2 : Value) (es2 : List Ent), k ≤ es.length ∧ a ≤ k ∧ i = .int .i64 k ∧ Hid (Gw KT w base B C 6 vb vo es t wr vb2 vo2 es2 k) ∧ Hid (es2.length = es.length + 5 * (k - a))) (fun i _ => es.length - (intOf i).toNat)
  case atStart => exact ⟨a, vb, vo, es, hal, Nat.le_refl _, rfl, HG0, by show _ = _; omega⟩
  case round =>
    obtain ⟨k, vb2, vo2, es2, hk, hak, rfl, HG, HL2⟩ := hrel
    clear HG0
    obtain ⟨ab2, capb2, hvb2, -, -, hcb2⟩ := own_form HG.out.core.hb
    obtain ⟨ao2, capo2, hvo2, -, -, hco2⟩ := own_form HG.out.core.ho
    have HCB := hide hcb2
    have HCO := hide hco2
    have c0 : wr.cell? ⟨B, 6, none⟩ = some vb2 := HG.out.c0 (by have := H57.out; omega)
    have c1 : wr.cell? ⟨B, 7, none⟩ = some vo2 := HG.out.c1 (by have := H57.out; omega)
    have c2 : wr.cell? ⟨B, 8, none⟩ = some (.int .i64 (a : Nat)) := HG.out.cx (by decide) (by decide) HJ2.out
    have f2 := blk_frozen 8 HG.out.blk
    have he2 : es2.length ≤ 1398100 := by have := HL2.out; omega
    clear hcb2 hco2
    by_cases hlt : k < es.length
    · have hlt' : (k : Int) < (es.length : Int) := by omega
      obtain ⟨e, hek⟩ : ∃ e, es[k]? = some e := ⟨es[k], by simp [hlt]⟩
      have hek2 := HG.out.pre k e hek
      have hk2 : k < es2.length := (List.getElem?_eq_some_iff.1 hek2).1
      obtain ⟨gb, hab, hcb1⟩ := HCB.out k e.val (by simp [hek2])
      obtain ⟨go, hao, hco1⟩ := HCO.out k (.int .i64 ((e.m : Nat) : Int)) (by simp [hek2])
      have hmm := HG.out.core.hm e (List.mem_of_getElem? hek2)
      have HIN := hide (HG.out.begin hek)
      obtain ⟨ae, ce, hev⟩ := own_slice HIN.out.own
      have HEK := hide hek
      have HMM : Hid (e.m ≤ t ∧ e.n < 68719476736) := ⟨hmm.1, HK.out.hn k e hek hak⟩
      rw [hab] at hvb2
      rw [hao] at hvo2
      rw [hvb2] at c0
      rw [hvo2] at c1
      rw [Nat.add_zero] at hev
      obtain ⟨ev, en, em⟩ := e
      simp only at hev hcb1 hco1
      subst hev
      clear hvb2 hvo2 hab hao HCB HCO hmm hek hek2 f2 c2
      obtain ⟨wo, rfl⟩ : ∃ x, wr = x := ⟨wr, rfl⟩
      go_wp2
      clear c0 c1 hcb1 hco1
      go_loopw [4, 6] (fun g i wr' => ∃ (q : Nat) (vb3 vo3 : Value) (es3 : List Ent) (ag : Option Addr) (cg : Nat), q ≤ 32 ∧ i = .int .i64 ((q + 1 : Nat)) ∧ g = .slice ag (en + q) cg ∧ Hid (Ik KT w base B C 6 vb vo es t wr' vb3 vo3 es3 k ⟨.slice ae en ce, en, em⟩ q (.slice ag (en + q) cg)) ∧ Hid (es3.length = es2.length + pq q)) (fun _ i _ => 33 - (intOf i).toNat)
      case atStart => exact ⟨0, vb2, vo2, es2, ae, ce, by omega, rfl, rfl, HIN, rfl⟩
      case round =>
        obtain ⟨q, vb3, vo3, es3, ag, cg, hq, rfl, rfl, HI, HL3⟩ := hrel
        have hpc := pq_le q
        have he3 : es3.length ≤ 1398200 := by have := HL3.out; omega
        have HSZB : Hid (base ≤ wr.heap.size) := Nat.le_trans HBASE.out HI.out.g.kp.size
        clear HIN hpc
        by_cases hq96 : q < 32
        · have hq96' : ((q + 1 : Nat) : Int) ≤ 32 := by omega
          have HEN : Hid (en < 68719476736) := HMM.out.2
          have HEM : Hid (em ≤ t) := HMM.out.1
          have HMK := hide (fun W => textsMark_any (em : Int) W (by omega) (by have h1 := HEM.out; have h2 := HTT.out; omega))
          go_wp2_with fail
          refine (HMK.out _).mono ?_
          rintro e w1 ⟨rfl, hb1⟩
          have HI1 := hide (HI.out.next hb1)
          have HSZ1 : Hid (base ≤ w1.heap.size) := Nat.le_trans HSZB.out hb1.size
          have HO3 : Hid (w1.ownsRow base 9 1 (Value.slice ag (en + q) cg) (en + q) (KT.mkl em (en + q))) := HI1.out.own
          clear hb1 HI HMK
          rw [Int.toNat_natCast]
          go_wp2_with (at_builtin; refine append_mk rfl _ _ 58 9 iE _ 1 16 Tryz.underlying58 hiE hzE0 hzE1 hzE2 rfl (by decide) rfl base _ (en + q) _ rfl HO3.out #[.string (tmk em)] rfl ?c1 _ rfl rfl ?c2 (by decide) HSZ1.out ?_)
          case c1 => exact rfl
          case c2 => have := HEN.out; omega
          intro g4 w4 ho4 hkeep4 hk4 hat4
          obtain ⟨a4, c4, hg4⟩ := own_slice ho4
          have HI4 := hide (HI1.out.append KT_ok HEK.out ho4 hkeep4 hk4 hat4)
          have hsz4 : w1.heap.size ≤ w4.heap.size := hk4.size
          have HSZ4 : Hid (base ≤ w4.heap.size) := Nat.le_trans HSZ1.out hsz4
          subst hg4
          clear ho4 hkeep4 hk4 hat4 hsz4 HI1 HO3
          clear hq96'
          have hpos : ((q : Int) + 1 < 4 ∨ (¬ (q : Int) + 1 < 4 ∧ (((q : Int) + 1) % 16 == 0) = true)) ∨ (¬ (q : Int) + 1 < 4 ∧ (((q : Int) + 1) % 16 == 0) = false) := by
            by_cases h1 : q + 1 < 4
            · exact .inl (.inl (by omega))
            · by_cases h2 : (q + 1) % 16 = 0
              · exact .inl (.inr ⟨by omega, beq_iff_eq.2 (by omega)⟩)
              · exact .inr ⟨by omega, beq_eq_false_iff_ne.2 (by omega)⟩
          rcases hpos with hpos | ⟨hno1, hno2⟩
          · have hpc1 : pq (q + 1) = pq q + 1 := by
              refine pq_yes ?_
              rcases hpos with h | ⟨_, h⟩
              · left; omega
              · right; have := beq_iff_eq.1 h; omega
            have HPC := hide hpc1
            have c0 : w4.cell? ⟨B, 6, none⟩ = some vb3 := HI4.out.g.c0 (by have := H57.out; omega)
            clear hpc1
            rcases hpos with hno1 | ⟨hno1, hno2⟩
            all_goals
              go_wp2_with (at_builtin; refine append_lst rfl _ _ 28 58 iL Tryz.underlying28 hiL hzL0 hzL1 hzL2 rfl base vb3 es3.length _ rfl HI4.out.g.core.hb _ _ rfl rfl rfl (by omega) HSZ4.out ?_)
              intro v5 w5 ho5 hg5 hat5
              obtain ⟨a5, c5, hv5⟩ := own_slice ho5
              obtain ⟨hblk5, hblk6, hhalf, hkp5⟩ := HI4.out.g.core.push_a KT_ok HI4.out.g.blk 6 ⟨Value.slice a4 (en + q + 1) c4, en + (q + 1), em⟩ HI4.out.own v5 ho5 hg5
              have c0' : w5.cell? ⟨B, 6, none⟩ = some vb3 := blk_cell hblk5 (by rw [get_set_ne (by decide), get_set (by have := H57.out; omega)])
              have c1' : (w5.setCell ⟨B, 6, none⟩ v5).cell? ⟨B, 7, none⟩ = some vo3 := blk_cell hblk6 (by rw [get_set_ne (by decide), get_set (by have := H57.out; simp; omega)])
              have f0' := blk_frozen 6 hblk5
              have HHF := hide hhalf
              have HKP5 := hide hkp5
              have HBK6 := hide hblk6
              have HAT5 : Hid (∀ z, v5.ownBlock = some z → vb3.ownBlock = some z ∨ w.heap.size ≤ z) := fun z hz => by
                rcases hat5 with h | h
                · exact .inl (by rw [← h]; exact hz)
                · rw [h] at hz; injection hz with hz; exact .inr (by have := HI4.out.g.kp.size; omega)
              have HSZ5 : Hid (base ≤ (w5.setCell ⟨B, 6, none⟩ v5).heap.size ∧ w.heap.size ≤ (w5.setCell ⟨B, 6, none⟩ v5).heap.size) := ⟨Nat.le_trans HSZ4.out hkp5.size, Nat.le_trans HI4.out.g.kp.size hkp5.size⟩
              subst hv5
              clear ho5 hg5 hat5 hblk5 hblk6 hhalf hkp5 c0
              go_wp2_with (at_builtin; refine append_int rfl _ _ rfl base vo3 es3.length _ rfl HHF.out.ho _ w5.heap.size (by simp) rfl (by omega) HSZ5.out.1 ?_)
              intro v7 w7 ho7 hg7 hat7
              obtain ⟨a7, c7, hv7⟩ := own_slice ho7
              obtain ⟨hblk7, hblk8, hbk7, hkp7⟩ := HHF.out.push_b KT_ok (t := t) HBK6.out 7 v7 ho7 hg7 HI4.out.g.core.hs (fun x hx z h1 h2 => (HI4.out.share x hx z h1 h2).1) HI4.out.g.core.hm ⟨HEM.out, by have := HEN.out; show en + (q + 1) < _; omega⟩
              have c1'' : w7.cell? ⟨B, 7, none⟩ = some vo3 := blk_cell hblk7 (by rw [get_set_ne (by decide), get_set (by have := H57.out; simp; omega)])
              have f1'' := blk_frozen 7 hblk7
              have hkall : Kp (fun z => z = B ∨ vb3.ownBlock = some z ∨ vo3.ownBlock = some z) w4 (w7.setCell ⟨B, 7, none⟩ v7) :=
                (HKP5.out.mono (fun z _ hz => by rcases hz with h | h; exact .inl h; exact .inr (.inl h))).trans hkp7 (fun z _ hz => by rcases hz with h | h; exact .inl h; exact .inr (.inr h))
              have hbl9 := hblk8
              rw [cset C 6] at hbl9
              have HI7 := hide (HI4.out.push HEK.out hbl9 hbk7 hkall HAT5.out (fun z hz => by
                rcases hat7 with h | h
                · exact .inl (by rw [← h]; exact hz)
                · rw [h] at hz; injection hz with hz; exact .inr (by have := HSZ5.out.2; simp at this; omega)))
              subst hv7
              clear ho7 hg7 hat7 hblk7 hblk8 hbl9 hbk7 hkp7 hkall c0' c1' f0' HHF HKP5 HAT5 HSZ5 HI4 HBK6
              go_wp2
              go_roundw
              case rel => exact ⟨q + 1, _, _, _, _, _, by omega, by go_num, rfl, HI7, by show _ = _; have h1 := HL3.out; have h2 := HPC.out; simp; omega⟩
              case measure => simp [intOf]; omega
          · have hpc1 : pq (q + 1) = pq q := by
              refine pq_no ?_
              have := beq_eq_false_iff_ne.1 hno2
              omega
            have HPC := hide hpc1
            clear hpc1
            go_wp2
            go_roundw
            case rel => exact ⟨q + 1, _, _, _, _, _, by omega, by go_num, rfl, HI4, by show _ = _; have h1 := HL3.out; have h2 := HPC.out; omega⟩
            case measure => simp [intOf]; omega
        · have hq96' : ¬ ((q : Int) + 1) ≤ 32 := by omega
          have hqq : q = 32 := by omega
          have HQQ := hide hqq
          clear hqq hq96
          go_wp2
          go_roundw
          case rel =>
            refine ⟨k + 1, vb3, vo3, es3, by omega, by omega, by go_num, HI.out.g, ?_⟩
            have h1 := HL3.out
            have h2 := HL2.out
            rw [HQQ.out, pq_32] at h1
            show _ = _
            omega
          case measure => simp [intOf]; omega
    · have hlt' : ¬ (k : Int) < (es.length : Int) := by omega
      have hke : k = es.length := by omega
      rw [hvb2] at c0
      have HFI : Hid (GrP KT 6 w base B C vb vo es t u (wr.setCell ⟨B, 8, none⟩ (.int .i64 ((es2.length : Nat) : Int)))) := HG.out.fin KT_ok (by have := H57.out; omega) HK.out (by decide) (by have := HL2.out; rw [hke] at this; exact this)
      clear hke
      go_wp2
      go_end0
      exact ⟨rfl, HFI⟩
end
section
open Go.RowKit
/-- A slice of one item. -/
theorem fill_oneS {s : Nat} (hs : 0 < s) (c cells : Array Value) (h : c.size = s) (hc : cells.size = s) : Instr.fill (fun i => some (i * s, s)) cells [(0, .agg c)] = some c := by
  obtain ⟨r, hr, hsz, hk⟩ := Great.fill_dense (s := s) hs [.agg c] 0 cells (by
    intro v hv
    simp only [List.mem_singleton] at hv
    subst hv
    simpa [Value.cells] using h) (by simp; omega)
  have e : r = c := by
    apply Array.ext_getElem?
    intro k
    rw [hk k]
    by_cases h1 : k < s
    · rw [if_pos ⟨by omega, by simp; omega⟩]
      simp [Value.cells, Nat.div_eq_of_lt h1, Nat.mod_eq_of_lt h1]
    · rw [if_neg (by simp; omega), Array.getElem?_eq_none (by omega), Array.getElem?_eq_none (by omega)]
  rw [e] at hr
  exact hr
theorem wpList_oneS {ops : Array Oper} {rest : List Oper} {o : Oper} {a : Act} {w : World} {Q : Exit → Act → World → Prop} {x0 : Operand} (hg : o.guard = none) (T1 e : TypeId) (ho : o.op = .buildSlice T1 1 #[(0, x0)]) (i : TypeInfo) (z : Value) (c : Array Value) (s : Nat) (hT : Tryz.prog.underlying T1 = some (.slice e)) (hi : Tryz.prog.info? e = some i) (hz : i.zero = some z) (hs : i.size = s) (hpos : 0 < s) (h24 : s ≤ 1000) (hc : c.size = s)
    (h0 : a.eval x0 = .agg c)
    (h : wpList Tryz.prog ops Q rest (a.put o.dst (.slice (some ⟨w.heap.size, 0, none⟩) 1 1)) (w.alloc (.cells c e))) : wpList Tryz.prog ops Q (o :: rest) a w := by
  refine wpList_buildSlice hg T1 e 1 _ ho c i z hT hi hz (by rw [hs]; omega) (by rw [hs]; omega) ?_ h
  rw [hs]
  have e : ((#[(0, x0)] : Array (Nat × Operand)).map fun (i, x) => (i, a.eval x)).toList = [(0, .agg c)] := by simp [h0]
  rw [e]
  exact fill_oneS hpos c _ hc (by simp)
/-! ### Links, values: their marks -/
def lma (m : Nat) : Array Value := #[.int .i64 (1000 + (m : Int)), .int .u64 0, .int .u64 0, .string ⟨#[]⟩]
def vma (m : Nat) : Array Value := #[.int .i64 (1000 + (m : Int)), .bool false, .bool false, .int .u64 0, .int .u64 0, .string ⟨#[]⟩, .slice none 0 0, .int .i64 0, .int .u64 0, .int .u64 0, .string ⟨#[]⟩, .slice none 0 0, .slice none 0 0]
def KL : Knd := ⟨117, 57, 4, 6, 8000, fun m _ => (lma m).toList⟩
def KV : Knd := ⟨59, 61, 13, 6, 8000, fun m _ => (vma m).toList⟩
theorem KL_ok : KL.Ok := ⟨by decide, by decide, by decide, by decide, by decide⟩
theorem KV_ok : KV.Ok := ⟨by decide, by decide, by decide, by decide, by decide⟩
theorem infoLS_ex : ∃ i, Tryz.prog.info? 117 = some i ∧ i.zero = some (.slice none 0 0) ∧ i.size = 1 ∧ i.bytes = 24 := by
  have h : (Tryz.prog.info? 117).map (fun i => (i.zero, i.size, i.bytes)) = some (some (.slice none 0 0), 1, 24) := by kernel_rfl
  cases hi : Tryz.prog.info? 117 with
  | none => rw [hi] at h; cases h
  | some i => rw [hi] at h; simp at h; exact ⟨i, rfl, h.1, h.2.1, h.2.2⟩
theorem infoVS_ex : ∃ i, Tryz.prog.info? 59 = some i ∧ i.zero = some (.slice none 0 0) ∧ i.size = 1 ∧ i.bytes = 24 := by
  have h : (Tryz.prog.info? 59).map (fun i => (i.zero, i.size, i.bytes)) = some (some (.slice none 0 0), 1, 24) := by kernel_rfl
  cases hi : Tryz.prog.info? 59 with
  | none => rw [hi] at h; cases h
  | some i => rw [hi] at h; simp at h; exact ⟨i, rfl, h.1, h.2.1, h.2.2⟩
theorem lma_one (m : Nat) : ∀ u ∈ (lma m).toList, u.oneCell' = true := fun u hu => by
  simp only [lma, List.mem_cons, List.not_mem_nil, or_false] at hu
  rcases hu with rfl | rfl | rfl | rfl <;> rfl
theorem vma_one (m : Nat) : ∀ u ∈ (vma m).toList, u.oneCell' = true := fun u hu => by
  simp only [vma, List.mem_cons, List.not_mem_nil, or_false] at hu
  rcases hu with rfl | rfl | rfl | rfl | rfl | rfl | rfl | rfl | rfl | rfl | rfl | rfl | rfl <;> rfl
theorem infoLk : (Tryz.prog.info? 57).map (·.size) = some 4 := by kernel_rfl
theorem end_linksMark {wx : World} {R : Nat} {c : Array Value} {tmps : Array Value} (hn : (Tryz.prog.info? 57).map (·.size) = some c.size) (hr : wx.heap[R]? = some (.cells c 57 (0, 0))) (hp : tmps.getD 2 undef = .pointer (some ⟨R, 0, none⟩)) : (results Tryz.f73 tmps).run Tryz.prog wx = .ok (.agg c) wx := by
  refine (results_one (p := 2) (ty := 57) rfl _ _ _).trans ?_
  rw [hp]
  have h1 := run_loadVar_row (P := Tryz.prog) wx R 57 57 c (0, 0) _ hr Tryz.underlying57 rfl hn
  simp [asAddr, h1, Result.andThen]
set_option maxRecDepth 1000000 in
set_option maxHeartbeats 400000 in
theorem linksMark_any (m : Int) (w : World) (h0 : 0 ≤ m) (h1 : m < 1099511627776) : Calls Tryz.prog 73 #[.int .i64 m] w fun e w' => e = .returned (.agg (lma m.toNat)) ∧ Below w.heap.size w w' := by
  have HG := hide (heap_alloc_new w (.cells zlk 57))
  have hm : ((m.toNat : Nat) : Int) = m := by omega
  have HAL : Hid ((lma m.toNat).all (·.oneCell') = true) := by
    show _ = _
    rw [Array.all_eq_true']
    intro x hx
    exact lma_one m.toNat x (by simpa using hx)
  have hE : lma m.toNat = #[.int .i64 (1000 + m), .int .u64 0, .int .u64 0, .string ⟨#[]⟩] := by unfold lma; rw [hm]
  rw [hE] at HAL ⊢
  have HB := hide (below_alloc4 w (.cells #[.int .i64 (1000 + m), .int .u64 0, .int .u64 0, .string ⟨#[]⟩] 57))
  have HN := hide (heap_alloc_new w (.cells #[.int .i64 (1000 + m), .int .u64 0, .int .u64 0, .string ⟨#[]⟩] 57))
  clear hE hm
  go_enter Tryz.func73, Tryz.ntmps73
  go_wp2_with (refine wpList_storeRow rfl rfl w.heap.size zlk _ 57 rfl rfl HG.out infoLk rfl HAL.out ?_; rw [World.setRow_alloc_new])
  exact bodyPost_ret (end_linksMark (c := #[.int .i64 (1000 + m), .int .u64 0, .int .u64 0, .string ⟨#[]⟩]) infoLk HN.out rfl) rfl ⟨rfl, HB.out⟩
theorem end_valuesMark {wx : World} {R : Nat} {c : Array Value} {tmps : Array Value} (hn : (Tryz.prog.info? 61).map (·.size) = some c.size) (hr : wx.heap[R]? = some (.cells c 61 (0, 0))) (hp : tmps.getD 2 undef = .pointer (some ⟨R, 0, none⟩)) : (results Tryz.f68 tmps).run Tryz.prog wx = .ok (.agg c) wx := by
  refine (results_one (p := 2) (ty := 61) rfl _ _ _).trans ?_
  rw [hp]
  have h1 := run_loadVar_row (P := Tryz.prog) wx R 61 61 c (0, 0) _ hr Tryz.underlying61 rfl hn
  simp [asAddr, h1, Result.andThen]
set_option maxRecDepth 1000000 in
set_option maxHeartbeats 400000 in
theorem valuesMark_any (m : Int) (w : World) (h0 : 0 ≤ m) (h1 : m < 1099511627776) : Calls Tryz.prog 68 #[.int .i64 m] w fun e w' => e = .returned (.agg (vma m.toNat)) ∧ Below w.heap.size w w' := by
  have HG := hide (heap_alloc_new w (.cells zv 61))
  have hm : ((m.toNat : Nat) : Int) = m := by omega
  have HAL : Hid ((vma m.toNat).all (·.oneCell') = true) := by
    show _ = _
    rw [Array.all_eq_true']
    intro x hx
    exact vma_one m.toNat x (by simpa using hx)
  have hE : vma m.toNat = #[.int .i64 (1000 + m), .bool false, .bool false, .int .u64 0, .int .u64 0, .string ⟨#[]⟩, .slice none 0 0, .int .i64 0, .int .u64 0, .int .u64 0, .string ⟨#[]⟩, .slice none 0 0, .slice none 0 0] := by unfold vma; rw [hm]
  rw [hE] at HAL ⊢
  have HB := hide (below_alloc4 w (.cells #[.int .i64 (1000 + m), .bool false, .bool false, .int .u64 0, .int .u64 0, .string ⟨#[]⟩, .slice none 0 0, .int .i64 0, .int .u64 0, .int .u64 0, .string ⟨#[]⟩, .slice none 0 0, .slice none 0 0] 61))
  have HN := hide (heap_alloc_new w (.cells #[.int .i64 (1000 + m), .bool false, .bool false, .int .u64 0, .int .u64 0, .string ⟨#[]⟩, .slice none 0 0, .int .i64 0, .int .u64 0, .int .u64 0, .string ⟨#[]⟩, .slice none 0 0, .slice none 0 0] 61))
  clear hE hm
  go_enter Tryz.func68, Tryz.ntmps68
  go_wp2_with (refine wpList_storeRow rfl rfl w.heap.size zv _ 61 rfl rfl HG.out infoV rfl HAL.out ?_; rw [World.setRow_alloc_new])
  exact bodyPost_ret (end_valuesMark (c := #[.int .i64 (1000 + m), .bool false, .bool false, .int .u64 0, .int .u64 0, .string ⟨#[]⟩, .slice none 0 0, .int .i64 0, .int .u64 0, .int .u64 0, .string ⟨#[]⟩, .slice none 0 0, .slice none 0 0]) infoV HN.out rfl) rfl ⟨rfl, HB.out⟩
end
section
open Go.RowKit
set_option maxRecDepth 1000000 in
set_option maxHeartbeats 1000000 in
theorem growValuesK_any {w : World} {base B : Nat} {C : Array Value} {vb vo : Value} {es : List Ent} {a t u : Nat} (hB : w.heap[B]? = some (.cells C 45 (0, 0))) (h57 : C.size = 57) (hJ0 : C[30]? = some vb) (hJ1 : C[31]? = some vo) (hJ2 : C[32]? = some (.int .i64 ((a : Nat) : Int))) (hK : Ko KV w base vb vo es a t u) (ht : t < 68719476736) (hu : u ≤ 16777216) (hbase : base ≤ w.heap.size) :
    Calls Tryz.prog 45 #[.pointer (some ⟨B, 0, none⟩)] w fun e w' => e = .returned (.tuple #[]) ∧ Hid (GrP KV 30 w base B C vb vo es t u w') := by
  obtain ⟨ab, capb, hvb, -, -, -⟩ := own_form hK.c.hb
  have HBASE := hide hbase
  have H57 := hide h57
  have HJ2 := hide hJ2
  have HK := hide hK
  have hal : a ≤ es.length := by obtain ⟨c, r, h1, h2, _⟩ := hK.count; omega
  have hel : es.length ≤ 139810 := by obtain ⟨c, r, h1, h2, h3⟩ := hK.count; simp only [KV] at h2 h3; omega
  have HG0 : Hid (Gw KV w base B C 30 vb vo es t w vb vo es a) := Gw.start hB hJ0 hJ1 hK
  have HTT := hide ht
  have c0 : w.cell? ⟨B, 30, none⟩ = some vb := blk_cell hB hJ0
  have c2 : w.cell? ⟨B, 32, none⟩ = some (.int .i64 (a : Nat)) := blk_cell hB hJ2
  clear hB h57 hJ0 hJ1 hJ2 hK ht hu hbase
  rw [hvb] at c0
  clear hvb
  obtain ⟨iL, hiL, hzL0, hzL1, hzL2⟩ := infoVS_ex
  obtain ⟨iE, hiE, hzE0, hzE1, hzE2⟩ := infoV_ex
  go_enter Tryz.func45, Tryz.ntmps45
  go_wp2
  clear c0 c2
  go_loopw [3] (fun i wr => ∃ (k : Nat) (vb2 vo2 : Value) (es2 : List Ent), k ≤ es.length ∧ a ≤ k ∧ i = .int .i64 k ∧ Hid (Gw KV w base B C 30 vb vo es t wr vb2 vo2 es2 k) ∧ Hid (es2.length = es.length + 5 * (k - a))) (fun i _ => es.length - (intOf i).toNat)
  case atStart => exact ⟨a, vb, vo, es, hal, Nat.le_refl _, rfl, HG0, by show _ = _; omega⟩
  case round =>
    obtain ⟨k, vb2, vo2, es2, hk, hak, rfl, HG, HL2⟩ := hrel
    clear HG0
    obtain ⟨ab2, capb2, hvb2, -, -, hcb2⟩ := own_form HG.out.core.hb
    obtain ⟨ao2, capo2, hvo2, -, -, hco2⟩ := own_form HG.out.core.ho
    have HCB := hide hcb2
    have HCO := hide hco2
    have c0 : wr.cell? ⟨B, 30, none⟩ = some vb2 := HG.out.c0 (by have := H57.out; omega)
    have c1 : wr.cell? ⟨B, 31, none⟩ = some vo2 := HG.out.c1 (by have := H57.out; omega)
    have c2 : wr.cell? ⟨B, 32, none⟩ = some (.int .i64 (a : Nat)) := HG.out.cx (by decide) (by decide) HJ2.out
    have f2 := blk_frozen 32 HG.out.blk
    have he2 : es2.length ≤ 1398100 := by have := HL2.out; omega
    clear hcb2 hco2
    by_cases hlt : k < es.length
    · have hlt' : (k : Int) < (es.length : Int) := by omega
      obtain ⟨e, hek⟩ : ∃ e, es[k]? = some e := ⟨es[k], by simp [hlt]⟩
      have hek2 := HG.out.pre k e hek
      have hk2 : k < es2.length := (List.getElem?_eq_some_iff.1 hek2).1
      obtain ⟨gb, hab, hcb1⟩ := HCB.out k e.val (by simp [hek2])
      obtain ⟨go, hao, hco1⟩ := HCO.out k (.int .i64 ((e.m : Nat) : Int)) (by simp [hek2])
      have hmm := HG.out.core.hm e (List.mem_of_getElem? hek2)
      have HIN := hide (HG.out.begin hek)
      obtain ⟨ae, ce, hev⟩ := own_slice HIN.out.own
      have HEK := hide hek
      have HMM : Hid (e.m ≤ t ∧ e.n < 68719476736) := ⟨hmm.1, HK.out.hn k e hek hak⟩
      rw [hab] at hvb2
      rw [hao] at hvo2
      rw [hvb2] at c0
      rw [hvo2] at c1
      rw [Nat.add_zero] at hev
      obtain ⟨ev, en, em⟩ := e
      simp only at hev hcb1 hco1
      subst hev
      clear hvb2 hvo2 hab hao HCB HCO hmm hek hek2 f2 c2
      obtain ⟨wo, rfl⟩ : ∃ x, wr = x := ⟨wr, rfl⟩
      go_wp2
      clear c0 c1 hcb1 hco1
      go_loopw [4, 6] (fun g i wr' => ∃ (q : Nat) (vb3 vo3 : Value) (es3 : List Ent) (ag : Option Addr) (cg : Nat), q ≤ 32 ∧ i = .int .i64 ((q + 1 : Nat)) ∧ g = .slice ag (en + q) cg ∧ Hid (Ik KV w base B C 30 vb vo es t wr' vb3 vo3 es3 k ⟨.slice ae en ce, en, em⟩ q (.slice ag (en + q) cg)) ∧ Hid (es3.length = es2.length + pq q)) (fun _ i _ => 33 - (intOf i).toNat)
      case atStart => exact ⟨0, vb2, vo2, es2, ae, ce, by omega, rfl, rfl, HIN, rfl⟩
      case round =>
        obtain ⟨q, vb3, vo3, es3, ag, cg, hq, rfl, rfl, HI, HL3⟩ := hrel
        have hpc := pq_le q
        have he3 : es3.length ≤ 1398200 := by have := HL3.out; omega
        have HSZB : Hid (base ≤ wr.heap.size) := Nat.le_trans HBASE.out HI.out.g.kp.size
        clear HIN hpc
        by_cases hq96 : q < 32
        · have hq96' : ((q + 1 : Nat) : Int) ≤ 32 := by omega
          have HEN : Hid (en < 68719476736) := HMM.out.2
          have HEM : Hid (em ≤ t) := HMM.out.1
          have HMK := hide (fun W => valuesMark_any (em : Int) W (by omega) (by have h1 := HEM.out; have h2 := HTT.out; omega))
          go_wp2_with fail
          refine (HMK.out _).mono ?_
          rintro e w1 ⟨rfl, hb1⟩
          have HI1 := hide (HI.out.next hb1)
          have HSZ1 : Hid (base ≤ w1.heap.size) := Nat.le_trans HSZB.out hb1.size
          have HO3 : Hid (w1.ownsRow base 61 13 (Value.slice ag (en + q) cg) (en + q) (KV.mkl em (en + q))) := HI1.out.own
          clear hb1 HI HMK
          rw [Int.toNat_natCast]
          go_wp2_with (first
            | (refine wpList_oneS rfl 59 61 rfl iE _ (vma em) 13 Tryz.underlying59 hiE hzE0 hzE1 (by decide) (by decide) rfl rfl ?_)
            | (at_builtin; refine append_mk rfl _ _ 59 61 iE _ 13 160 Tryz.underlying59 hiE hzE0 hzE1 hzE2 rfl (by decide) rfl base _ (en + q) _ rfl HO3.out (vma em) rfl ?c1 _ rfl rfl ?c2 (by decide) HSZ1.out ?_))
          case c1 => exact vma_one em
          case c2 => have := HEN.out; omega
          intro g4 w4 ho4 hkeep4 hk4 hat4
          obtain ⟨a4, c4, hg4⟩ := own_slice ho4
          have HI4 := hide (HI1.out.append KV_ok HEK.out ho4 hkeep4 hk4 hat4)
          have hsz4 : w1.heap.size ≤ w4.heap.size := hk4.size
          have HSZ4 : Hid (base ≤ w4.heap.size) := Nat.le_trans HSZ1.out hsz4
          subst hg4
          clear ho4 hkeep4 hk4 hat4 hsz4 HI1 HO3
          clear hq96'
          have hpos : ((q : Int) + 1 < 4 ∨ (¬ (q : Int) + 1 < 4 ∧ (((q : Int) + 1) % 16 == 0) = true)) ∨ (¬ (q : Int) + 1 < 4 ∧ (((q : Int) + 1) % 16 == 0) = false) := by
            by_cases h1 : q + 1 < 4
            · exact .inl (.inl (by omega))
            · by_cases h2 : (q + 1) % 16 = 0
              · exact .inl (.inr ⟨by omega, beq_iff_eq.2 (by omega)⟩)
              · exact .inr ⟨by omega, beq_eq_false_iff_ne.2 (by omega)⟩
          rcases hpos with hpos | ⟨hno1, hno2⟩
          · have hpc1 : pq (q + 1) = pq q + 1 := by
              refine pq_yes ?_
              rcases hpos with h | ⟨_, h⟩
              · left; omega
              · right; have := beq_iff_eq.1 h; omega
            have HPC := hide hpc1
            have c0 : w4.cell? ⟨B, 30, none⟩ = some vb3 := HI4.out.g.c0 (by have := H57.out; omega)
            clear hpc1
            rcases hpos with hno1 | ⟨hno1, hno2⟩
            all_goals
              go_wp2_with (at_builtin; refine append_lst rfl _ _ 36 59 iL Tryz.underlying36 hiL hzL0 hzL1 hzL2 rfl base vb3 es3.length _ rfl HI4.out.g.core.hb _ _ rfl rfl rfl (by omega) HSZ4.out ?_)
              intro v5 w5 ho5 hg5 hat5
              obtain ⟨a5, c5, hv5⟩ := own_slice ho5
              obtain ⟨hblk5, hblk6, hhalf, hkp5⟩ := HI4.out.g.core.push_a KV_ok HI4.out.g.blk 30 ⟨Value.slice a4 (en + q + 1) c4, en + (q + 1), em⟩ HI4.out.own v5 ho5 hg5
              have c0' : w5.cell? ⟨B, 30, none⟩ = some vb3 := blk_cell hblk5 (by rw [get_set_ne (by decide), get_set (by have := H57.out; omega)])
              have c1' : (w5.setCell ⟨B, 30, none⟩ v5).cell? ⟨B, 31, none⟩ = some vo3 := blk_cell hblk6 (by rw [get_set_ne (by decide), get_set (by have := H57.out; simp; omega)])
              have f0' := blk_frozen 30 hblk5
              have HHF := hide hhalf
              have HKP5 := hide hkp5
              have HBK6 := hide hblk6
              have HAT5 : Hid (∀ z, v5.ownBlock = some z → vb3.ownBlock = some z ∨ w.heap.size ≤ z) := fun z hz => by
                rcases hat5 with h | h
                · exact .inl (by rw [← h]; exact hz)
                · rw [h] at hz; injection hz with hz; exact .inr (by have := HI4.out.g.kp.size; omega)
              have HSZ5 : Hid (base ≤ (w5.setCell ⟨B, 30, none⟩ v5).heap.size ∧ w.heap.size ≤ (w5.setCell ⟨B, 30, none⟩ v5).heap.size) := ⟨Nat.le_trans HSZ4.out hkp5.size, Nat.le_trans HI4.out.g.kp.size hkp5.size⟩
              subst hv5
              clear ho5 hg5 hat5 hblk5 hblk6 hhalf hkp5 c0
              go_wp2_with (at_builtin; refine append_int rfl _ _ rfl base vo3 es3.length _ rfl HHF.out.ho _ w5.heap.size (by simp) rfl (by omega) HSZ5.out.1 ?_)
              intro v7 w7 ho7 hg7 hat7
              obtain ⟨a7, c7, hv7⟩ := own_slice ho7
              obtain ⟨hblk7, hblk8, hbk7, hkp7⟩ := HHF.out.push_b KV_ok (t := t) HBK6.out 31 v7 ho7 hg7 HI4.out.g.core.hs (fun x hx z h1 h2 => (HI4.out.share x hx z h1 h2).1) HI4.out.g.core.hm ⟨HEM.out, by have := HEN.out; show en + (q + 1) < _; omega⟩
              have c1'' : w7.cell? ⟨B, 31, none⟩ = some vo3 := blk_cell hblk7 (by rw [get_set_ne (by decide), get_set (by have := H57.out; simp; omega)])
              have f1'' := blk_frozen 31 hblk7
              have hkall : Kp (fun z => z = B ∨ vb3.ownBlock = some z ∨ vo3.ownBlock = some z) w4 (w7.setCell ⟨B, 31, none⟩ v7) :=
                (HKP5.out.mono (fun z _ hz => by rcases hz with h | h; exact .inl h; exact .inr (.inl h))).trans hkp7 (fun z _ hz => by rcases hz with h | h; exact .inl h; exact .inr (.inr h))
              have hbl9 := hblk8
              rw [cset C 30] at hbl9
              have HI7 := hide (HI4.out.push HEK.out hbl9 hbk7 hkall HAT5.out (fun z hz => by
                rcases hat7 with h | h
                · exact .inl (by rw [← h]; exact hz)
                · rw [h] at hz; injection hz with hz; exact .inr (by have := HSZ5.out.2; simp at this; omega)))
              subst hv7
              clear ho7 hg7 hat7 hblk7 hblk8 hbl9 hbk7 hkp7 hkall c0' c1' f0' HHF HKP5 HAT5 HSZ5 HI4 HBK6
              go_wp2
              go_roundw
              case rel => exact ⟨q + 1, _, _, _, _, _, by omega, by go_num, rfl, HI7, by show _ = _; have h1 := HL3.out; have h2 := HPC.out; simp; omega⟩
              case measure => simp [intOf]; omega
          · have hpc1 : pq (q + 1) = pq q := by
              refine pq_no ?_
              have := beq_eq_false_iff_ne.1 hno2
              omega
            have HPC := hide hpc1
            clear hpc1
            go_wp2
            go_roundw
            case rel => exact ⟨q + 1, _, _, _, _, _, by omega, by go_num, rfl, HI4, by show _ = _; have h1 := HL3.out; have h2 := HPC.out; omega⟩
            case measure => simp [intOf]; omega
        · have hq96' : ¬ ((q : Int) + 1) ≤ 32 := by omega
          have hqq : q = 32 := by omega
          have HQQ := hide hqq
          clear hqq hq96
          go_wp2
          go_roundw
          case rel =>
            refine ⟨k + 1, vb3, vo3, es3, by omega, by omega, by go_num, HI.out.g, ?_⟩
            have h1 := HL3.out
            have h2 := HL2.out
            rw [HQQ.out, pq_32] at h1
            show _ = _
            omega
          case measure => simp [intOf]; omega
    · have hlt' : ¬ (k : Int) < (es.length : Int) := by omega
      have hke : k = es.length := by omega
      rw [hvb2] at c0
      have HFI : Hid (GrP KV 30 w base B C vb vo es t u (wr.setCell ⟨B, 32, none⟩ (.int .i64 ((es2.length : Nat) : Int)))) := HG.out.fin KV_ok (by have := H57.out; omega) HK.out (by decide) (by have := HL2.out; rw [hke] at this; exact this)
      clear hke
      go_wp2
      go_end0
      exact ⟨rfl, HFI⟩
end
section
open Go.RowKit
set_option maxRecDepth 1000000 in
set_option maxHeartbeats 1000000 in
theorem growLinksK_any {w : World} {base B : Nat} {C : Array Value} {vb vo : Value} {es : List Ent} {a t u : Nat} (hB : w.heap[B]? = some (.cells C 45 (0, 0))) (h57 : C.size = 57) (hJ0 : C[18]? = some vb) (hJ1 : C[19]? = some vo) (hJ2 : C[20]? = some (.int .i64 ((a : Nat) : Int))) (hK : Ko KL w base vb vo es a t u) (ht : t < 68719476736) (hu : u ≤ 16777216) (hbase : base ≤ w.heap.size) :
    Calls Tryz.prog 41 #[.pointer (some ⟨B, 0, none⟩)] w fun e w' => e = .returned (.tuple #[]) ∧ Hid (GrP KL 18 w base B C vb vo es t u w') := by
  obtain ⟨ab, capb, hvb, -, -, -⟩ := own_form hK.c.hb
  have HBASE := hide hbase
  have H57 := hide h57
  have HJ2 := hide hJ2
  have HK := hide hK
  have hal : a ≤ es.length := by obtain ⟨c, r, h1, h2, _⟩ := hK.count; omega
  have hel : es.length ≤ 139810 := by obtain ⟨c, r, h1, h2, h3⟩ := hK.count; simp only [KL] at h2 h3; omega
  have HG0 : Hid (Gw KL w base B C 18 vb vo es t w vb vo es a) := Gw.start hB hJ0 hJ1 hK
  have HTT := hide ht
  have c0 : w.cell? ⟨B, 18, none⟩ = some vb := blk_cell hB hJ0
  have c2 : w.cell? ⟨B, 20, none⟩ = some (.int .i64 (a : Nat)) := blk_cell hB hJ2
  clear hB h57 hJ0 hJ1 hJ2 hK ht hu hbase
  rw [hvb] at c0
  clear hvb
  obtain ⟨iL, hiL, hzL0, hzL1, hzL2⟩ := infoLS_ex
  obtain ⟨iE, hiE, hzE0, hzE1, hzE2⟩ := infoLk_ex
  go_enter Tryz.func41, Tryz.ntmps41
  go_wp2
  clear c0 c2
  go_loopw [3] (fun i wr => ∃ (k : Nat) (vb2 vo2 : Value) (es2 : List Ent), k ≤ es.length ∧ a ≤ k ∧ i = .int .i64 k ∧ Hid (Gw KL w base B C 18 vb vo es t wr vb2 vo2 es2 k) ∧ Hid (es2.length = es.length + 5 * (k - a))) (fun i _ => es.length - (intOf i).toNat)
  case atStart => exact ⟨a, vb, vo, es, hal, Nat.le_refl _, rfl, HG0, by show _ = _; omega⟩
  case round =>
    obtain ⟨k, vb2, vo2, es2, hk, hak, rfl, HG, HL2⟩ := hrel
    clear HG0
    obtain ⟨ab2, capb2, hvb2, -, -, hcb2⟩ := own_form HG.out.core.hb
    obtain ⟨ao2, capo2, hvo2, -, -, hco2⟩ := own_form HG.out.core.ho
    have HCB := hide hcb2
    have HCO := hide hco2
    have c0 : wr.cell? ⟨B, 18, none⟩ = some vb2 := HG.out.c0 (by have := H57.out; omega)
    have c1 : wr.cell? ⟨B, 19, none⟩ = some vo2 := HG.out.c1 (by have := H57.out; omega)
    have c2 : wr.cell? ⟨B, 20, none⟩ = some (.int .i64 (a : Nat)) := HG.out.cx (by decide) (by decide) HJ2.out
    have f2 := blk_frozen 20 HG.out.blk
    have he2 : es2.length ≤ 1398100 := by have := HL2.out; omega
    clear hcb2 hco2
    by_cases hlt : k < es.length
    · have hlt' : (k : Int) < (es.length : Int) := by omega
      obtain ⟨e, hek⟩ : ∃ e, es[k]? = some e := ⟨es[k], by simp [hlt]⟩
      have hek2 := HG.out.pre k e hek
      have hk2 : k < es2.length := (List.getElem?_eq_some_iff.1 hek2).1
      obtain ⟨gb, hab, hcb1⟩ := HCB.out k e.val (by simp [hek2])
      obtain ⟨go, hao, hco1⟩ := HCO.out k (.int .i64 ((e.m : Nat) : Int)) (by simp [hek2])
      have hmm := HG.out.core.hm e (List.mem_of_getElem? hek2)
      have HIN := hide (HG.out.begin hek)
      obtain ⟨ae, ce, hev⟩ := own_slice HIN.out.own
      have HEK := hide hek
      have HMM : Hid (e.m ≤ t ∧ e.n < 68719476736) := ⟨hmm.1, HK.out.hn k e hek hak⟩
      rw [hab] at hvb2
      rw [hao] at hvo2
      rw [hvb2] at c0
      rw [hvo2] at c1
      rw [Nat.add_zero] at hev
      obtain ⟨ev, en, em⟩ := e
      simp only at hev hcb1 hco1
      subst hev
      clear hvb2 hvo2 hab hao HCB HCO hmm hek hek2 f2 c2
      obtain ⟨wo, rfl⟩ : ∃ x, wr = x := ⟨wr, rfl⟩
      go_wp2
      clear c0 c1 hcb1 hco1
      go_loopw [4, 6] (fun g i wr' => ∃ (q : Nat) (vb3 vo3 : Value) (es3 : List Ent) (ag : Option Addr) (cg : Nat), q ≤ 32 ∧ i = .int .i64 ((q + 1 : Nat)) ∧ g = .slice ag (en + q) cg ∧ Hid (Ik KL w base B C 18 vb vo es t wr' vb3 vo3 es3 k ⟨.slice ae en ce, en, em⟩ q (.slice ag (en + q) cg)) ∧ Hid (es3.length = es2.length + pq q)) (fun _ i _ => 33 - (intOf i).toNat)
      case atStart => exact ⟨0, vb2, vo2, es2, ae, ce, by omega, rfl, rfl, HIN, rfl⟩
      case round =>
        obtain ⟨q, vb3, vo3, es3, ag, cg, hq, rfl, rfl, HI, HL3⟩ := hrel
        have hpc := pq_le q
        have he3 : es3.length ≤ 1398200 := by have := HL3.out; omega
        have HSZB : Hid (base ≤ wr.heap.size) := Nat.le_trans HBASE.out HI.out.g.kp.size
        clear HIN hpc
        by_cases hq96 : q < 32
        · have hq96' : ((q + 1 : Nat) : Int) ≤ 32 := by omega
          have HEN : Hid (en < 68719476736) := HMM.out.2
          have HEM : Hid (em ≤ t) := HMM.out.1
          have HMK := hide (fun W => linksMark_any (em : Int) W (by omega) (by have h1 := HEM.out; have h2 := HTT.out; omega))
          go_wp2_with fail
          refine (HMK.out _).mono ?_
          rintro e w1 ⟨rfl, hb1⟩
          have HI1 := hide (HI.out.next hb1)
          have HSZ1 : Hid (base ≤ w1.heap.size) := Nat.le_trans HSZB.out hb1.size
          have HO3 : Hid (w1.ownsRow base 57 4 (Value.slice ag (en + q) cg) (en + q) (KL.mkl em (en + q))) := HI1.out.own
          clear hb1 HI HMK
          rw [Int.toNat_natCast]
          go_wp2_with (first
            | (refine wpList_oneS rfl 117 57 rfl iE _ (lma em) 4 Tryz.underlying117 hiE hzE0 hzE1 (by decide) (by decide) rfl rfl ?_)
            | (at_builtin; refine append_mk rfl _ _ 117 57 iE _ 4 40 Tryz.underlying117 hiE hzE0 hzE1 hzE2 rfl (by decide) rfl base _ (en + q) _ rfl HO3.out (lma em) rfl ?c1 _ rfl rfl ?c2 (by decide) HSZ1.out ?_))
          case c1 => exact lma_one em
          case c2 => have := HEN.out; omega
          intro g4 w4 ho4 hkeep4 hk4 hat4
          obtain ⟨a4, c4, hg4⟩ := own_slice ho4
          have HI4 := hide (HI1.out.append KL_ok HEK.out ho4 hkeep4 hk4 hat4)
          have hsz4 : w1.heap.size ≤ w4.heap.size := hk4.size
          have HSZ4 : Hid (base ≤ w4.heap.size) := Nat.le_trans HSZ1.out hsz4
          subst hg4
          clear ho4 hkeep4 hk4 hat4 hsz4 HI1 HO3
          clear hq96'
          have hpos : ((q : Int) + 1 < 4 ∨ (¬ (q : Int) + 1 < 4 ∧ (((q : Int) + 1) % 16 == 0) = true)) ∨ (¬ (q : Int) + 1 < 4 ∧ (((q : Int) + 1) % 16 == 0) = false) := by
            by_cases h1 : q + 1 < 4
            · exact .inl (.inl (by omega))
            · by_cases h2 : (q + 1) % 16 = 0
              · exact .inl (.inr ⟨by omega, beq_iff_eq.2 (by omega)⟩)
              · exact .inr ⟨by omega, beq_eq_false_iff_ne.2 (by omega)⟩
          rcases hpos with hpos | ⟨hno1, hno2⟩
          · have hpc1 : pq (q + 1) = pq q + 1 := by
              refine pq_yes ?_
              rcases hpos with h | ⟨_, h⟩
              · left; omega
              · right; have := beq_iff_eq.1 h; omega
            have HPC := hide hpc1
            have c0 : w4.cell? ⟨B, 18, none⟩ = some vb3 := HI4.out.g.c0 (by have := H57.out; omega)
            clear hpc1
            rcases hpos with hno1 | ⟨hno1, hno2⟩
            all_goals
              go_wp2_with (at_builtin; refine append_lst rfl _ _ 32 117 iL Tryz.underlying32 hiL hzL0 hzL1 hzL2 rfl base vb3 es3.length _ rfl HI4.out.g.core.hb _ _ rfl rfl rfl (by omega) HSZ4.out ?_)
              intro v5 w5 ho5 hg5 hat5
              obtain ⟨a5, c5, hv5⟩ := own_slice ho5
              obtain ⟨hblk5, hblk6, hhalf, hkp5⟩ := HI4.out.g.core.push_a KL_ok HI4.out.g.blk 18 ⟨Value.slice a4 (en + q + 1) c4, en + (q + 1), em⟩ HI4.out.own v5 ho5 hg5
              have c0' : w5.cell? ⟨B, 18, none⟩ = some vb3 := blk_cell hblk5 (by rw [get_set_ne (by decide), get_set (by have := H57.out; omega)])
              have c1' : (w5.setCell ⟨B, 18, none⟩ v5).cell? ⟨B, 19, none⟩ = some vo3 := blk_cell hblk6 (by rw [get_set_ne (by decide), get_set (by have := H57.out; simp; omega)])
              have f0' := blk_frozen 18 hblk5
              have HHF := hide hhalf
              have HKP5 := hide hkp5
              have HBK6 := hide hblk6
              have HAT5 : Hid (∀ z, v5.ownBlock = some z → vb3.ownBlock = some z ∨ w.heap.size ≤ z) := fun z hz => by
                rcases hat5 with h | h
                · exact .inl (by rw [← h]; exact hz)
                · rw [h] at hz; injection hz with hz; exact .inr (by have := HI4.out.g.kp.size; omega)
              have HSZ5 : Hid (base ≤ (w5.setCell ⟨B, 18, none⟩ v5).heap.size ∧ w.heap.size ≤ (w5.setCell ⟨B, 18, none⟩ v5).heap.size) := ⟨Nat.le_trans HSZ4.out hkp5.size, Nat.le_trans HI4.out.g.kp.size hkp5.size⟩
              subst hv5
              clear ho5 hg5 hat5 hblk5 hblk6 hhalf hkp5 c0
              go_wp2_with (at_builtin; refine append_int rfl _ _ rfl base vo3 es3.length _ rfl HHF.out.ho _ w5.heap.size (by simp) rfl (by omega) HSZ5.out.1 ?_)
              intro v7 w7 ho7 hg7 hat7
              obtain ⟨a7, c7, hv7⟩ := own_slice ho7
              obtain ⟨hblk7, hblk8, hbk7, hkp7⟩ := HHF.out.push_b KL_ok (t := t) HBK6.out 19 v7 ho7 hg7 HI4.out.g.core.hs (fun x hx z h1 h2 => (HI4.out.share x hx z h1 h2).1) HI4.out.g.core.hm ⟨HEM.out, by have := HEN.out; show en + (q + 1) < _; omega⟩
              have c1'' : w7.cell? ⟨B, 19, none⟩ = some vo3 := blk_cell hblk7 (by rw [get_set_ne (by decide), get_set (by have := H57.out; simp; omega)])
              have f1'' := blk_frozen 19 hblk7
              have hkall : Kp (fun z => z = B ∨ vb3.ownBlock = some z ∨ vo3.ownBlock = some z) w4 (w7.setCell ⟨B, 19, none⟩ v7) :=
                (HKP5.out.mono (fun z _ hz => by rcases hz with h | h; exact .inl h; exact .inr (.inl h))).trans hkp7 (fun z _ hz => by rcases hz with h | h; exact .inl h; exact .inr (.inr h))
              have hbl9 := hblk8
              rw [cset C 18] at hbl9
              have HI7 := hide (HI4.out.push HEK.out hbl9 hbk7 hkall HAT5.out (fun z hz => by
                rcases hat7 with h | h
                · exact .inl (by rw [← h]; exact hz)
                · rw [h] at hz; injection hz with hz; exact .inr (by have := HSZ5.out.2; simp at this; omega)))
              subst hv7
              clear ho7 hg7 hat7 hblk7 hblk8 hbl9 hbk7 hkp7 hkall c0' c1' f0' HHF HKP5 HAT5 HSZ5 HI4 HBK6
              go_wp2
              go_roundw
              case rel => exact ⟨q + 1, _, _, _, _, _, by omega, by go_num, rfl, HI7, by show _ = _; have h1 := HL3.out; have h2 := HPC.out; simp; omega⟩
              case measure => simp [intOf]; omega
          · have hpc1 : pq (q + 1) = pq q := by
              refine pq_no ?_
              have := beq_eq_false_iff_ne.1 hno2
              omega
            have HPC := hide hpc1
            clear hpc1
            go_wp2
            go_roundw
            case rel => exact ⟨q + 1, _, _, _, _, _, by omega, by go_num, rfl, HI4, by show _ = _; have h1 := HL3.out; have h2 := HPC.out; omega⟩
            case measure => simp [intOf]; omega
        · have hq96' : ¬ ((q : Int) + 1) ≤ 32 := by omega
          have hqq : q = 32 := by omega
          have HQQ := hide hqq
          clear hqq hq96
          go_wp2
          go_roundw
          case rel =>
            refine ⟨k + 1, vb3, vo3, es3, by omega, by omega, by go_num, HI.out.g, ?_⟩
            have h1 := HL3.out
            have h2 := HL2.out
            rw [HQQ.out, pq_32] at h1
            show _ = _
            omega
          case measure => simp [intOf]; omega
    · have hlt' : ¬ (k : Int) < (es.length : Int) := by omega
      have hke : k = es.length := by omega
      rw [hvb2] at c0
      have HFI : Hid (GrP KL 18 w base B C vb vo es t u (wr.setCell ⟨B, 20, none⟩ (.int .i64 ((es2.length : Nat) : Int)))) := HG.out.fin KL_ok (by have := H57.out; omega) HK.out (by decide) (by have := HL2.out; rw [hke] at this; exact this)
      clear hke
      go_wp2
      go_end0
      exact ⟨rfl, HFI⟩
end
section
open Go.RowKit Go

end
section
open Go.RowKit Go
section
variable {P : Program} {Q : Exit → Act → World → Prop} {S : World → Prop} {l : List Oper} {fuel : Nat} {listed : Array Bool} {a : Act} {w : World}
/-- A region that draws its order, by hand: begin. -/
theorem heldStart {id : Nat} (hm : P.follows .mixedOrders = true) (h : wpAnyH P .any l.toArray Q S l.length (Array.replicate l.length false) a w.drew) : (Code.region id l.toArray true).wp P Q a w :=
  wp_region_held (S := S) hm (by simpa using h)
/-- Take one first that reads alone. -/
theorem heldTake (i : Nat) {oi : Oper} (v : Value) (hi : l[i]? = some oi) (hs : Region.noSelect l.toArray = true) (hf : Region.free .any l.toArray listed i = true) (hr : (Region.ready .any l.toArray listed).contains i = true)
    (hQ : ∀ c a w, Q (.panic c) (a.put oi.dst v) w → Q (.panic c) a w) (hw : Region.wanted oi (yielded l.toArray a.tmps) = true) (hS : S w) (hy : ∀ w, S w → (execOp a.eval oi).run P w = .ok (.value v) w)
    (h : wpAnyH P .any l.toArray Q S fuel (listed.setIfInBounds i true) (a.put oi.dst v) w) : wpAnyH P .any l.toArray Q S (fuel + 1) listed a w :=
  wpAnyH_take (by simpa using hi) hs hf hr hQ (.inl ⟨hw, hy⟩) hS h
/-- The only one that may come up. -/
theorem heldStep (i : Nat) {oi : Oper} (hi : l[i]? = some oi) (hr : Region.ready .any l.toArray listed = [i])
    (h : ∀ K : Act → World → Prop, Hid (∀ a w, S w → (S w → wpAnyH P .any l.toArray Q S fuel (listed.setIfInBounds i true) a w) → K a w) → if Region.wanted oi (yielded l.toArray a.tmps) = true then Oper.wp P oi a w K Q else K (a.put oi.dst undef) w) : wpAnyH P .any l.toArray Q S (fuel + 1) listed a w :=
  wpAnyH_ready hr (by simp) (AllReadyH.cons (by simpa using hi) (fun K hK => h K hK) AllReadyH.nil)
theorem heldDone (hr : Region.ready .any l.toArray listed = []) (h : Q .normal a w) : wpAnyH P .any l.toArray Q S fuel listed a w := wpAnyH_done hr h fuel
end
end
section
open Go.RowKit Go

end
section
open Go.RowKit Go

end
section
open Go.RowKit Go

end
section
open Go.RowKit Go

end
end Go.Proofs.YtdejcapbggjjgaaGreatDoor
