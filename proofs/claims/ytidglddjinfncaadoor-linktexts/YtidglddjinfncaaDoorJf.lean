import Derived.Test.YtidglddjinfncaaDoorJe
import Derived.Laws.Concat
import Derived.Lib.BytesEntry
import Derived.Laws.Externs
import Derived.ProofKit
import Derived.OpenShut
import Derived.SizedLaws
import Derived.Deep.Matrix
namespace Go.Proofs.YtidglddjinfncaaDoor
section
open Go.RowKit Go
/-- What Bytes lays. -/
def lrow (l : Lk) : List Nat := if lok l then lbytes l else []
theorem lrow_byte {l : Lk} (h : ∀ x ∈ l.d, x < 256) : ∀ x ∈ lrow l, x < 256 := by
  unfold lrow
  split
  · exact lbytes_byte (by assumption) h
  · simp
theorem lrow_len (l : Lk) : (lrow l).length ≤ 76 := by
  unfold lrow
  split
  · exact lbytes_len (by assumption)
  · simp
set_option maxRecDepth 1000000 in
set_option maxHeartbeats 1000000 in
theorem bytes4_any (w : World) (l : Lk) (hl : Lkb l) :
    Calls Tryd.prog 25 #[lkv l] w fun e w' => ∃ v', e = .returned (.tuple #[v', .int .i64 (if lok l then 0 else 40)]) ∧ w'.ownsRow w.heap.size 5 1 v' (lrow l).length (bv (lrow l)) ∧ Below w.heap.size w w' := by
  have HL := hide hl
  have HT : Hid ((w.alloc (.cells #[.int .i64 l.v, .int .u64 (l.c : Nat), .int .u64 (l.h : Nat), .string (nstr l.d)] 35)).heap[w.heap.size]? = some (.cells (lcs l) 35 (0, 0))) := heap_alloc_new w _
  have HB := hide (below_alloc4 w (.cells #[.int .i64 l.v, .int .u64 (l.c : Nat), .int .u64 (l.h : Nat), .string (nstr l.d)] 35))
  simp only [lkv]
  by_cases hlk : lok l
  · have HLR : Hid (lrow l = lbytes l) := by show _ = _; unfold lrow; rw [if_pos hlk]
    rw [if_pos hlk, HLR.out]
    have HLK := hide hlk
    clear hlk hl
    go_enter Tryd.func25, Tryd.ntmps25
    go_wp2_with fail
    generalize w.alloc (.cells #[.int .i64 l.v, .int .u64 (l.c : Nat), .int .u64 (l.h : Nat), .string (nstr l.d)] 35) = w0 at *
    refine (check_any w0 l HL.out).mono ?_
    rintro e w1 ⟨rfl, hb1⟩
    rw [if_pos HLK.out]
    have q0 : w1.heap[w.heap.size]? = some (.cells (lcs l) 35 (0, 0)) := (hb1.block _ (blk_lt HT.out)).trans HT.out
    have HB1 : Hid (Below w.heap.size w w1) := HB.out.trans (hb1.mono HB.out.size)
    have c2 : w1.cell? ⟨w.heap.size, 2, none⟩ = some (.int .u64 (l.h : Nat)) := blk_cell q0 rfl
    have c3 : w1.cell? ⟨w.heap.size, 3, none⟩ = some (.string (nstr l.d)) := blk_cell q0 rfl
    have cv := conv_sb w1 (nstr l.d)
    go_wp2_with fail
    have HS1 : Hid (BSl (Lib.bytesWorld w1 5 (nstr l.d)) (.slice (some ⟨w1.heap.size, 0, none⟩) (nstr l.d).size (grownCap w1 (nstr l.d).size 0 5)) l.d) := by
      have h := conv_sb_bsl w1 (nstr l.d) (by rw [HL.out.size]; have := HL.out.n; omega)
      rw [sl_nstr HL.out.d] at h
      exact h
    have HB2 : Hid (Below w.heap.size w (Lib.bytesWorld w1 5 (nstr l.d))) := HB1.out.trans ((conv_sb_below w1 _).mono HB1.out.size)
    have HT2 : Hid ((Lib.bytesWorld w1 5 (nstr l.d)).heap[w.heap.size]? = some (.cells (lcs l) 35 (0, 0))) := (Lib.bytesWorld_at_old w1 5 _ _ (blk_lt q0)).trans q0
    clear cv c2 c3 q0 hb1
    generalize grownCap w1 (nstr l.d).size 0 5 = G at *
    generalize w1.heap.size = gg at *
    generalize Lib.bytesWorld w1 5 (nstr l.d) = w2 at *
    refine (dlay_any w2 l.h _ l.d HL.out.h HS1.out).mono ?_
    rintro e w3 ⟨vd, rfl, ho3, hb3⟩
    have HDL := hide (dlay_ok (lok_okd HLK.out))
    rw [HDL.out] at ho3 ⊢
    have HO3 := hide ho3
    have HB3 : Hid (Below w.heap.size w w3) := HB2.out.trans (hb3.mono HB2.out.size)
    have q3 : w3.heap[w.heap.size]? = some (.cells (lcs l) 35 (0, 0)) := (hb3.block _ (blk_lt HT2.out)).trans HT2.out
    have HWB : Hid (w.heap.size ≤ w2.heap.size) := HB2.out.size
    have c0 : w3.cell? ⟨w.heap.size, 0, none⟩ = some (.int .i64 l.v) := blk_cell q3 rfl
    have c1 : w3.cell? ⟨w.heap.size, 1, none⟩ = some (.int .u64 (l.c : Nat)) := blk_cell q3 rfl
    clear ho3 hb3 q3 HS1 HT2 HB2 HDL
    obtain ⟨ad, cd, hvd, _⟩ := own_form HO3.out
    subst hvd
    have HBYT : Hid (∀ x ∈ l.h :: l.d.length :: l.d, x < 256) := by
      have hk := lok_okd HLK.out
      intro x hx
      unfold okd at hk
      simp only [List.mem_cons] at hx
      rcases hx with e | e | e
      · omega
      · omega
      · exact HL.out.d x e
    have HRL : Hid ((l.h :: l.d.length :: l.d).length ≤ 66) := by
      have hk := lok_okd HLK.out
      unfold okd at hk
      show _ ≤ _
      simp
      omega
    by_cases hv0 : l.v = 0
    · as_aux_lemma =>
      have HBY : Hid (lbytes l = l.h :: l.d.length :: l.d) := by show _ = _; unfold lbytes; rw [if_pos hv0]
      rw [hv0] at c0 ⊢
      generalize l.h :: l.d.length :: l.d = rw3 at *
      go_wp2_with fail
      go_ret2
      exact ⟨_, rfl, by rw [HBY.out]; exact own_mono4 HO3.out HWB.out, HB3.out⟩
    · as_aux_lemma =>
      have hv1 : l.v = 1 := by
        rcases HLK.out with h1 | h1
        · exact absurd h1.1 hv0
        · exact h1.1
      have HC : Hid (l.c < 9223372036854775808) := by
        rcases HLK.out with h1 | h1
        · exact absurd h1.1 hv0
        · exact h1.2.1
      have HBY : Hid (lbytes l = 1 :: digs 9 l.c ++ (l.h :: l.d.length :: l.d)) := by show _ = _; unfold lbytes; rw [if_neg hv0]
      have HDB : Hid (∀ x ∈ digs 9 l.c, x < 256) := fun x hx => lbytes_byte HLK.out HL.out.d x (by rw [HBY.out]; simp [hx])
      rw [hv1] at c0 ⊢
      clear hv0 hv1
      generalize l.h :: l.d.length :: l.d = rw3 at *
      go_wp2_with fail
      refine (vlay_any (l.c : Nat) w3 (by omega) (by have := HC.out; omega)).mono ?_
      rintro e w4 ⟨vc, rfl, ho4, hb4⟩
      rw [Int.toNat_natCast] at ho4
      have HV4 := hide (BSl.own ho4 HDB.out)
      have HD4 := hide (BSl.own (own_below4 HO3.out hb4) HBYT.out)
      have HB4 : Hid (Below w.heap.size w w4) := HB3.out.trans (hb4.mono HB3.out.size)
      obtain ⟨ac, cc, hvc, _⟩ := own_form ho4
      subst hvc
      clear ho4 hb4 HO3 HB3 c0 c1
      have HDN := hide (digs_len 9 l.c)
      have hb5 := below_alloc4 w4 (.cells #[.int .u8 1] 5)
      have hb6 := hb5.trans ((below_alloc4 (w4.alloc (.cells #[.int .u8 1] 5)) (.cells #[.slice (some ⟨w4.heap.size, 0, none⟩) 1 1, .slice ac (digs 9 l.c).length cc, .slice ad rw3.length cd] 47)).mono hb5.size)
      have HRW : Hid (Rws ((w4.alloc (.cells #[.int .u8 1] 5)).alloc (.cells #[.slice (some ⟨w4.heap.size, 0, none⟩) 1 1, .slice ac (digs 9 l.c).length cc, .slice ad rw3.length cd] 47)) (w4.heap.size + 1) [.slice (some ⟨w4.heap.size, 0, none⟩) 1 1, .slice ac (digs 9 l.c).length cc, .slice ad rw3.length cd] [[1], digs 9 l.c, rw3]) := by
        have h1 := heap_alloc_new (w4.alloc (.cells #[.int .u8 1] 5)) (.cells #[.slice (some ⟨w4.heap.size, 0, none⟩) 1 1, .slice ac (digs 9 l.c).length cc, .slice ad rw3.length cd] 47)
        have e : (w4.alloc (.cells #[.int .u8 1] 5)).heap.size = w4.heap.size + 1 := by simp
        rw [e] at h1
        refine ⟨rfl, fun i hi => ?_, fun i hi => ?_⟩
        · match i, hi with
          | 0, _ => exact blk_cell h1 rfl
          | 1, _ => exact blk_cell h1 rfl
          | 2, _ => exact blk_cell h1 rfl
        · match i, hi with
          | 0, _ => exact (one_bsl w4 1 (by decide)).move (keep_alloc _ _)
          | 1, _ => exact HV4.out.move (keep_below hb6)
          | 2, _ => exact HD4.out.move (keep_below hb6)
      have HB6 : Hid (Below w.heap.size w ((w4.alloc (.cells #[.int .u8 1] 5)).alloc (.cells #[.slice (some ⟨w4.heap.size, 0, none⟩) 1 1, .slice ac (digs 9 l.c).length cc, .slice ad rw3.length cd] 47))) := HB4.out.trans (hb6.mono HB4.out.size)
      have HF3 : Hid (fla [[1], digs 9 l.c, rw3] 3 = lbytes l) := by show _ = _; rw [HBY.out]; unfold fla; simp
      have HN3 : Hid (fln [[1], digs 9 l.c, rw3] 3 = (lbytes l).length) := by show _ = _; rw [← fla_len, HF3.out]
      have HLN : Hid (0 < (lbytes l).length ∧ (lbytes l).length ≤ 1000) := by
        have h1 := lbytes_len HLK.out
        show _ ∧ _
        rw [HBY.out] at h1 ⊢
        refine ⟨by simp, by omega⟩
      clear hb5 hb6 HV4 HD4 HB4
      go_wp2_with fail
      generalize (w4.alloc (.cells #[.int .u8 1] 5)).alloc (.cells #[.slice (some ⟨w4.heap.size, 0, none⟩) 1 1, .slice ac (digs 9 l.c).length cc, .slice ad rw3.length cd] 47) = w6 at *
      refine (concat_any w6 (w4.heap.size + 1) 3 _ _ HRW.out rfl (by decide) (by rw [HN3.out]; exact HLN.out.1) (by rw [HN3.out]; exact HLN.out.2)).mono ?_
      rintro e w7 ⟨v7, rfl, ho7, hb7⟩
      rw [HF3.out, HN3.out] at ho7
      have HO7 := hide (own_mono4 ho7 HB6.out.size)
      have HB7 : Hid (Below w.heap.size w w7) := HB6.out.trans (hb7.mono HB6.out.size)
      obtain ⟨a7, c7, hv7, _⟩ := own_form ho7
      subst hv7
      clear ho7 hb7 HRW HB6
      go_wp2_with fail
      go_ret2
      exact ⟨_, rfl, HO7.out, HB7.out⟩
  · have HLR : Hid (lrow l = []) := by show _ = _; unfold lrow; rw [if_neg hlk]
    rw [if_neg hlk, HLR.out]
    have HLK := hide hlk
    clear hlk
    go_enter Tryd.func25, Tryd.ntmps25
    go_wp2_with fail
    generalize w.alloc (.cells #[.int .i64 l.v, .int .u64 (l.c : Nat), .int .u64 (l.h : Nat), .string (nstr l.d)] 35) = w0 at *
    refine (check_any w0 l HL.out).mono ?_
    rintro e w1 ⟨rfl, hb1⟩
    rw [if_neg HLK.out]
    have HB1 : Hid (Below w.heap.size w w1) := HB.out.trans (hb1.mono HB.out.size)
    clear hb1
    go_wp2_with fail
    go_ret2
    exact ⟨_, rfl, ⟨rfl, .inl ⟨rfl, rfl⟩⟩, HB1.out⟩
end
section
open Go.RowKit Go
theorem sl_map16 (l : List Nat) : (l.map fun d => (sl s16).getD d 0) = l.map (d16.getD · 0) := by rw [sl16]
theorem btext16 (xs : List Nat) : btext b16 xs = of16 xs := by
  show (encW 4 xs).map (fun d => (sl s16).getD d 0) = _
  rw [sl16]
  rfl
theorem btext32 (xs : List Nat) : btext b32 xs = of32 xs := by
  show (encW 5 xs).map (fun d => (sl s32).getD d 0) = _
  rw [sl32]
  rfl
theorem btext58 (xs : List Nat) : btext b58 xs = of58 xs := by
  show (conv 256 58 xs).map (fun d => (sl s58).getD d 0) = _
  rw [sl58]
  rfl
/-- What TextIn tells, and its error. -/
def ltin (l : Lk) (n : Int) : List Nat × Int := if lok l then (if l.v = 0 ∨ ¬ (n = 1 ∨ n = 2 ∨ n = 3) then ([], 45) else (sl (bof n).l ++ btext (bof n) (lbytes l), 0)) else ([], 40)
def lttx (l : Lk) : List Nat × Int := if lok l then (ltext l, 0) else ([], 40)
theorem bof_ok {n : Int} (h : n = 1 ∨ n = 2 ∨ n = 3) : Bok (bof n) := by
  rcases h with rfl | rfl | rfl
  · exact bok16
  · exact bok32
  · exact bok58
theorem ltin_text {l : Lk} (h : lok l) (hv : l.v ≠ 0) {n : Nat} (hn : n = 1 ∨ n = 2 ∨ n = 3) : ltin l n = (ltextin l n, 0) := by
  unfold ltin
  rw [if_pos h, if_neg (by omega)]
  rcases hn with rfl | rfl | rfl
  · show (sl b16.l ++ btext b16 _, _) = _
    rw [btext16]
    rfl
  · show (sl b32.l ++ btext b32 _, _) = _
    rw [btext32]
    rfl
  · show (sl b58.l ++ btext b58 _, _) = _
    rw [btext58]
    rfl
theorem add_str (a b : ByteArray) : sl (a ++ b) = sl a ++ sl b := by
  simp [sl]
end
section
open Go.RowKit Go
theorem nstr_cat (a : ByteArray) {xs : List Nat} (h : ∀ x ∈ xs, x < 256) : a ++ nstr xs = nstr (sl a ++ xs) := by
  rw [← nstr_sl (a ++ nstr xs), add_str, sl_nstr h]
theorem qstep_base {C : World → Prop} {ops : Array Oper} {o : Oper} {a : Act} {K : Act → Prop} {p : Operand} (hgd : Region.wanted o (yielded ops a.tmps) = true) (ho : o.op = .load 62 p) (g : Nat) (cs : Array Value)
    (hp : a.eval p = .pointer (some ⟨g, 0, none⟩)) (hn : cs.size = 3) (hc : ∀ w, C w → w.heap[g]? = some (.cells cs 62 (0, 0)))
    (h : K (a.put o.dst (.agg cs))) : if Region.wanted o (yielded ops a.tmps) = true then o.quiet Tryd.prog a C K else K (a.put o.dst undef) := by
  rw [if_pos hgd]
  refine ⟨.agg cs, fun w hC => ?_, h⟩
  have hr : (Instr.loadAt 62 (.pointer (some ⟨g, 0, none⟩))).run Tryd.prog w = .ok (.agg cs) w := by
    simp only [Instr.loadAt, Instr.sureAddr, Sem.run_bind, Sem.run_pure, Result.andThen]
    exact run_loadVar_row (P := Tryd.prog) w g 62 62 cs (0, 0) _ (hc w hC) Tryd.underlying62 rfl (by rw [hn]; exact infoB)
  unfold Oper.quietAt execOp
  simp only [ho, Sem.run_bind, hp, hr, Result.andThen_ok]
  exact ⟨rfl, rfl⟩
/-- Two strings joined, as a step of a region that draws. -/
theorem qstep_cat {C : World → Prop} {ops : Array Oper} {o : Oper} {a : Act} {K : Act → Prop} {x y : Operand} {T T2 : TypeId} (hgd : Region.wanted o (yielded ops a.tmps) = true) (ho : o.op = .binOp .add T x y T2) (A B : ByteArray)
    (hx : a.eval x = .string A) (hy : a.eval y = .string B) (hz : A.size + B.size ≤ 9223372036854775807)
    (h : K (a.put o.dst (.string (A ++ B)))) : if Region.wanted o (yielded ops a.tmps) = true then o.quiet Tryd.prog a C K else K (a.put o.dst undef) := by
  rw [if_pos hgd]
  refine ⟨.string (A ++ B), fun w hC => ?_, h⟩
  unfold Oper.quietAt execOp
  simp only [ho, Sem.run_bind, hx, hy, eqGuard_at_string, binOp_string_add, run_string_add_sum w A B (by omega), Result.andThen_ok, Sem.run_pure]
  exact ⟨rfl, rfl⟩
set_option maxRecDepth 1000000 in
set_option maxHeartbeats 1000000 in
theorem textin_any (w : World) (l : Lk) (n : Int) (hl : Lkb l) :
    Calls Tryd.prog 13 #[lkv l, .int .i64 n] w fun e w' => e = .returned (.tuple #[.string (nstr (ltin l n).1), .int .i64 (ltin l n).2]) ∧ Below w.heap.size w w' := by
  have HL := hide hl
  have HT : Hid ((w.alloc (.cells #[.int .i64 l.v, .int .u64 (l.c : Nat), .int .u64 (l.h : Nat), .string (nstr l.d)] 35)).heap[w.heap.size]? = some (.cells (lcs l) 35 (0, 0))) := heap_alloc_new w _
  have HB := hide (below_alloc4 w (.cells #[.int .i64 l.v, .int .u64 (l.c : Nat), .int .u64 (l.h : Nat), .string (nstr l.d)] 35))
  simp only [lkv]
  generalize hR : ltin l n = R
  have HR := hide hR
  clear hR hl
  go_enter Tryd.func13, Tryd.ntmps13
  go_wp2_with fail
  generalize w.alloc (.cells #[.int .i64 l.v, .int .u64 (l.c : Nat), .int .u64 (l.h : Nat), .string (nstr l.d)] 35) = w0 at *
  refine (bytes4_any w0 l HL.out).mono ?_
  rintro e w1 ⟨v1, rfl, ho1, hb1⟩
  have HB1 : Hid (Below w.heap.size w w1) := HB.out.trans (hb1.mono HB.out.size)
  have HT1 : Hid (w1.heap[w.heap.size]? = some (.cells (lcs l) 35 (0, 0))) := (hb1.block _ (blk_lt HT.out)).trans HT.out
  have HV1 := hide (BSl.own ho1 (lrow_byte HL.out.d))
  have HRL := hide (lrow_len l)
  obtain ⟨a1, c1, hv1, hq1, hq2, hq3⟩ := own_form ho1
  subst hv1
  clear ho1 hb1 hq1 hq2 hq3 HT HB
  by_cases hlk : lok l
  · rw [if_pos hlk]
    have HLW : Hid (lrow l = lbytes l) := by show _ = _; unfold lrow; rw [if_pos hlk]
    have HR2 : Hid ((if l.v = 0 ∨ ¬ (n = 1 ∨ n = 2 ∨ n = 3) then ([], 45) else (sl (bof n).l ++ btext (bof n) (lrow l), (0 : Int))) = R) := by
      show _ = _
      rw [← HR.out]
      unfold ltin
      rw [if_pos hlk, HLW.out]
    clear HR hlk HLW
    generalize lrow l = lr at *
    go_wp2_with fail
    refine (baseOf_any w1 n).mono ?_
    rintro e w2 ⟨rfl, hb2⟩
    have HB2 : Hid (Below w.heap.size w w2) := HB1.out.trans (hb2.mono HB1.out.size)
    have HT2 : Hid (w2.heap[w.heap.size]? = some (.cells (lcs l) 35 (0, 0))) := (hb2.block _ (blk_lt HT1.out)).trans HT1.out
    have HV2 := hide (HV1.out.move (keep_below hb2))
    have HOK := hide (bof_ok (n := n))
    clear hb2 HB1 HT1 HV1
    generalize bof n = bb at *
    obtain ⟨bl, bt, bn⟩ := bb
    simp only [Bs.cs]
    have hb3 := below_alloc4 w2 (.cells #[.string bl, .string bt, .int .i64 (bn : Nat)] 62)
    have HB3 : Hid (Below w.heap.size w (w2.alloc (.cells #[.string bl, .string bt, .int .i64 (bn : Nat)] 62))) := HB2.out.trans (hb3.mono HB2.out.size)
    have HTB : Hid ((w2.alloc (.cells #[.string bl, .string bt, .int .i64 (bn : Nat)] 62)).heap[w2.heap.size]? = some (.cells (Bs.cs ⟨bl, bt, bn⟩) 62 (0, 0))) := heap_alloc_new w2 _
    have HV3 := hide (HV2.out.move (keep_below hb3))
    have c0 : (w2.alloc (.cells #[.string bl, .string bt, .int .i64 (bn : Nat)] 62)).cell? ⟨w.heap.size, 0, none⟩ = some (.int .i64 l.v) := keep_below hb3 _ _ (blk_cell HT2.out rfl)
    clear hb3 HB2 HT2 HV2
    by_cases hn : n = 1 ∨ n = 2 ∨ n = 3
    · rw [decide_eq_true hn]
      by_cases hv : l.v = 0
      · as_aux_lemma =>
        rw [if_pos (.inl hv)] at HR2
        rw [hv] at c0 ⊢
        clear hn
        go_wp2_with fail
        go_ret2
        exact ⟨by rw [← HR2.out]; rfl, HB3.out⟩
      · have g0 : (l.v == 0) = false := beq_eq_false_iff_ne.2 hv
        rw [if_neg (by rintro (h | h); exact hv h; exact h hn)] at HR2
        have HBO := hide (HOK.out hn)
        clear hn hv HOK
        have q0 : (w2.alloc (.cells #[.string bl, .string bt, .int .i64 (bn : Nat)] 62)).cell? ⟨w2.heap.size, 0, none⟩ = some (.string bl) := blk_cell HTB.out rfl
        go_wp2_with fail
        generalize w2.alloc (.cells #[.string bl, .string bt, .int .i64 (bn : Nat)] 62) = w3 at *
        generalize w2.heap.size = gB at *
        as_aux_lemma =>
        have k0 : ∀ t : Ext w3, t.w'.cell? ⟨gB, 0, none⟩ = some (.string bl) := fun t => Ext.cell q0 t
        have HQ : Hid (∀ wx, (∃ t : Ext w3, wx = t.w') → wx.heap[gB]? = some (.cells (Bs.cs ⟨bl, bt, bn⟩) 62 (0, 0))) := by
          rintro _ ⟨t, rfl⟩
          exact (t.h.block _ (blk_lt HTB.out)).trans HTB.out
        have HCT : Hid (∀ t : Ext w3, Calls Tryd.prog 34 #[.agg (Bs.cs ⟨bl, bt, bn⟩), .slice a1 lr.length c1] t.w' fun e w'' => e = .returned (.string (nstr (btext ⟨bl, bt, bn⟩ lr))) ∧ ∃ t' : Ext w3, w'' = t'.w') := fun t => Calls.ext_below (text_any t.w' ⟨bl, bt, bn⟩ _ lr HBO.out (Ext.bsl HV3.out t) (Nat.le_trans HRL.out (by decide)))
        have HCN : Hid ((Bs.cs ⟨bl, bt, bn⟩).size = 3) := rfl
        have HBX : Hid ((nstr (btext ⟨bl, bt, bn⟩ lr)).size ≤ 1000) := by
          show _ ≤ _
          rw [nstr_size (btext_byte _ _)]
          unfold btext
          rw [List.length_map]
          have h1 := cutd_len HBO.out HV3.out.byte
          have h2 := HRL.out
          omega
        have HSZ : Hid (bl.size + (nstr (btext ⟨bl, bt, bn⟩ lr)).size ≤ 9223372036854775807) := by have h1 := HBO.out.z; have h2 := HBX.out; simp only at h1; show _ ≤ _; omega
        have HNC := hide (nstr_cat bl (btext_byte ⟨bl, bt, bn⟩ lr))
        generalize hcl : Bs.cs ⟨bl, bt, bn⟩ = cl at *
        generalize btext ⟨bl, bt, bn⟩ lr = bx at *
        refine region_ext (by kernel_rfl) (by kernel_rfl) ?_
        repeat (
          refine wpQuiet_step (fun K hK => ?_)
          first
            | (refine qstep_base rfl rfl gB cl rfl HCN.out HQ.out (hK _ ?_); clear hK K)
            | (refine qstep_cat rfl rfl bl (nstr bx) rfl rfl HSZ.out (hK _ ?_); clear hK K)
            | (go_simp
               first
                 | (refine hK _ ?_; clear hK K)
                 | (apply Exists.intro
                    refine ⟨fun _ => ?_, hK _ ?_⟩
                    (go_at_call 34; exact HCT.out _)
                    clear hK K)))
        refine wpQuiet_nil ?_
        rintro _ ⟨tq, rfl⟩
        have HBF : Hid (Below w.heap.size w tq.w') := HB3.out.trans (tq.h.mono HB3.out.size)
        go_wp2_with fail
        go_ret2
        exact ⟨by rw [← HR2.out]; simp only; rw [← HNC.out]; rfl, HBF.out⟩
    · as_aux_lemma =>
      rw [decide_eq_false hn]
      rw [if_pos (.inr hn)] at HR2
      clear hn
      go_wp2_with fail
      go_ret2
      exact ⟨by rw [← HR2.out]; rfl, HB3.out⟩
  · as_aux_lemma =>
    rw [if_neg hlk]
    have HR2 : Hid (R = ([], 40)) := by show _ = _; rw [← HR.out]; unfold ltin; rw [if_neg hlk]
    clear HR hlk
    go_wp2_with fail
    go_ret2
    exact ⟨by rw [HR2.out]; rfl, HB1.out⟩
end
section
open Go.RowKit Go
/-- What ending tells. -/
def lend (xs : List Nat) : Nat × List Nat × Nat × Nat := if (dread xs).2.2.2 = 0 then dread xs else (0, [], 0, lerr (dread xs).2.2.2)
theorem lend_third (v : Int) (c at' : Nat) (b : List Nat) : lthird v c at' b = if (lend (b.drop at')).2.2.2 = 0 then (⟨v, c, (lend (b.drop at')).1, (lend (b.drop at')).2.1⟩, at' + (lend (b.drop at')).2.2.1, 0) else (Lk.none, 0, (lend (b.drop at')).2.2.2) := by
  unfold lthird lend
  by_cases h : (dread (b.drop at')).2.2.2 = 0
  · rw [if_pos h, if_pos h, if_pos h]
  · rw [if_neg h, if_neg h, if_neg]
    unfold lerr
    simp only
    split <;> omega
set_option maxRecDepth 1000000 in
set_option maxHeartbeats 1000000 in
theorem lending_any (w : World) (v : Value) (xs : List Nat) (hb : BSl w v xs) :
    Calls Tryd.prog 55 #[v] w fun e w' => ∃ v', e = .returned (.tuple #[.int .u64 ((lend xs).1 : Nat), v', .int .i64 ((lend xs).2.2.1 : Nat), .int .i64 ((lend xs).2.2.2 : Nat)]) ∧ w'.ownsRow w.heap.size 5 1 v' (lend xs).2.1.length (bv (lend xs).2.1) ∧ Below w.heap.size w w' := by
  have HB := hide hb
  obtain ⟨⟨a, cap, rfl, hn, hc⟩, hmax, hby⟩ := hb
  have HLE : Hid (lend xs = if (dread xs).2.2.2 = 0 then dread xs else (0, [], 0, lerr (dread xs).2.2.2)) := rfl
  clear hn hc hby
  go_enter Tryd.func55, Tryd.ntmps55
  go_wp2_with fail
  refine (dread_any w _ xs HB.out).mono ?_
  rintro e w1 ⟨v1, rfl, ho1, hb1⟩
  have HB1 := hide hb1
  generalize dread xs = r at *
  obtain ⟨rh, rdd, rn, re⟩ := r
  simp only at ho1 HLE ⊢
  have HO1 := hide ho1
  obtain ⟨a1, c1, hv1, _⟩ := own_form ho1
  subst hv1
  clear ho1 hb1
  by_cases h0 : re = 0
  · subst h0
    have HZ : Hid (lend xs = (rh, rdd, rn, 0)) := by show _ = _; rw [HLE.out, if_pos rfl]
    clear HLE
    go_wp2_with fail
    exact bodyPost_ret (results_four rfl _ _ _) rfl ⟨_, by rw [HZ.out]; rfl, by rw [HZ.out]; exact HO1.out, HB1.out⟩
  · have g0 : ((re : Int) == 0) = false := beq_eq_false_iff_ne.2 (by omega)
    by_cases h1 : re = 32
    · subst h1
      have HZ : Hid (lend xs = (0, [], 0, 42)) := by show _ = _; rw [HLE.out]; rfl
      clear HLE
      go_wp2_with fail
      exact bodyPost_ret (results_four rfl _ _ _) rfl ⟨_, by rw [HZ.out]; rfl, by rw [HZ.out]; exact World.ownsRow_nil _ _ _ _, HB1.out⟩
    · have g1 : ((re : Int) == 32) = false := beq_eq_false_iff_ne.2 (by omega)
      by_cases h2 : re = 33
      · subst h2
        have HZ : Hid (lend xs = (0, [], 0, 42)) := by show _ = _; rw [HLE.out]; rfl
        clear HLE
        go_wp2_with fail
        exact bodyPost_ret (results_four rfl _ _ _) rfl ⟨_, by rw [HZ.out]; rfl, by rw [HZ.out]; exact World.ownsRow_nil _ _ _ _, HB1.out⟩
      · have g2 : ((re : Int) == 33) = false := beq_eq_false_iff_ne.2 (by omega)
        have HZ : Hid (lend xs = (0, [], 0, 43)) := by show _ = _; rw [HLE.out, if_neg h0]; unfold lerr; rw [if_neg (by omega)]
        clear HLE
        go_wp2_with fail
        exact bodyPost_ret (results_four rfl _ _ _) rfl ⟨_, by rw [HZ.out]; rfl, by rw [HZ.out]; exact World.ownsRow_nil _ _ _ _, HB1.out⟩
end
section
open Go.RowKit Go
/-- A link's block that is none yet. -/
structure Fz (w wx : World) : Prop where
  r : wx.heap[w.heap.size]? = some (.cells zlk 35 (0, 0))
  b : Below w.heap.size w wx
theorem Fz.below {w wx wy : World} (h : Fz w wx) (hb : Below wx.heap.size wx wy) : Fz w wy := ⟨(hb.block _ (blk_lt h.r)).trans h.r, h.b.trans (hb.mono h.b.size)⟩
theorem Fz.start (w : World) : Fz w (w.alloc (.cells #[.int .i64 0, .int .u64 0, .int .u64 0, .string ⟨#[]⟩] 35)) := ⟨heap_alloc_new w _, below_alloc4 w _⟩
theorem rd_bound4 (xs : List Nat) (h : (rd 0 0 xs).2.2 = 0) : (rd 0 0 xs).1 < 9223372036854775808 ∧ (rd 0 0 xs).2.1 ≤ xs.length := by
  have h1 := dnum_bound xs
  unfold dnum at h1
  rw [if_pos h] at h1
  have := h1 h
  exact ⟨this.1, this.2.1⟩
theorem lend_bound (xs : List Nat) : (lend xs).2.2.1 ≤ xs.length := by
  unfold lend
  by_cases h0 : (dread xs).2.2.2 = 0
  · rw [if_pos h0]
    exact (dread_back h0).1
  · rw [if_neg h0]
    simp
theorem dread_first {xs : List Nat} (h : (dread xs).2.2.2 = 0) : (dread xs).1 = (dnum xs).1 := by
  unfold dread at h ⊢
  split
  · rename_i h1
    rw [if_pos h1] at h
    exact absurd h h1
  · rename_i h1
    rw [if_neg h1] at h
    split
    · rename_i h2
      rw [if_pos h2] at h
      exact absurd h h2
    · rename_i h2
      rw [if_neg h2] at h
      split
      · rename_i h3
        rw [if_pos h3] at h
        simp at h
      · rename_i h3
        rw [if_neg h3] at h
        split
        · rename_i h4
          rw [if_pos h4] at h
          simp at h
        · rename_i h4
          rw [if_neg h4] at h
          split
          · rename_i h5
            rw [if_pos h5] at h
            simp at h
          · rfl
theorem lend_byte {xs : List Nat} (h : ∀ x ∈ xs, x < 256) : ∀ x ∈ (lend xs).2.1, x < 256 := by
  unfold lend
  split
  · exact dread_bytes4 h
  · simp
set_option maxRecDepth 1000000 in
set_option maxHeartbeats 2000000 in
theorem first4_any (w : World) (v : Value) (b : List Nat) (hb : BSl w v b) :
    Calls Tryd.prog 27 #[v] w fun e w' => e = .returned (.tuple #[lkv (lfirst b).1, .int .i64 ((lfirst b).2.1 : Nat), .int .i64 ((lfirst b).2.2 : Nat)]) ∧ Below w.heap.size w w' := by
  have HB := hide hb
  obtain ⟨⟨a, cap, rfl, hn, hc⟩, hmax, hby⟩ := hb
  have HBY := hide hby
  have HF0 := hide (Fz.start w)
  have HBV := hide (HB.out.move (keep_below HF0.out.b))
  by_cases h18 : b.head? = some 18
  · obtain ⟨r, rfl⟩ : ∃ r, b = 18 :: r := by
      cases b with
      | nil => simp at h18
      | cons x r => simp at h18; exact ⟨r, by rw [h18]⟩
    obtain ⟨bb, off, rfl, hcell⟩ := hc.resolve_left (by simp)
    have hc0 := hcell 0 (by simp)
    rw [Nat.add_zero] at hc0
    have cx := keep_below HF0.out.b _ _ hc0
    have g00 : (0 : Int) < ((18 :: r).length : Int) := by simp
    have HLF : Hid (lfirst (18 :: r) = lthird 0 112 0 (18 :: r)) := by
      show _ = _
      unfold lfirst
      rw [if_pos (show (18 :: r).head? = some 18 from rfl)]
    have HLD : Hid (lthird 0 112 0 (18 :: r) = if (lend (18 :: r)).2.2.2 = 0 then (⟨0, 112, 18, (lend (18 :: r)).2.1⟩, (lend (18 :: r)).2.2.1, 0) else (Lk.none, 0, (lend (18 :: r)).2.2.2)) := by
      show _ = _
      rw [lend_third, List.drop_zero, Nat.zero_add]
      by_cases h0 : (lend (18 :: r)).2.2.2 = 0
      · rw [if_pos h0, if_pos h0]
        have : (lend (18 :: r)).1 = 18 := by
          unfold lend at h0 ⊢
          by_cases h1 : (dread (18 :: r)).2.2.2 = 0
          · rw [if_pos h1]
            rw [dread_first h1, dnum_small (by decide)]
          · rw [if_neg h1] at h0
            unfold lerr at h0
            simp only at h0
            split at h0 <;> omega
        rw [this]
      · rw [if_neg h0, if_neg h0]
    simp only [List.getD_cons_zero] at cx
    clear hc hcell hc0 h18 hn
    generalize hLL : (18 :: r).length = LL at *
    have HLL := hide hLL
    clear hLL
    generalize hBL : 18 :: r = bl at *
    have HBLE := hide hBL
    clear hBL
    go_enter Tryd.func27, Tryd.ntmps27
    go_wp2_with fail
    generalize w.alloc (.cells #[.int .i64 0, .int .u64 0, .int .u64 0, .string ⟨#[]⟩] 35) = w0 at *
    refine (lending_any w0 _ bl HBV.out).mono ?_
    rintro e w1 ⟨v1, rfl, ho1, hb1⟩
    have HF1 := hide (HF0.out.below hb1)
    have HV1 := hide (BSl.own ho1 (lend_byte HBY.out))
    obtain ⟨a1, c1, hv1, _⟩ := own_form ho1
    subst hv1
    have HBD := hide (lend_bound bl)
    clear ho1 hb1 cx
    generalize lend bl = le at *
    obtain ⟨lh, ld, lu, lee⟩ := le
    simp only at HV1 HLD HBD ⊢
    by_cases he : lee = 0
    · subst he
      as_aux_lemma =>
      rw [if_pos rfl] at HLD
      have cv := HV1.out.text
      go_wp2_with fail
      clear cv
      refine (old_any w1 (nstr ld)).mono ?_
      rintro e w2 ⟨rfl, hb2⟩
      have HF2 := hide (HF1.out.below hb2)
      have HR2 := hide HF2.out.r
      clear hb2
      go_wp2_with (refine wpList_storeLk rfl rfl w.heap.size zlk ⟨0, 112, 18, ld⟩ rfl rfl rfl HR2.out ?_)
      exact bodyPost_ret (end_c3 rfl Tryd.underlying35 info61 rfl (row_same HR2.out) rfl rfl rfl) rfl ⟨by rw [HLF.out, HLD.out]; rfl, HF2.out.b.trans ((row_kp _ _ _).below HF2.out.b.size (fun q e => by omega))⟩
    · as_aux_lemma =>
      rw [if_neg he] at HLD
      have g1 : ((lee : Int) == 0) = false := beq_eq_false_iff_ne.2 (by omega)
      have HR1 := hide HF1.out.r
      go_wp2_with (refine wpList_zero rfl rfl w.heap.size rfl rfl HR1.out ?_)
      exact bodyPost_ret (end_c3 rfl Tryd.underlying35 info61 rfl HR1.out rfl rfl rfl) rfl ⟨by rw [HLF.out, HLD.out]; rfl, HF1.out.b⟩
  · have HNE := hide h18
    have HDN : Hid (∀ xs : List Nat, (dnum xs).2.2 ≠ 0 ↔ (rd 0 0 xs).2.2 ≠ 0) := by
      intro xs
      unfold dnum
      by_cases h : (rd 0 0 xs).2.2 = 0
      · rw [if_pos h]
      · rw [if_neg h]
        simp only
        constructor
        · intro _
          exact h
        · intro _
          split <;> decide
    have HDE : Hid (∀ xs : List Nat, (rd 0 0 xs).2.2 = 0 → dnum xs = rd 0 0 xs) := by
      intro xs h
      unfold dnum
      rw [if_pos h]
    clear h18 hn hmax
    have HML := hide HB.out.max
    by_cases h0 : b = []
    · subst h0
      as_aux_lemma =>
      clear hc
      have HLF : Hid (lfirst [] = (Lk.none, 0, 42)) := rfl
      have HR1 := hide HF0.out.r
      have HV : Hid (rd 0 0 [] = (0, 0, 10)) := rfl
      simp only [List.length_nil] at HBV ⊢
      go_enter Tryd.func27, Tryd.ntmps27
      go_wp2_with fail
      generalize w.alloc (.cells #[.int .i64 0, .int .u64 0, .int .u64 0, .string ⟨#[]⟩] 35) = w0 at *
      refine HBV.out.vread.mono ?_
      rintro e w1 ⟨rfl, rfl⟩
      rw [HV.out]
      go_wp2_with (refine wpList_zero rfl rfl w.heap.size rfl rfl HR1.out ?_)
      exact bodyPost_ret (end_c3 rfl Tryd.underlying35 info61 rfl HR1.out rfl rfl rfl) rfl ⟨by rw [HLF.out]; rfl, HF0.out.b⟩
    have hpos : 0 < b.length := List.length_pos_iff.2 h0
    have g00 : (0 : Int) < (b.length : Int) := by omega
    obtain ⟨bb, off, rfl, hcell⟩ := hc.resolve_left h0
    have hc0 := hcell 0 hpos
    rw [Nat.add_zero] at hc0
    have cx := keep_below HF0.out.b _ _ hc0
    have g18 : (((b.getD 0 0 : Nat) : Int) == 18) = false := by
      have := HNE.out
      rw [beq_eq_false_iff_ne]
      cases b with
      | nil => exact absurd rfl h0
      | cons x r => simp at this ⊢; omega
    clear hc hcell hc0 hby h0 hpos
    generalize b.getD 0 0 = x0 at cx g18
    go_enter Tryd.func27, Tryd.ntmps27
    go_wp2_with fail
    generalize w.alloc (.cells #[.int .i64 0, .int .u64 0, .int .u64 0, .string ⟨#[]⟩] 35) = w0 at *
    refine HBV.out.vread.mono ?_
    rintro e w1 ⟨rfl, rfl⟩
    have HD1 := hide (HDN.out b)
    have HE1 := hide (HDE.out b)
    have HRB := hide (rd_bound4 b)
    obtain ⟨vn, un, en, hD⟩ : ∃ vn un en, rd 0 0 b = (vn, un, en) := ⟨_, _, _, rfl⟩
    rw [hD] at HD1 HE1 HRB ⊢
    clear hD
    simp only at HD1 HE1 HRB ⊢
    have HR1 := hide HF0.out.r
    by_cases hen : en = 0
    · subst hen
      have HE2 := hide (HE1.out rfl)
      have hrb := HRB.out rfl
      by_cases hvn : vn = 1
      · subst hvn
        have HUN : Hid (un ≤ b.length) := hrb.2
        clear hrb HRB HD1 HE1
        go_wp2_with (refine wpList_drop rfl 54 55 rfl _ b un rfl rfl HBV.out HUN.out ?_)
        intro ad1 nd1 cd1 hbd1 hnd1
        have HBD1 := hide hbd1
        clear hbd1 hnd1
        go_wp2_with fail
        refine HBD1.out.vread.mono ?_
        rintro e w2 ⟨rfl, rfl⟩
        have HD3 := hide (HDN.out (b.drop un))
        have HE3 := hide (HDE.out (b.drop un))
        have HRB := hide (rd_bound4 (b.drop un))
        obtain ⟨c2, u2, e2, hD2⟩ : ∃ c2 u2 e2, rd 0 0 (b.drop un) = (c2, u2, e2) := ⟨_, _, _, rfl⟩
        rw [hD2] at HD3 HE3 HRB ⊢
        clear hD2
        simp only at HD3 HE3 HRB ⊢
        by_cases he2 : e2 = 0
        · subst he2
          have HE4 := hide (HE3.out rfl)
          have hdb2 := HRB.out rfl
          have HLF : Hid (lfirst b = lthird 1 c2 (un + u2) b) := by
            show _ = _
            unfold lfirst
            rw [if_neg HNE.out, HE2.out]
            simp only [ne_eq, not_true_eq_false, if_false]
            rw [HE4.out]
            simp
          have HAT : Hid (un + u2 ≤ b.length) := by have h1 := hdb2.2; rw [List.length_drop] at h1; have := HUN.out; show _ ≤ _; omega
          have hun : (un : Int) + (u2 : Int) ≤ 9223372036854775807 := by have := HAT.out; have := HML.out; omega
          have hsum : (un : Int) + (u2 : Int) = ((un + u2 : Nat) : Int) := by omega
          have HLD := hide (lend_third 1 c2 (un + u2) b)
          clear HRB hdb2 HUN HNE HE3 HE4 HE2 HD3 HBD1
          generalize hat4 : un + u2 = at4 at HLF HAT hsum HLD
          clear hat4
          go_wp2_with (refine wpList_drop rfl 68 69 rfl _ b at4 rfl rfl HBV.out HAT.out ?_)
          intro ad nd cd hbd hnd
          have HBD := hide hbd
          clear hbd hnd
          go_wp2_with fail
          refine (lending_any w2 _ (b.drop at4) HBD.out).mono ?_
          rintro e w5 ⟨vd, rfl, ho5, hb5⟩
          have HF5 := hide (HF0.out.below hb5)
          have HVD := hide (BSl.own ho5 (lend_byte (fun x hx => HBY.out x (List.mem_of_mem_drop hx))))
          have HLB := hide (lend_bound (b.drop at4))
          rw [List.length_drop] at HLB
          obtain ⟨ae, ce, hve, _⟩ := own_form ho5
          subst hve
          clear ho5 hb5
          generalize lend (b.drop at4) = le at *
          obtain ⟨lh, ld, lu, lee⟩ := le
          simp only at HVD HLD HLB ⊢
          by_cases he : lee = 0
          · subst he
            as_aux_lemma =>
            rw [if_pos rfl] at HLD
            have cv := HVD.out.text
            have HR5 := hide HF5.out.r
            have hnr : (at4 : Int) + (lu : Int) ≤ 9223372036854775807 := by have := HLB.out; have := HAT.out; have := HML.out; omega
            go_wp2_with (refine wpList_storeLk rfl rfl w.heap.size zlk ⟨1, c2, lh, ld⟩ rfl rfl rfl HR5.out ?_)
            exact bodyPost_ret (end_c3 rfl Tryd.underlying35 info61 rfl (row_same HR5.out) rfl rfl rfl) rfl ⟨by rw [HLF.out, HLD.out]; simp only [Int.natCast_add]; rfl, HF5.out.b.trans ((row_kp _ _ _).below HF5.out.b.size (fun q e => by omega))⟩
          · as_aux_lemma =>
            rw [if_neg he] at HLD
            have g1 : ((lee : Int) == 0) = false := beq_eq_false_iff_ne.2 (by omega)
            have HR5 := hide HF5.out.r
            go_wp2_with (refine wpList_zero rfl rfl w.heap.size rfl rfl HR5.out ?_)
            exact bodyPost_ret (end_c3 rfl Tryd.underlying35 info61 rfl HR5.out rfl rfl rfl) rfl ⟨by rw [HLF.out, HLD.out]; rfl, HF5.out.b⟩
        · as_aux_lemma =>
          have HLF : Hid (lfirst b = (Lk.none, 0, 42)) := by
            show _ = _
            unfold lfirst
            rw [if_neg HNE.out, HE2.out]
            simp only [ne_eq, not_true_eq_false, if_false]
            rw [if_pos (HD3.out.2 he2)]
          have g2 : ((e2 : Int) == 0) = false := beq_eq_false_iff_ne.2 (by omega)
          clear HRB HD3 HE3 HNE HE2
          go_wp2_with (refine wpList_zero rfl rfl w.heap.size rfl rfl HR1.out ?_)
          exact bodyPost_ret (end_c3 rfl Tryd.underlying35 info61 rfl HR1.out rfl rfl rfl) rfl ⟨by rw [HLF.out]; rfl, HF0.out.b⟩
      · as_aux_lemma =>
        have HLF : Hid (lfirst b = (Lk.none, 0, 41)) := by
          show _ = _
          unfold lfirst
          rw [if_neg HNE.out, HE2.out]
          simp [hvn]
        have g2 : ((vn : Int) == 1) = false := beq_eq_false_iff_ne.2 (by omega)
        clear HRB HD1 HE1 HE2 HNE hrb
        go_wp2_with (refine wpList_zero rfl rfl w.heap.size rfl rfl HR1.out ?_)
        exact bodyPost_ret (end_c3 rfl Tryd.underlying35 info61 rfl HR1.out rfl rfl rfl) rfl ⟨by rw [HLF.out]; rfl, HF0.out.b⟩
    · as_aux_lemma =>
      have HLF : Hid (lfirst b = (Lk.none, 0, 42)) := by
        show _ = _
        unfold lfirst
        rw [if_neg HNE.out, if_pos (HD1.out.2 hen)]
      have g2 : ((en : Int) == 0) = false := beq_eq_false_iff_ne.2 (by omega)
      clear HRB HD1 HE1 HNE
      go_wp2_with (refine wpList_zero rfl rfl w.heap.size rfl rfl HR1.out ?_)
      exact bodyPost_ret (end_c3 rfl Tryd.underlying35 info61 rfl HR1.out rfl rfl rfl) rfl ⟨by rw [HLF.out]; rfl, HF0.out.b⟩
end
section
open Go.RowKit Go
theorem sl_extract (s : ByteArray) (i j : Nat) : sl (s.extract i j) = ((sl s).take j).drop i := by
  unfold sl
  rw [ByteArray.data_extract, Array.toList_extract, List.extract_eq_take_drop, List.map_take, List.map_drop, ← List.drop_take]
theorem sl_tail (s : ByteArray) : sl (s.extract 1 s.size) = (sl s).drop 1 := by
  rw [sl_extract, List.take_of_length_le (by rw [sl_len]; exact Nat.le_refl _)]
theorem ext_tail (s : ByteArray) : s.extract 1 s.size = nstr ((sl s).drop 1) := by
  rw [← sl_tail, nstr_sl]
theorem ext_head (s : ByteArray) {x : Nat} {r : List Nat} (h : sl s = x :: r) (c : UInt8) : ((s.extract 0 1).toList == [c]) = decide (x = c.toNat) := by
  have h1 : sl (s.extract 0 1) = [x] := by rw [sl_extract, h]; rfl
  have h2 : (s.extract 0 1).toList = (s.extract 0 1).data.toList := ByteArray.toList_eq _
  rw [h2]
  unfold sl at h1
  generalize (s.extract 0 1).data.toList = l at *
  cases l with
  | nil => simp at h1
  | cons u m =>
    simp only [List.map_cons, List.cons.injEq, List.map_eq_nil_iff] at h1
    obtain ⟨h3, rfl⟩ := h1
    subst h3
    rw [Bool.eq_iff_iff]
    simp [UInt8.toNat_inj]
theorem not_empty (s : ByteArray) {x : Nat} {r : List Nat} (h : sl s = x :: r) : s.toList.isEmpty = false := by
  rw [ByteArray.toList_eq]
  unfold sl at h
  cases hl : s.data.toList with
  | nil => rw [hl] at h; simp at h
  | cons u m => rfl
/-- What split tells. -/
def spl : List Nat → Bs × List Nat × Bool
  | [] => (b0, [], false)
  | x :: r => if x = 81 then (b58, x :: r, true) else if x = 102 then (b16, r, true) else if x = 98 then (b32, r, true) else if x = 122 then (b58, r, true) else (b0, r, false)
structure Bz (w wx : World) : Prop where
  r : wx.heap[w.heap.size]? = some (.cells b0.cs 62 (0, 0))
  b : Below w.heap.size w wx
theorem Bz.below {w wx wy : World} (h : Bz w wx) (hb : Below wx.heap.size wx wy) : Bz w wy := ⟨(hb.block _ (blk_lt h.r)).trans h.r, h.b.trans (hb.mono h.b.size)⟩
theorem Bz.start (w : World) : Bz w (w.alloc (.cells #[.string ⟨#[]⟩, .string ⟨#[]⟩, .int .i64 0] 62)) := ⟨heap_alloc_new w _, below_alloc4 w _⟩
theorem below_drewN (w : World) (n : Nat) : Below w.heap.size w (w.drewN n) := ((Kp.refl (fun _ => False) w).drewN n).below (Nat.le_refl _) (fun _ h => h.elim)
set_option maxRecDepth 1000000 in
set_option maxHeartbeats 2000000 in
theorem split_any (w : World) (s : ByteArray) (hs : s.size ≤ 1000) :
    Calls Tryd.prog 38 #[.string s] w fun e w' => e = .returned (.tuple #[.agg (spl (sl s)).1.cs, .string (nstr (spl (sl s)).2.1), .bool (spl (sl s)).2.2]) ∧ Below w.heap.size w w' := by
  have HZ0 := hide (Bz.start w)
  cases hsl : sl s with
  | nil =>
    have g0 : s.toList.isEmpty = true := by
      rw [ByteArray.toList_eq]
      unfold sl at hsl
      simpa using hsl
    have HR0 := hide HZ0.out.r
    clear hsl
    go_enter Tryd.func38, Tryd.ntmps38
    go_wp2_with (refine wpList_storeB rfl rfl w.heap.size b0.cs b0 rfl rfl rfl HR0.out ?_)
    exact bodyPost_ret (end_c3 rfl Tryd.underlying62 infoB rfl (row_same HR0.out) rfl rfl rfl) rfl ⟨rfl, HZ0.out.b.trans ((row_kp _ _ _).below HZ0.out.b.size (fun q e => by omega))⟩
  | cons x r =>
    have g0 := not_empty s hsl
    have HT : Hid (s.extract 1 s.size = nstr r) := by show _ = _; rw [ext_tail, hsl]; rfl
    have HSE : Hid (s = nstr (x :: r)) := by show _ = _; rw [← hsl, nstr_sl]
    have HH := hide (fun c => ext_head s hsl c)
    have hp : (1 : Int) ≤ (s.size : Int) := by have := sl_len s; rw [hsl, List.length_cons] at this; omega
    clear hsl
    by_cases h81 : x = 81
    · as_aux_lemma =>
      have HSP : Hid (spl (x :: r) = (b58, x :: r, true)) := by show _ = _; simp only [spl]; rw [if_pos h81]
      rw [HSP.out]
      have k81 := HH.out 81
      rw [decide_eq_true (by exact h81)] at k81
      clear HH h81
      go_enter Tryd.func38, Tryd.ntmps38
      go_wp2_with fail
      go_quiet (fail)
      go_wp2_with fail
      have HZ1 := hide (HZ0.out.below (below_drewN _ nq))
      generalize (w.alloc (.cells #[.string ⟨#[]⟩, .string ⟨#[]⟩, .int .i64 0] 62)).drewN nq = w1 at *
      have HBO : Calls Tryd.prog 33 #[.int .i64 3] w1 fun e w' => e = .returned (.tuple #[.agg b58.cs, .bool true]) ∧ Below w1.heap.size w1 w' := baseOf_any w1 3
      refine HBO.mono ?_
      rintro e w2 ⟨rfl, hb2⟩
      have HZ3 : Hid (Bz w (w2.alloc (.cells b58.cs 62))) := (HZ1.out.below hb2).below (below_alloc4 w2 _)
      have HTB : Hid ((w2.alloc (.cells b58.cs 62)).heap[w2.heap.size]? = some (.cells b58.cs 62 (0, 0))) := heap_alloc_new w2 _
      have HR3 := hide HZ3.out.r
      clear hb2
      go_wp2_with (first
        | (refine wpList_storeB rfl rfl w2.heap.size b0.cs b58 rfl rfl rfl (heap_alloc_new w2 _) ?_; rw [World.setRow_alloc_new])
        | (refine wpList_loadB rfl rfl w2.heap.size b58.cs rfl rfl HTB.out ?_)
        | (refine wpList_storeB rfl rfl w.heap.size b0.cs b58 rfl rfl rfl HR3.out ?_))
      exact bodyPost_ret (end_c3 rfl Tryd.underlying62 infoB rfl (row_same HR3.out) rfl rfl rfl) rfl ⟨by rw [← HSE.out]; rfl, HZ3.out.b.trans ((row_kp _ _ _).below HZ3.out.b.size (fun q e => by omega))⟩
    · skip
      by_cases h102 : x = 102
      · as_aux_lemma =>
        have HSP : Hid (spl (x :: r) = (b16, r, true)) := by show _ = _; simp only [spl]; rw [if_neg h81]; rw [if_pos h102]
        rw [HSP.out]
        have k81 := HH.out 81
        rw [decide_eq_false (by exact h81)] at k81
        have k102 := HH.out 102
        rw [decide_eq_true (by exact h102)] at k102
        clear HH h81 h102
        go_enter Tryd.func38, Tryd.ntmps38
        go_wp2_with fail
        go_quiet (fail)
        go_wp2_with fail
        have HZ1 := hide (HZ0.out.below (below_drewN _ nq))
        generalize (w.alloc (.cells #[.string ⟨#[]⟩, .string ⟨#[]⟩, .int .i64 0] 62)).drewN nq = w1 at *
        have HBO : Calls Tryd.prog 33 #[.int .i64 1] w1 fun e w' => e = .returned (.tuple #[.agg b16.cs, .bool true]) ∧ Below w1.heap.size w1 w' := baseOf_any w1 1
        refine HBO.mono ?_
        rintro e w2 ⟨rfl, hb2⟩
        have HZ3 : Hid (Bz w (w2.alloc (.cells b16.cs 62))) := (HZ1.out.below hb2).below (below_alloc4 w2 _)
        have HTB : Hid ((w2.alloc (.cells b16.cs 62)).heap[w2.heap.size]? = some (.cells b16.cs 62 (0, 0))) := heap_alloc_new w2 _
        have HR3 := hide HZ3.out.r
        clear hb2
        go_wp2_with (first
          | (refine wpList_storeB rfl rfl w2.heap.size b0.cs b16 rfl rfl rfl (heap_alloc_new w2 _) ?_; rw [World.setRow_alloc_new])
          | (refine wpList_loadB rfl rfl w2.heap.size b16.cs rfl rfl HTB.out ?_)
          | (refine wpList_storeB rfl rfl w.heap.size b0.cs b16 rfl rfl rfl HR3.out ?_))
        exact bodyPost_ret (end_c3 rfl Tryd.underlying62 infoB rfl (row_same HR3.out) rfl rfl rfl) rfl ⟨by rw [← HT.out]; rfl, HZ3.out.b.trans ((row_kp _ _ _).below HZ3.out.b.size (fun q e => by omega))⟩
      · skip
        by_cases h98 : x = 98
        · as_aux_lemma =>
          have HSP : Hid (spl (x :: r) = (b32, r, true)) := by show _ = _; simp only [spl]; rw [if_neg h81]; rw [if_neg h102]; rw [if_pos h98]
          rw [HSP.out]
          have k81 := HH.out 81
          rw [decide_eq_false (by exact h81)] at k81
          have k102 := HH.out 102
          rw [decide_eq_false (by exact h102)] at k102
          have k98 := HH.out 98
          rw [decide_eq_true (by exact h98)] at k98
          clear HH h81 h102 h98
          go_enter Tryd.func38, Tryd.ntmps38
          go_wp2_with fail
          go_quiet (fail)
          go_wp2_with fail
          have HZ1 := hide (HZ0.out.below (below_drewN _ nq))
          generalize (w.alloc (.cells #[.string ⟨#[]⟩, .string ⟨#[]⟩, .int .i64 0] 62)).drewN nq = w1 at *
          have HBO : Calls Tryd.prog 33 #[.int .i64 2] w1 fun e w' => e = .returned (.tuple #[.agg b32.cs, .bool true]) ∧ Below w1.heap.size w1 w' := baseOf_any w1 2
          refine HBO.mono ?_
          rintro e w2 ⟨rfl, hb2⟩
          have HZ3 : Hid (Bz w (w2.alloc (.cells b32.cs 62))) := (HZ1.out.below hb2).below (below_alloc4 w2 _)
          have HTB : Hid ((w2.alloc (.cells b32.cs 62)).heap[w2.heap.size]? = some (.cells b32.cs 62 (0, 0))) := heap_alloc_new w2 _
          have HR3 := hide HZ3.out.r
          clear hb2
          go_wp2_with (first
            | (refine wpList_storeB rfl rfl w2.heap.size b0.cs b32 rfl rfl rfl (heap_alloc_new w2 _) ?_; rw [World.setRow_alloc_new])
            | (refine wpList_loadB rfl rfl w2.heap.size b32.cs rfl rfl HTB.out ?_)
            | (refine wpList_storeB rfl rfl w.heap.size b0.cs b32 rfl rfl rfl HR3.out ?_))
          exact bodyPost_ret (end_c3 rfl Tryd.underlying62 infoB rfl (row_same HR3.out) rfl rfl rfl) rfl ⟨by rw [← HT.out]; rfl, HZ3.out.b.trans ((row_kp _ _ _).below HZ3.out.b.size (fun q e => by omega))⟩
        · skip
          by_cases h122 : x = 122
          · as_aux_lemma =>
            have HSP : Hid (spl (x :: r) = (b58, r, true)) := by show _ = _; simp only [spl]; rw [if_neg h81]; rw [if_neg h102]; rw [if_neg h98]; rw [if_pos h122]
            rw [HSP.out]
            have k81 := HH.out 81
            rw [decide_eq_false (by exact h81)] at k81
            have k102 := HH.out 102
            rw [decide_eq_false (by exact h102)] at k102
            have k98 := HH.out 98
            rw [decide_eq_false (by exact h98)] at k98
            have k122 := HH.out 122
            rw [decide_eq_true (by exact h122)] at k122
            clear HH h81 h102 h98 h122
            go_enter Tryd.func38, Tryd.ntmps38
            go_wp2_with fail
            go_quiet (fail)
            go_wp2_with fail
            have HZ1 := hide (HZ0.out.below (below_drewN _ nq))
            generalize (w.alloc (.cells #[.string ⟨#[]⟩, .string ⟨#[]⟩, .int .i64 0] 62)).drewN nq = w1 at *
            have HBO : Calls Tryd.prog 33 #[.int .i64 3] w1 fun e w' => e = .returned (.tuple #[.agg b58.cs, .bool true]) ∧ Below w1.heap.size w1 w' := baseOf_any w1 3
            refine HBO.mono ?_
            rintro e w2 ⟨rfl, hb2⟩
            have HZ3 : Hid (Bz w (w2.alloc (.cells b58.cs 62))) := (HZ1.out.below hb2).below (below_alloc4 w2 _)
            have HTB : Hid ((w2.alloc (.cells b58.cs 62)).heap[w2.heap.size]? = some (.cells b58.cs 62 (0, 0))) := heap_alloc_new w2 _
            have HR3 := hide HZ3.out.r
            clear hb2
            go_wp2_with (first
              | (refine wpList_storeB rfl rfl w2.heap.size b0.cs b58 rfl rfl rfl (heap_alloc_new w2 _) ?_; rw [World.setRow_alloc_new])
              | (refine wpList_loadB rfl rfl w2.heap.size b58.cs rfl rfl HTB.out ?_)
              | (refine wpList_storeB rfl rfl w.heap.size b0.cs b58 rfl rfl rfl HR3.out ?_))
            exact bodyPost_ret (end_c3 rfl Tryd.underlying62 infoB rfl (row_same HR3.out) rfl rfl rfl) rfl ⟨by rw [← HT.out]; rfl, HZ3.out.b.trans ((row_kp _ _ _).below HZ3.out.b.size (fun q e => by omega))⟩
          · skip
            as_aux_lemma =>
            have HSP : Hid (spl (x :: r) = (b0, r, false)) := by show _ = _; simp only [spl]; rw [if_neg h81]; rw [if_neg h102]; rw [if_neg h98]; rw [if_neg h122]
            rw [HSP.out]
            have k81 := HH.out 81
            rw [decide_eq_false (by exact h81)] at k81
            have k102 := HH.out 102
            rw [decide_eq_false (by exact h102)] at k102
            have k98 := HH.out 98
            rw [decide_eq_false (by exact h98)] at k98
            have k122 := HH.out 122
            rw [decide_eq_false (by exact h122)] at k122
            clear HH h81 h102 h98 h122
            go_enter Tryd.func38, Tryd.ntmps38
            go_wp2_with fail
            go_quiet (fail)
            go_wp2_with fail
            have HZ1 := hide (HZ0.out.below (below_drewN _ nq))
            generalize (w.alloc (.cells #[.string ⟨#[]⟩, .string ⟨#[]⟩, .int .i64 0] 62)).drewN nq = w1 at *
            have HBO : Calls Tryd.prog 33 #[.int .i64 0] w1 fun e w' => e = .returned (.tuple #[.agg b0.cs, .bool false]) ∧ Below w1.heap.size w1 w' := baseOf_any w1 0
            refine HBO.mono ?_
            rintro e w2 ⟨rfl, hb2⟩
            have HZ3 : Hid (Bz w (w2.alloc (.cells b0.cs 62))) := (HZ1.out.below hb2).below (below_alloc4 w2 _)
            have HTB : Hid ((w2.alloc (.cells b0.cs 62)).heap[w2.heap.size]? = some (.cells b0.cs 62 (0, 0))) := heap_alloc_new w2 _
            have HR3 := hide HZ3.out.r
            clear hb2
            go_wp2_with (first
              | (refine wpList_storeB rfl rfl w2.heap.size b0.cs b0 rfl rfl rfl (heap_alloc_new w2 _) ?_; rw [World.setRow_alloc_new])
              | (refine wpList_loadB rfl rfl w2.heap.size b0.cs rfl rfl HTB.out ?_)
              | (refine wpList_storeB rfl rfl w.heap.size b0.cs b0 rfl rfl rfl HR3.out ?_))
            exact bodyPost_ret (end_c3 rfl Tryd.underlying62 infoB rfl (row_same HR3.out) rfl rfl rfl) rfl ⟨by rw [← HT.out]; rfl, HZ3.out.b.trans ((row_kp _ _ _).below HZ3.out.b.size (fun q e => by omega))⟩
end
section
open Go.RowKit Go
/-- The row that a text is in a base. -/
def rowd (b : Bs) (s : List Nat) : Option (List Nat) := (looks (sl b.t) s).bind fun l => if b.n = 0 then some (conv b.t.size 256 l) else if encW b.n (decW b.n l) = l then some (decW b.n l) else none
theorem rowd_byte {b : Bs} {s o : List Nat} (h : rowd b s = some o) : ∀ x ∈ o, x < 256 := by
  unfold rowd at h
  obtain ⟨l, _, h⟩ := Option.bind_eq_some_iff.1 h
  split at h
  · injection h with h
    subst h
    exact conv_lt (by decide) l
  · split at h
    · injection h with h
      subst h
      exact decW_lt _ l
    · cases h
set_option maxRecDepth 1000000 in
set_option maxHeartbeats 1000000 in
theorem row_any (w : World) (b : Bs) (s : ByteArray) (hb : Bok b) (hs : s.size ≤ 1000) :
    Calls Tryd.prog 39 #[.agg b.cs, .string s] w fun e w' => ∃ v o, e = .returned (.tuple #[v, .bool (rowd b (sl s)).isSome]) ∧ w'.ownsRow w.heap.size 5 1 v o.length (bv o) ∧ (∀ x, rowd b (sl s) = some x → o = x) ∧ Below w.heap.size w w' := by
  have HB := hide hb
  have HS := hide hs
  have HRD : Hid (rowd b (sl s) = (looks (sl b.t) (sl s)).bind fun l => if b.n = 0 then some (conv b.t.size 256 l) else if encW b.n (decW b.n l) = l then some (decW b.n l) else none) := rfl
  have HLT : Hid (∀ l, looks (sl b.t) (sl s) = some l → (∀ x ∈ l, x < b.t.size) ∧ l.length = s.size) := fun l h => ⟨fun x hx => by have := looks_lt h x hx; rw [sl_len] at this; exact this, by rw [looks_len h, sl_len]⟩
  clear hb hs
  obtain ⟨bl, bt, bn⟩ := b
  have HT : Hid ((w.alloc (.cells #[.string bl, .string bt, .int .i64 (bn : Nat)] 62)).heap[w.heap.size]? = some (.cells (Bs.cs ⟨bl, bt, bn⟩) 62 (0, 0))) := heap_alloc_new w _
  have HB0 := hide (below_alloc4 w (.cells #[.string bl, .string bt, .int .i64 (bn : Nat)] 62))
  simp only [Bs.cs] at HRD HLT ⊢
  generalize rowd ⟨bl, bt, bn⟩ (sl s) = RD at *
  go_enter Tryd.func39, Tryd.ntmps39
  go_wp2_with fail
  generalize w.alloc (.cells #[.string bl, .string bt, .int .i64 (bn : Nat)] 62) = w0 at *
  refine (numbers_any w0 bl bt s (bn : Nat) HB.out.t2 HB.out.w HS.out).mono ?_
  rintro e w1 ⟨v1, rfl, ho1, hb1⟩
  have HB1 : Hid (Below w.heap.size w w1) := HB0.out.trans (hb1.mono HB0.out.size)
  have HT1 : Hid (w1.heap[w.heap.size]? = some (.cells (Bs.cs ⟨bl, bt, bn⟩) 62 (0, 0))) := (hb1.block _ (blk_lt HT.out)).trans HT.out
  have c1 : w1.cell? ⟨w.heap.size, 1, none⟩ = some (.string bt) := blk_cell HT1.out rfl
  have c2 : w1.cell? ⟨w.heap.size, 2, none⟩ = some (.int .i64 (bn : Nat)) := blk_cell HT1.out rfl
  cases hlo : looks (sl bt) (sl s) with
  | none =>
    as_aux_lemma =>
    rw [hlo] at ho1 HRD
    simp only [Option.isSome_none, Option.getD_none, Option.bind_none] at ho1 HRD ⊢
    obtain ⟨a2, cc2, hv2, hq1, hq2, hq3⟩ := own_form ho1
    subst hv2
    clear ho1 hb1 hq1 hq2 hq3 hlo
    go_wp2_with fail
    go_ret2
    exact ⟨_, [], by rw [HRD.out]; rfl, World.ownsRow_nil _ _ _ _, fun x hx => (by rw [HRD.out] at hx; cases hx), HB1.out⟩
  | some l =>
    rw [hlo] at ho1 HRD
    have hll := HLT.out l hlo
    simp only [Option.isSome_some, Option.getD_some, Option.bind_some] at ho1 HRD ⊢
    have HLX := hide hll.1
    have HLN := hide hll.2
    have HBS := hide (BSl.own ho1 (fun x hx => by have := hll.1 x hx; have := HB.out.t2; simp only at this; omega))
    obtain ⟨a2, cc2, hv2, hq1, hq2, hq3⟩ := own_form ho1
    subst hv2
    clear ho1 hb1 hq1 hq2 hq3 hlo hll HLT
    by_cases h0 : bn = 0
    · subst h0
      as_aux_lemma =>
      have HRE : Hid (RD = some (conv bt.size 256 l)) := by show _ = _; rw [HRD.out, if_pos rfl]
      clear HRD
      go_wp2_with fail
      have HRC : Calls Tryd.prog 63 #[.slice a2 l.length cc2, .int .i64 (bt.size : Nat), .int .i64 256] w1 _ := recast_any w1 _ l bt.size 256 HBS.out HB.out.t (Nat.le_trans HB.out.t2 (by decide)) (by decide) (by decide) HLX.out (by rw [HLN.out]; exact HS.out)
      refine HRC.mono ?_
      rintro e w2 ⟨v3, rfl, ho3, hb3⟩
      have HO := hide (own_mono4 ho3 HB1.out.size)
      have HB2 : Hid (Below w.heap.size w w2) := HB1.out.trans (hb3.mono HB1.out.size)
      obtain ⟨a3, cc3, hv3, hq1, hq2, hq3⟩ := own_form ho3
      subst hv3
      clear ho3 hb3 hq1 hq2 hq3
      go_wp2_with fail
      go_ret2
      exact ⟨_, _, by rw [HRE.out]; rfl, HO.out, fun x hx => (by rw [HRE.out] at hx; injection hx), HB2.out⟩
    · have g0 : ((bn : Int) == 0) = false := beq_eq_false_iff_ne.2 (by omega)
      have hn8 : bn ≤ 8 := HB.out.n
      have h0' : 0 < bn := by omega
      have HPW : Hid (∀ x ∈ l, x < 2 ^ bn) := fun x hx => by have h1 := HB.out.e h0; simp only at h1; rw [h1]; exact HLX.out x hx
      rw [if_neg h0] at HRD
      clear h0
      go_wp2_with fail
      have HRC : Calls Tryd.prog 64 #[.slice a2 l.length cc2, .int .i64 (bn : Nat), .int .i64 8] w1 _ := regroup_any w1 _ l bn 8 HBS.out h0' hn8 (by decide) (by decide) HPW.out (by rw [HLN.out]; exact HS.out)
      refine HRC.mono ?_
      rintro e w2 ⟨v3, out, R, rfl, hg, hR, ho3, hb3⟩
      have HED := hide (enc_dec h0' HPW.out hg hR)
      have HDW : Hid (decW bn l = out) := (hg.grp (by decide) hR).symm
      rw [HDW.out] at HRD
      have HO := hide (own_mono4 ho3 HB1.out.size)
      have HB2 : Hid (Below w.heap.size w w2) := HB1.out.trans (hb3.mono HB1.out.size)
      have c3 : w2.cell? ⟨w.heap.size, 2, none⟩ = some (.int .i64 (bn : Nat)) := keep_below hb3 _ _ c2
      obtain ⟨a3, cc3, hv3, hq1, hq2, hq3⟩ := own_form ho3
      subst hv3
      clear ho3 hb3 hq1 hq2 hq3 c1 c2 hg HDW
      by_cases hlt : R.length < bn
      · have g1 : (R.length : Int) < (bn : Int) := by omega
        by_cases hz : valB 2 R = 0
        · as_aux_lemma =>
          have HRE : Hid (RD = some out) := by show _ = _; rw [HRD.out, if_pos (HED.out.2 ⟨hlt, hz⟩)]
          rw [hz]
          clear HRD HED
          go_wp2_with fail
          go_ret2
          exact ⟨_, _, by rw [HRE.out]; rfl, HO.out, fun x hx => (by rw [HRE.out] at hx; injection hx), HB2.out⟩
        · as_aux_lemma =>
          have HRE : Hid (RD = none) := by show _ = _; rw [HRD.out, if_neg (fun e => hz (HED.out.1 e).2)]
          have g2 : ((valB 2 R : Int) == 0) = false := beq_eq_false_iff_ne.2 (by omega)
          clear HRD HED
          go_wp2_with fail
          go_ret2
          exact ⟨_, _, by rw [HRE.out]; rfl, HO.out, fun x hx => (by rw [HRE.out] at hx; cases hx), HB2.out⟩
      · as_aux_lemma =>
        have g1 : ¬ (R.length : Int) < (bn : Int) := by omega
        have HRE : Hid (RD = none) := by show _ = _; rw [HRD.out, if_neg (fun e => hlt (HED.out.1 e).1)]
        clear HRD HED
        go_wp2_with fail
        go_ret2
        exact ⟨_, _, by rw [HRE.out]; rfl, HO.out, fun x hx => (by rw [HRE.out] at hx; cases hx), HB2.out⟩
end
section
open Go.RowKit Go
set_option maxRecDepth 1000000 in
set_option maxHeartbeats 1000000 in
theorem parse4_any (w : World) (v : Value) (b : List Nat) (hb : BSl w v b) :
    Calls Tryd.prog 29 #[v] w fun e w' => e = .returned (.tuple #[lkv (lparse b).1, .int .i64 ((lparse b).2 : Nat)]) ∧ Below w.heap.size w w' := by
  have HB := hide hb
  obtain ⟨⟨a, cap, rfl, hn, hc⟩, hmax, hby⟩ := hb
  have HF0 := hide (Fz.start w)
  clear hn hc hby
  go_enter Tryd.func29, Tryd.ntmps29
  go_wp2_with fail
  generalize w.alloc (.cells #[.int .i64 0, .int .u64 0, .int .u64 0, .string ⟨#[]⟩] 35) = w0 at *
  refine (first4_any w0 _ b (HB.out.move (keep_below HF0.out.b))).mono ?_
  rintro e w1 ⟨rfl, hb1⟩
  have HF1 := hide (HF0.out.below hb1)
  have HPR : Hid (lparse b = if (lfirst b).2.2 ≠ 0 then (Lk.none, (lfirst b).2.2) else if (lfirst b).2.1 < b.length then (Lk.none, 44) else ((lfirst b).1, 0)) := rfl
  clear hb1
  generalize lfirst b = r at *
  obtain ⟨⟨lv, lc, lh, ld⟩, n, er⟩ := r
  simp only at HPR ⊢
  have HL2 : Hid ((w1.alloc (.cells #[.int .i64 lv, .int .u64 (lc : Nat), .int .u64 (lh : Nat), .string (nstr ld)] 35)).heap[w1.heap.size]? = some (.cells (lcs ⟨lv, lc, lh, ld⟩) 35 (0, 0))) := heap_alloc_new w1 _
  have HF2 : Hid (Fz w (w1.alloc (.cells #[.int .i64 lv, .int .u64 (lc : Nat), .int .u64 (lh : Nat), .string (nstr ld)] 35))) := HF1.out.below (below_alloc4 w1 _)
  have HR2 := hide HF2.out.r
  clear HF1 HF0
  simp only [lkv]
  by_cases he : er = 0
  · subst he
    by_cases hlt : n < b.length
    · as_aux_lemma =>
      have g1 : (n : Int) < (b.length : Int) := by omega
      have HP2 : Hid (lparse b = (Lk.none, 44)) := by show _ = _; rw [HPR.out]; simp [hlt]
      clear HPR hlt
      go_wp2_with (refine wpList_zero rfl rfl w.heap.size rfl rfl HR2.out ?_)
      exact bodyPost_ret (end_c2 rfl Tryd.underlying35 info61 rfl HR2.out rfl rfl) rfl ⟨by rw [HP2.out]; rfl, HF2.out.b⟩
    · as_aux_lemma =>
      have g1 : ¬ (n : Int) < (b.length : Int) := by omega
      have HP2 : Hid (lparse b = (⟨lv, lc, lh, ld⟩, 0)) := by show _ = _; rw [HPR.out]; simp [hlt]
      clear HPR hlt
      go_wp2_with (first
        | (refine wpList_loadLk rfl rfl w1.heap.size _ rfl rfl HL2.out ?_)
        | (refine wpList_storeLk rfl rfl w.heap.size zlk ⟨lv, lc, lh, ld⟩ rfl rfl rfl HR2.out ?_))
      exact bodyPost_ret (end_c2 rfl Tryd.underlying35 info61 rfl (row_same HR2.out) rfl rfl) rfl ⟨by rw [HP2.out]; rfl, HF2.out.b.trans ((row_kp _ _ _).below HF2.out.b.size (fun q e => by omega))⟩
  · as_aux_lemma =>
    have g1 : ((er : Int) == 0) = false := beq_eq_false_iff_ne.2 (by omega)
    have HP2 : Hid (lparse b = (Lk.none, er)) := by show _ = _; rw [HPR.out]; simp [he]
    clear HPR he
    go_wp2_with (refine wpList_zero rfl rfl w.heap.size rfl rfl HR2.out ?_)
    exact bodyPost_ret (end_c2 rfl Tryd.underlying35 info61 rfl HR2.out rfl rfl) rfl ⟨by rw [HP2.out]; rfl, HF2.out.b⟩
end
section
open Go.RowKit Go
theorem enc_map {t : List Nat} {s l x : List Nat} (ht : ∀ i, i < t.length → look t (t.getD i 0) = some i) (hl : looks t s = some l) (hx : ∀ i ∈ x, i < t.length) : x.map (t.getD · 0) = s ↔ x = l := by
  constructor
  · intro e
    have h := looks_map ht hx
    rw [e, hl] at h
    injection h with h
    exact h.symm
  · intro e
    rw [e]
    exact (looks_back hl).1
theorem rowd16 (s : List Nat) : rowd b16 s = in16 s := by
  unfold rowd in16
  show ((looks (sl s16) s).bind fun l => if (4 : Nat) = 0 then _ else if encW 4 (decW 4 l) = l then some (decW 4 l) else none) = _
  rw [sl16]
  cases h : looks d16 s with
  | none => rfl
  | some l =>
    simp only [Option.bind_some]
    rw [if_neg (by decide)]
    have e := enc_map (t := d16) look16 h (encW_lt (w := 4) (by decide) (decW 4 l))
    unfold of16
    by_cases h1 : encW 4 (decW 4 l) = l
    · rw [if_pos h1, if_pos (e.2 h1)]
    · rw [if_neg h1, if_neg (fun h => h1 (e.1 h))]
theorem rowd32 (s : List Nat) : rowd b32 s = in32 s := by
  unfold rowd in32
  show ((looks (sl s32) s).bind fun l => if (5 : Nat) = 0 then _ else if encW 5 (decW 5 l) = l then some (decW 5 l) else none) = _
  rw [sl32]
  cases h : looks d32 s with
  | none => rfl
  | some l =>
    simp only [Option.bind_some]
    rw [if_neg (by decide)]
    have e := enc_map (t := d32) look32 h (encW_lt (w := 5) (by decide) (decW 5 l))
    unfold of32
    by_cases h1 : encW 5 (decW 5 l) = l
    · rw [if_pos h1, if_pos (e.2 h1)]
    · rw [if_neg h1, if_neg (fun h => h1 (e.1 h))]
theorem rowd58 (s : List Nat) : rowd b58 s = in58 s := by
  unfold rowd in58
  show ((looks (sl s58) s).bind fun l => some (conv 58 256 l)) = _
  rw [sl58]
  cases looks d58 s <;> rfl
/-- What ParseText tells, by the landed code's steps. -/
def ptx (s : List Nat) : Lk × Nat :=
  if 153 < s.length then (Lk.none, 46) else if (spl s).2.2 = false then (Lk.none, 45)
  else match rowd (spl s).1 (spl s).2.1 with
    | none => (Lk.none, 46)
    | some b => if (lparse b).2 ≠ 0 then (Lk.none, (lparse b).2) else if decide ((lparse b).1.v = 0) ≠ decide (s.head? = some 81) then (Lk.none, 41) else ((lparse b).1, 0)
theorem ptx_eq {s : List Nat} (hs : ∀ x ∈ s, x < 256) : ptx s = lparsetext s := by
  unfold ptx lparsetext
  by_cases h1 : 153 < s.length
  · rw [if_pos h1, if_pos h1]
  · rw [if_neg h1, if_neg h1]
    have key : ∀ (b : List Nat) (v : Int) (q : Bool), (∀ x ∈ b, x < 256) → (v = if q then 0 else 1) → (if (lparse b).2 ≠ 0 then (Lk.none, (lparse b).2) else if decide ((lparse b).1.v = 0) ≠ q then (Lk.none, 41) else ((lparse b).1, 0)) = (if (lparse b).2 ≠ 0 then (Lk.none, (lparse b).2) else if (lparse b).1.v ≠ v then (Lk.none, 41) else ((lparse b).1, 0)) := by
      intro b v q hb hv
      by_cases h2 : (lparse b).2 = 0
      · have hok := (lparse_back (l := (lparse b).1) hb (by rw [← h2])).1
        have hv01 : (lparse b).1.v = 0 ∨ (lparse b).1.v = 1 := by
          rcases hok with h | h
          · exact .inl h.1
          · exact .inr h.1
        subst hv
        simp only [h2, ne_eq, not_true_eq_false, if_false]
        generalize (lparse b).1 = l at *
        cases q
        · rcases hv01 with h | h
          · simp [h]
          · simp [h]
        · rcases hv01 with h | h
          · simp [h]
          · simp [h]
      · rw [if_pos h2, if_pos h2]
    cases s with
    | nil => rfl
    | cons x r =>
      have hr : ∀ y ∈ r, y < 256 := fun y hy => hs y (List.mem_cons_of_mem _ hy)
      have main : ∀ (bb : Bs) (t : List Nat) (v : Int) (q : Bool), spl (x :: r) = (bb, t, true) → decide ((x :: r).head? = some 81) = q → (v = if q then 0 else 1) → ltake (x :: r) = (rowd bb t).map (fun b => (v, b)) → ¬ ((x :: r).head? ≠ some 81 ∧ (x :: r).head? ≠ some 102 ∧ (x :: r).head? ≠ some 98 ∧ (x :: r).head? ≠ some 122) →
          (if (spl (x :: r)).2.2 = false then (Lk.none, 45) else match rowd (spl (x :: r)).1 (spl (x :: r)).2.1 with
            | none => (Lk.none, 46)
            | some b => if (lparse b).2 ≠ 0 then (Lk.none, (lparse b).2) else if decide ((lparse b).1.v = 0) ≠ decide ((x :: r).head? = some 81) then (Lk.none, 41) else ((lparse b).1, 0)) =
          (if (x :: r).head? ≠ some 81 ∧ (x :: r).head? ≠ some 102 ∧ (x :: r).head? ≠ some 98 ∧ (x :: r).head? ≠ some 122 then (Lk.none, 45) else match ltake (x :: r) with
            | none => (Lk.none, 46)
            | some (v, b) => if (lparse b).2 ≠ 0 then (Lk.none, (lparse b).2) else if (lparse b).1.v ≠ v then (Lk.none, 41) else ((lparse b).1, 0)) := by
        intro bb t v q e1 e2 e3 e4 e5
        rw [if_neg e5, e1, e2, e4]
        rw [if_neg (by simp)]
        simp only
        cases hrow : rowd bb t with
        | none => rfl
        | some b => exact key b v q (rowd_byte hrow) e3
      by_cases h81 : x = 81
      · subst h81
        exact main b58 (81 :: r) 0 true rfl rfl rfl (by rw [rowd58]; rfl) (by simp)
      · by_cases h102 : x = 102
        · subst h102
          exact main b16 r 1 false rfl rfl rfl (by rw [rowd16]; rfl) (by simp)
        · by_cases h98 : x = 98
          · subst h98
            exact main b32 r 1 false rfl rfl rfl (by rw [rowd32]; rfl) (by simp)
          · by_cases h122 : x = 122
            · subst h122
              exact main b58 r 1 false rfl rfl rfl (by rw [rowd58]; rfl) (by simp)
            · have e : spl (x :: r) = (b0, r, false) := by
                simp only [spl]
                rw [if_neg h81, if_neg h102, if_neg h98, if_neg h122]
              rw [e, if_pos rfl, if_pos (by simp [h81, h102, h98, h122])]
theorem spl_ok {s : List Nat} (h : (spl s).2.2 = true) : Bok (spl s).1 := by
  cases s with
  | nil => simp [spl] at h
  | cons x r =>
    simp only [spl] at h ⊢
    split
    · exact bok58
    · split
      · exact bok16
      · split
        · exact bok32
        · split
          · exact bok58
          · rename_i h1 h2 h3 h4
            rw [if_neg h1, if_neg h2, if_neg h3, if_neg h4] at h
            cases h
theorem spl_cons {s : List Nat} (h : (spl s).2.2 = true) : ∃ x r, s = x :: r := by
  cases s with
  | nil => simp [spl] at h
  | cons x r => exact ⟨x, r, rfl⟩
theorem spl_len (s : List Nat) : (spl s).2.1.length ≤ s.length := by
  cases s with
  | nil => simp [spl]
  | cons x r =>
    simp only [spl]
    repeat' split
    all_goals simp
theorem spl_byte {s : List Nat} (h : ∀ x ∈ s, x < 256) : ∀ x ∈ (spl s).2.1, x < 256 := by
  cases s with
  | nil => simp [spl]
  | cons x r =>
    have hr : ∀ y ∈ r, y < 256 := fun y hy => h y (List.mem_cons_of_mem _ hy)
    simp only [spl]
    repeat' split
    all_goals first | exact h | exact hr
end
section
open Go.RowKit Go
set_option maxRecDepth 1000000 in
set_option maxHeartbeats 2000000 in
theorem parsetext_any (w : World) (s : ByteArray) (hs : s.size ≤ 9223372036854775807) :
    Calls Tryd.prog 15 #[.string s] w fun e w' => e = .returned (.tuple #[lkv (lparsetext (sl s)).1, .int .i64 ((lparsetext (sl s)).2 : Nat)]) ∧ Below w.heap.size w w' := by
  have HF0 := hide (Fz.start w)
  rw [← ptx_eq (sl_byte s)]
  have HPX : Hid (ptx (sl s) = if 153 < (sl s).length then (Lk.none, 46) else if (spl (sl s)).2.2 = false then (Lk.none, 45)
    else match rowd (spl (sl s)).1 (spl (sl s)).2.1 with
      | none => (Lk.none, 46)
      | some b => if (lparse b).2 ≠ 0 then (Lk.none, (lparse b).2) else if decide ((lparse b).1.v = 0) ≠ decide ((sl s).head? = some 81) then (Lk.none, 41) else ((lparse b).1, 0)) := rfl
  rw [sl_len] at HPX
  have HR0 := hide HF0.out.r
  generalize ptx (sl s) = R at *
  by_cases h153 : 153 < s.size
  · as_aux_lemma =>
    have g1 : (153 : Int) < (s.size : Int) := by omega
    rw [if_pos h153] at HPX
    clear h153
    go_enter Tryd.func15, Tryd.ntmps15
    go_wp2_with (refine wpList_zero rfl rfl w.heap.size rfl rfl HR0.out ?_)
    exact bodyPost_ret (end_c2 rfl Tryd.underlying35 info61 rfl HR0.out rfl rfl) rfl ⟨by rw [HPX.out]; rfl, HF0.out.b⟩
  · have g1 : ¬ (153 : Int) < (s.size : Int) := by omega
    rw [if_neg h153] at HPX
    have HSP := hide (split_any (w.alloc (.cells #[.int .i64 0, .int .u64 0, .int .u64 0, .string ⟨#[]⟩] 35)) s (by omega))
    have HSO := hide (spl_ok (s := sl s))
    have HSC := hide (spl_cons (s := sl s))
    have HSL := hide (spl_len (sl s))
    have HSB := hide (spl_byte (sl_byte s))
    rw [sl_len] at HSL
    have hS153 : s.size ≤ 153 := by omega
    clear h153
    go_enter Tryd.func15, Tryd.ntmps15
    go_wp2_with fail
    generalize w.alloc (.cells #[.int .i64 0, .int .u64 0, .int .u64 0, .string ⟨#[]⟩] 35) = w0 at *
    refine HSP.out.mono ?_
    rintro e w1 ⟨rfl, hb1⟩
    have HF1 := hide (HF0.out.below hb1)
    clear HSP HF0 HR0 hb1
    generalize hsp : spl (sl s) = sp at *
    clear hsp
    obtain ⟨⟨bl, bt, bn⟩, dd, ok⟩ := sp
    simp only [Bs.cs] at HPX HSO HSL HSB HSC ⊢
    have hb2 := below_alloc4 w1 (.cells #[.string bl, .string bt, .int .i64 (bn : Nat)] 62)
    have HF2 := hide (HF1.out.below hb2)
    have HTB : Hid ((w1.alloc (.cells #[.string bl, .string bt, .int .i64 (bn : Nat)] 62)).heap[w1.heap.size]? = some (.cells (Bs.cs ⟨bl, bt, bn⟩) 62 (0, 0))) := heap_alloc_new w1 _
    have HR2 := hide HF2.out.r
    clear hb2 HF1
    cases ok with
    | false =>
      as_aux_lemma =>
      rw [if_pos rfl] at HPX
      go_wp2_with (refine wpList_zero rfl rfl w.heap.size rfl rfl HR2.out ?_)
      exact bodyPost_ret (end_c2 rfl Tryd.underlying35 info61 rfl HR2.out rfl rfl) rfl ⟨by rw [HPX.out]; rfl, HF2.out.b⟩
    | true =>
      rw [if_neg (by decide)] at HPX
      have HBO := hide (HSO.out rfl)
      clear HSO
      have q0 : (w1.alloc (.cells #[.string bl, .string bt, .int .i64 (bn : Nat)] 62)).cell? ⟨w1.heap.size, 0, none⟩ = some (.string bl) := blk_cell HTB.out rfl
      have q1 : (w1.alloc (.cells #[.string bl, .string bt, .int .i64 (bn : Nat)] 62)).cell? ⟨w1.heap.size, 1, none⟩ = some (.string bt) := blk_cell HTB.out rfl
      have q2 : (w1.alloc (.cells #[.string bl, .string bt, .int .i64 (bn : Nat)] 62)).cell? ⟨w1.heap.size, 2, none⟩ = some (.int .i64 (bn : Nat)) := blk_cell HTB.out rfl
      have HRW := hide (row_any (w1.alloc (.cells #[.string bl, .string bt, .int .i64 (bn : Nat)] 62)) ⟨bl, bt, bn⟩ (nstr dd) HBO.out (by rw [nstr_size HSB.out]; have := HSL.out; omega))
      rw [sl_nstr HSB.out] at HRW
      go_wp2_with fail
      clear q0 q1 q2
      generalize w1.alloc (.cells #[.string bl, .string bt, .int .i64 (bn : Nat)] 62) = w2 at *
      refine HRW.out.mono ?_
      rintro e w3 ⟨v3, o, rfl, ho3, hox, hb3⟩
      have HF3 := hide (HF2.out.below hb3)
      have HR3 := hide HF3.out.r
      have HRB := hide (fun o => rowd_byte (b := ⟨bl, bt, bn⟩) (s := dd) (o := o))
      clear hb3 HF2 HR2 HTB HRW
      cases hrow : rowd ⟨bl, bt, bn⟩ dd with
      | none =>
        as_aux_lemma =>
        rw [hrow] at HPX
        simp only at HPX
        obtain ⟨a3, c3, hv3, hq1, hq2, hq3⟩ := own_form ho3
        subst hv3
        clear ho3 hox hq1 hq2 hq3 hrow
        simp only [Option.isSome_none]
        go_wp2_with (refine wpList_zero rfl rfl w.heap.size rfl rfl HR3.out ?_)
        exact bodyPost_ret (end_c2 rfl Tryd.underlying35 info61 rfl HR3.out rfl rfl) rfl ⟨by rw [HPX.out]; rfl, HF3.out.b⟩
      | some x =>
        have hoe := hox x hrow
        subst hoe
        rw [hrow] at HPX
        simp only at HPX
        have HV3 := hide (BSl.own ho3 (HRB.out o hrow))
        obtain ⟨a3, c3, hv3, hq1, hq2, hq3⟩ := own_form ho3
        subst hv3
        clear ho3 hox hq1 hq2 hq3 hrow HRB
        simp only [Option.isSome_some]
        go_wp2_with fail
        refine (parse4_any w3 _ o HV3.out).mono ?_
        rintro e w4 ⟨rfl, hb4⟩
        have HF4 := hide (HF3.out.below hb4)
        clear hb4 HF3 HR3 HV3
        generalize lparse o = lp at *
        obtain ⟨⟨lv, lc, lh, ld⟩, er⟩ := lp
        simp only [lkv] at HPX ⊢
        have HF5 := hide (HF4.out.below (below_alloc4 w4 (.cells #[.int .i64 lv, .int .u64 (lc : Nat), .int .u64 (lh : Nat), .string (nstr ld)] 35)))
        have HL5 : Hid ((w4.alloc (.cells #[.int .i64 lv, .int .u64 (lc : Nat), .int .u64 (lh : Nat), .string (nstr ld)] 35)).heap[w4.heap.size]? = some (.cells (lcs ⟨lv, lc, lh, ld⟩) 35 (0, 0))) := heap_alloc_new w4 _
        have HR5 := hide HF5.out.r
        clear HF4
        by_cases her : er = 0
        · subst her
          rw [if_neg (by simp)] at HPX
          obtain ⟨x, r, hxr⟩ := HSC.out (by simp)
          have hp : (1 : Int) ≤ (s.size : Int) := by have := sl_len s; rw [hxr, List.length_cons] at this; omega
          have k81 := ext_head s hxr 81
          have HHD : Hid (decide ((sl s).head? = some 81) = decide (x = (81 : UInt8).toNat)) := by show _ = _; rw [hxr]; simp
          rw [HHD.out] at HPX
          generalize decide (x = (81 : UInt8).toNat) = qq at *
          have c0 : (w4.alloc (.cells #[.int .i64 lv, .int .u64 (lc : Nat), .int .u64 (lh : Nat), .string (nstr ld)] 35)).cell? ⟨w4.heap.size, 0, none⟩ = some (.int .i64 lv) := blk_cell HL5.out rfl
          have HVB : Hid ((lv == 0) = decide (lv = 0)) := by show _ = _; rw [Bool.eq_iff_iff]; simp
          clear HHD hxr HSC
          by_cases hm : decide (lv = 0) = qq
          · as_aux_lemma =>
            rw [if_neg (fun h => h hm)] at HPX
            have kv : (lv == 0) = qq := by rw [HVB.out, hm]
            clear hm HVB
            go_wp2_with fail
            go_quiet (fail)
            have HRQ := hide ((below_drewN (w4.alloc (.cells #[.int .i64 lv, .int .u64 (lc : Nat), .int .u64 (lh : Nat), .string (nstr ld)] 35)) nq))
            have HF6 := hide (HF5.out.below HRQ.out)
            have HL6 := hide ((HRQ.out.block _ (blk_lt HL5.out)).trans HL5.out)
            have HR6 := hide HF6.out.r
            go_wp2_with (first
              | (refine wpList_loadLk rfl rfl w4.heap.size (lcs ⟨lv, lc, lh, ld⟩) rfl rfl HL6.out ?_)
              | (refine wpList_storeLk rfl rfl w.heap.size zlk ⟨lv, lc, lh, ld⟩ rfl rfl rfl HR6.out ?_))
            exact bodyPost_ret (end_c2 rfl Tryd.underlying35 info61 rfl (row_same HR6.out) rfl rfl) rfl ⟨by rw [HPX.out]; rfl, HF6.out.b.trans ((row_kp _ _ _).below HF6.out.b.size (fun q e => by omega))⟩
          · as_aux_lemma =>
            rw [if_pos hm] at HPX
            have kv : (lv == 0) = !qq := by rw [HVB.out]; cases qq <;> simpa using hm
            clear hm HVB
            go_wp2_with fail
            go_quiet (fail)
            have HRQ := hide ((below_drewN (w4.alloc (.cells #[.int .i64 lv, .int .u64 (lc : Nat), .int .u64 (lh : Nat), .string (nstr ld)] 35)) nq))
            have HF6 := hide (HF5.out.below HRQ.out)
            have HR6 := hide HF6.out.r
            go_wp2_with (refine wpList_zero rfl rfl w.heap.size rfl rfl HR6.out ?_)
            exact bodyPost_ret (end_c2 rfl Tryd.underlying35 info61 rfl HR6.out rfl rfl) rfl ⟨by rw [HPX.out]; rfl, HF6.out.b⟩
        · as_aux_lemma =>
          rw [if_pos her] at HPX
          have g2 : ((er : Int) == 0) = false := beq_eq_false_iff_ne.2 (by omega)
          clear her
          go_wp2_with (refine wpList_zero rfl rfl w.heap.size rfl rfl HR5.out ?_)
          exact bodyPost_ret (end_c2 rfl Tryd.underlying35 info61 rfl HR5.out rfl rfl) rfl ⟨by rw [HPX.out]; rfl, HF5.out.b⟩
end
section
open Go.RowKit Go
set_option maxRecDepth 1000000 in
set_option maxHeartbeats 1000000 in
theorem text4_any (w : World) (l : Lk) (hl : Lkb l) :
    Calls Tryd.prog 9 #[lkv l] w fun e w' => e = .returned (.tuple #[.string (nstr (lttx l).1), .int .i64 (lttx l).2]) ∧ Below w.heap.size w w' := by
  have HL := hide hl
  have HT : Hid ((w.alloc (.cells #[.int .i64 l.v, .int .u64 (l.c : Nat), .int .u64 (l.h : Nat), .string (nstr l.d)] 35)).heap[w.heap.size]? = some (.cells (lcs l) 35 (0, 0))) := heap_alloc_new w _
  have HB := hide (below_alloc4 w (.cells #[.int .i64 l.v, .int .u64 (l.c : Nat), .int .u64 (l.h : Nat), .string (nstr l.d)] 35))
  simp only [lkv]
  generalize hR : lttx l = R
  have HR := hide hR
  clear hR hl
  by_cases hv : l.v = 0
  · have HR2 : Hid (R = if lok l then (btext b58 (lrow l), 0) else ([], 40)) := by
      show _ = _
      rw [← HR.out]
      unfold lttx
      by_cases hk : lok l
      · rw [if_pos hk, if_pos hk]
        unfold ltext lrow
        rw [if_pos hv, if_pos hk, btext58]
      · rw [if_neg hk, if_neg hk]
    clear HR
    obtain ⟨lv, lc, lh, ld⟩ := l
    simp only at hv
    subst hv
    simp only at HT HB ⊢
    go_enter Tryd.func9, Tryd.ntmps9
    go_wp2_with fail
    generalize w.alloc (.cells #[.int .i64 0, .int .u64 (lc : Nat), .int .u64 (lh : Nat), .string (nstr ld)] 35) = w0 at *
    refine (bytes4_any w0 ⟨0, lc, lh, ld⟩ HL.out).mono ?_
    rintro e w1 ⟨v1, rfl, ho1, hb1⟩
    have HB1 : Hid (Below w.heap.size w w1) := HB.out.trans (hb1.mono HB.out.size)
    have HV1 := hide (BSl.own ho1 (lrow_byte HL.out.d))
    have HRL := hide (lrow_len ⟨0, lc, lh, ld⟩)
    obtain ⟨a1, c1, hv1, hq1, hq2, hq3⟩ := own_form ho1
    subst hv1
    clear ho1 hb1 hq1 hq2 hq3 HT HB
    by_cases hlk : lok ⟨0, lc, lh, ld⟩
    · as_aux_lemma =>
      rw [if_pos hlk] at HR2 ⊢
      clear hlk
      go_wp2_with fail
      have HBO : Calls Tryd.prog 33 #[.int .i64 3] w1 fun e w' => e = .returned (.tuple #[.agg b58.cs, .bool true]) ∧ Below w1.heap.size w1 w' := baseOf_any w1 3
      refine HBO.mono ?_
      rintro e w2 ⟨rfl, hb2⟩
      have hb3 := below_alloc4 w2 (.cells b58.cs 62)
      have hb4 := hb2.trans (hb3.mono hb2.size)
      have HB3 : Hid (Below w.heap.size w (w2.alloc (.cells b58.cs 62))) := HB1.out.trans (hb4.mono HB1.out.size)
      have HTB : Hid ((w2.alloc (.cells b58.cs 62)).heap[w2.heap.size]? = some (.cells b58.cs 62 (0, 0))) := heap_alloc_new w2 _
      have HV3 := hide (HV1.out.move (keep_below hb4))
      clear hb2 hb3 hb4
      have HBT := hide (text_any (w2.alloc (.cells b58.cs 62)) b58 _ (lrow ⟨0, lc, lh, ld⟩) bok58 HV3.out (Nat.le_trans HRL.out (by decide)))
      have HCS : Hid (b58.cs = #[.string b58.l, .string b58.t, .int .i64 (b58.n : Nat)]) := rfl
      generalize btext b58 (lrow ⟨0, lc, lh, ld⟩) = bx at *
      rw [HCS.out] at HB3 HTB HBT ⊢
      generalize b58.l = L5 at *
      generalize b58.t = T5 at *
      generalize (b58.n : Int) = N5 at *
      go_wp2_with fail
      refine HBT.out.mono ?_
      rintro e w4 ⟨rfl, hb4⟩
      have HB4 : Hid (Below w.heap.size w w4) := HB3.out.trans (hb4.mono HB3.out.size)
      clear hb4
      go_wp2_with fail
      go_ret2
      exact ⟨by rw [HR2.out]; rfl, HB4.out⟩
    · as_aux_lemma =>
      rw [if_neg hlk] at HR2 ⊢
      clear hlk
      go_wp2_with fail
      go_ret2
      exact ⟨by rw [HR2.out]; rfl, HB1.out⟩
  · have HR2 : Hid (R = ltin l 2) := by
      show _ = _
      rw [← HR.out]
      by_cases hk : lok l
      · have := ltin_text hk hv (n := 2) (by omega)
        have e : ((2 : Nat) : Int) = 2 := rfl
        rw [e] at this
        rw [this]
        unfold lttx ltext
        rw [if_pos hk, if_neg hv]
      · unfold lttx ltin
        rw [if_neg hk, if_neg hk]
    clear HR
    have g0 : (l.v != 0) = true := bne_iff_ne.2 hv
    clear hv
    go_enter Tryd.func9, Tryd.ntmps9
    go_wp2_with fail
    generalize w.alloc (.cells #[.int .i64 l.v, .int .u64 (l.c : Nat), .int .u64 (l.h : Nat), .string (nstr l.d)] 35) = w0 at *
    refine (textin_any w0 l 2 HL.out).mono ?_
    rintro e w1 ⟨rfl, hb1⟩
    have HB1 : Hid (Below w.heap.size w w1) := HB.out.trans (hb1.mono HB.out.size)
    rw [← HR2.out]
    clear hb1
    go_wp2_with fail
    go_ret2
    exact ⟨rfl, HB1.out⟩
end
section
open Go.RowKit Go
theorem lof_lkb {c : Nat} (b : List Nat) (hc : c < 18446744073709551616) : Lkb (lof c b).1 := by
  unfold lof
  split
  · exact ⟨hc, by simp, sha_byte b, by simp only [sha_len]; decide⟩
  · exact ⟨by simp [Lk.none], by simp [Lk.none], by simp [Lk.none], by simp [Lk.none]⟩
set_option maxRecDepth 1000000 in
set_option maxHeartbeats 1000000 in
theorem of_any (w : World) (c : Nat) (vb : Value) (b : List Nat) (hcb : Cb w) (hb : BSl w vb b) (hbl : b.length ≤ 140737488351232) :
    Calls Tryd.prog 18 #[.int .u64 (c : Nat), vb] w fun e w' => e = .returned (.tuple #[lkv (lof c b).1, .int .i64 ((lof c b).2 : Nat)]) ∧ Below w.heap.size w w' := by
  have HB := hide hb
  have HBL := hide hbl
  have HCB := hide hcb
  obtain ⟨⟨a, cap, rfl, hn, hc⟩, hmax, hby⟩ := hb
  clear hn hc hby hbl hcb
  have HR0 : Hid ((w.alloc (.cells #[.int .i64 0, .int .u64 0, .int .u64 0, .string ⟨#[]⟩] 35)).heap[w.heap.size]? = some (.cells zlk 35 (0, 0))) := heap_alloc_new w _
  have HB0 := hide (below_alloc4 w (.cells #[.int .i64 0, .int .u64 0, .int .u64 0, .string ⟨#[]⟩] 35))
  generalize hn : (c : Int) = n at *
  have HN := hide hn
  clear hn
  by_cases hc63 : n < 9223372036854775808
  · have HP : Hid (lof c b = (⟨1, c, 18, sha b⟩, 0)) := by show _ = _; unfold lof; rw [if_pos (by have := HN.out; omega)]
    rw [HP.out]
    have hc64 : ¬ (9223372036854775808 : Int) ≤ n := by omega
    clear HP
    go_enter Tryd.func18, Tryd.ntmps18
    go_wp2_with fail
    generalize w.alloc (.cells #[.int .i64 0, .int .u64 0, .int .u64 0, .string ⟨#[]⟩] 35) = w0 at *
    refine (sum_any w0 _ b (HCB.out.below HB0.out) (HB.out.move (keep_below HB0.out)) HBL.out).mono ?_
    rintro e w1 ⟨rfl, hb1⟩
    have HI := hide (info32d b)
    have HON := hide (one32 b)
    have HSL := hide (sha_len b)
    have HSB := hide (sha_byte b)
    have hb2 := hb1.trans ((below_alloc4 w1 (.cells (bv (sha b)).toArray 76)).mono hb1.size)
    have HR2 : Hid ((w1.alloc (.cells (bv (sha b)).toArray 76)).heap[w.heap.size]? = some (.cells zlk 35 (0, 0))) := (hb2.block _ (blk_lt HR0.out)).trans HR0.out
    have HB2 : Hid (Below w.heap.size w (w1.alloc (.cells (bv (sha b)).toArray 76))) := HB0.out.trans (hb2.mono HB0.out.size)
    have HBD := hide (bsl_block (heap_alloc_new w1 (.cells (bv (sha b)).toArray 76)) HSB.out (by rw [HSL.out]; decide))
    rw [HSL.out] at HBD
    clear hb1 hb2 HR0 HB0
    generalize hD : sha b = D at HI HON HSL HSB HR2 HB2 HBD ⊢
    have HDE := hide hD
    clear hD
    have cv := HBD.out.text
    have HAG : Hid (lcs ⟨1, c, 18, D⟩ = #[.int .i64 1, .int .u64 n, .int .u64 18, .string (nstr D)]) := by show _ = _; rw [← HN.out]; rfl
    go_wp2_with (first
      | (refine wpList_storeRow rfl rfl w1.heap.size _ (bv D).toArray 76 rfl rfl (heap_alloc_new w1 _) HI.out (by simp [bv_len, HSL.out]) HON.out ?_; rw [World.setRow_alloc_new])
      | (refine wpList_storeLk rfl rfl w.heap.size zlk ⟨1, c, 18, D⟩ rfl (by rw [HAG.out]; rfl) rfl HR2.out ?_))
    exact bodyPost_ret (end_c2 rfl Tryd.underlying35 info61 rfl (row_same HR2.out) rfl rfl) rfl ⟨by rw [HDE.out]; rfl, HB2.out.trans ((row_kp _ _ _).below HB2.out.size (fun q e => by omega))⟩
  · have HP : Hid (lof c b = (Lk.none, 40)) := by show _ = _; unfold lof; rw [if_neg (by have := HN.out; omega)]
    rw [HP.out]
    have hc64 : (9223372036854775808 : Int) ≤ n := by omega
    clear HP hc63
    go_enter Tryd.func18, Tryd.ntmps18
    go_wp2_with (refine wpList_zero rfl rfl w.heap.size rfl rfl HR0.out ?_)
    exact bodyPost_ret (end_c2 rfl Tryd.underlying35 info61 rfl HR0.out rfl rfl) rfl ⟨rfl, HB0.out⟩
end
section
open Go.RowKit Go
set_option maxRecDepth 1000000 in
theorem num4_any (w : World) (n : Int) : Calls Tryd.prog 11 #[.int .i64 n] w fun e w' => e = .returned (.int .i64 n) ∧ w' = w := by
  go_enter Tryd.func11, Tryd.ntmps11
  go_wp2_with fail
  go_ret
  exact ⟨rfl, rfl⟩
/-- The link that begun makes. -/
def L0 : Lk := ⟨1, 85, 18, sha []⟩
theorem L0_lok : lok L0 := .inr ⟨rfl, by decide, .inl ⟨rfl, sha_len []⟩⟩
theorem L0_lkb : Lkb L0 := ⟨by decide, by decide, sha_byte [], by show (sha []).length ≤ _; rw [sha_len]; decide⟩
theorem L0_of : lof 85 [] = (L0, 0) := rfl
theorem L0_row : lrow L0 = lbytes L0 := by unfold lrow; rw [if_pos L0_lok]
theorem L0_blen : (lbytes L0).length = 36 := by
  have e : lbytes L0 = 1 :: digs 9 85 ++ (18 :: (sha []).length :: sha []) := rfl
  rw [e]
  have e2 : digs 9 85 = [85] := by decide
  rw [e2]
  simp [sha_len]
theorem L0_text : lttx L0 = (ltext L0, 0) := by unfold lttx; rw [if_pos L0_lok]
theorem L0_tx : ltext L0 = 98 :: of32 (lbytes L0) := rfl
theorem L0_tlen : (ltext L0).length = 59 := by
  rw [L0_tx, List.length_cons]
  unfold of32 encW
  rw [List.length_map, grp_len (by decide) _ _ (Nat.le_refl _), List.length_append, flat_len, List.length_replicate, L0_blen]
theorem L0_tbyte : ∀ x ∈ ltext L0, x < 256 := by
  have h := btext_byte b32 (lbytes L0)
  rw [btext32] at h
  intro x hx
  rw [L0_tx] at hx
  rcases List.mem_cons.1 hx with e | e
  · omega
  · exact h x e
theorem L0_parse : lparse (lbytes L0) = (L0, 0) := lparse_bytes L0_lok
theorem L0_ptext : lparsetext (ltext L0) = (L0, 0) := lparsetext_text L0_lok L0_lkb.d
theorem lk0_no : ¬ lok Lk.none := by
  rintro (h | h)
  · exact absurd h.2.1 (by decide)
  · exact absurd h.1 (by decide)
theorem lk0_lkb : Lkb Lk.none := ⟨by decide, by decide, by simp [Lk.none], by simp [Lk.none]⟩
theorem nstr_at {xs : List Nat} (h : ∀ x ∈ xs, x < 256) (k : Nat) (hk : k < (nstr xs).size) : (nstr xs)[k].toNat = xs.getD k 0 := by
  rw [← sl_at (nstr xs) k hk, sl_nstr h]
set_option maxRecDepth 1000000 in
set_option maxHeartbeats 2000000 in
theorem begun4_any (w : World) (hcb : Cb w) : Calls Tryd.prog 8 #[] w fun e w' => e = .returned (.bool true) ∧ Below w.heap.size w w' := by
  have HCB := hide hcb
  clear hcb
  go_enter Tryd.func8, Tryd.ntmps8
  go_wp2_with fail
  have hnil : BSl w (.slice none 0 0) [] := ⟨⟨none, 0, rfl, ⟨Nat.le_refl _, fun _ => rfl⟩, .inl rfl⟩, by simp, by simp⟩
  have HOF : Calls Tryd.prog 18 #[.int .u64 85, .slice none 0 0] w fun e w' => e = .returned (.tuple #[.agg (lcs L0), .int .i64 0]) ∧ Below w.heap.size w w' := of_any w 85 _ [] HCB.out hnil (by simp)
  refine HOF.mono ?_
  rintro e w1 ⟨rfl, hb1⟩
  clear HOF hnil
  have HCS : Hid (lcs L0 = #[.int .i64 1, .int .u64 85, .int .u64 18, .string (nstr L0.d)]) := rfl
  have hb2 := hb1.trans ((below_alloc4 w1 (.cells #[.int .i64 1, .int .u64 85, .int .u64 18, .string (nstr L0.d)] 35)).mono hb1.size)
  have HB2 := hide hb2
  have HT2 : Hid ((w1.alloc (.cells #[.int .i64 1, .int .u64 85, .int .u64 18, .string (nstr L0.d)] 35)).heap[w1.heap.size]? = some (.cells (lcs L0) 35 (0, 0))) := heap_alloc_new w1 _
  have HBY := hide (bytes4_any (w1.alloc (.cells #[.int .i64 1, .int .u64 85, .int .u64 18, .string (nstr L0.d)] 35)) L0 L0_lkb)
  rw [HCS.out]
  clear hb1 hb2
  generalize nstr L0.d = S0 at *
  go_wp2_with fail
  generalize w1.alloc (.cells #[.int .i64 1, .int .u64 85, .int .u64 18, .string S0] 35) = w2 at *
  refine (show Calls Tryd.prog 25 #[.agg #[.int .i64 1, .int .u64 85, .int .u64 18, .string S0]] w2 _ by rw [← HCS.out]; exact HBY.out).mono ?_
  rintro e w3 ⟨v3, rfl, ho3, hb3⟩
  rw [if_pos L0_lok]
  rw [L0_row] at ho3
  have HV3 := hide (BSl.own ho3 (lbytes_byte L0_lok L0_lkb.d))
  rw [L0_blen] at ho3
  have HB3 : Hid (Below w.heap.size w w3) := HB2.out.trans (hb3.mono HB2.out.size)
  have HT3 : Hid (w3.heap[w1.heap.size]? = some (.cells (lcs L0) 35 (0, 0))) := (hb3.block _ (blk_lt HT2.out)).trans HT2.out
  obtain ⟨a3, c3, hv3, hq1, hq2, hq3⟩ := own_form ho3
  subst hv3
  clear ho3 hb3 hq1 hq2 hq3 HBY HB2 HT2
  go_wp2_with fail
  have HPA : Calls Tryd.prog 29 #[.slice a3 36 c3] w3 fun e w' => e = .returned (.tuple #[.agg #[.int .i64 1, .int .u64 85, .int .u64 18, .string S0], .int .i64 0]) ∧ Below w3.heap.size w3 w' := by
    have h := parse4_any w3 _ (lbytes L0) HV3.out
    rw [L0_parse, lkv_lcs, HCS.out] at h
    exact h
  refine HPA.mono ?_
  rintro e w4 ⟨rfl, hb4⟩
  clear HPA
  have hb5 := hb4.trans ((below_alloc4 w4 (.cells #[.int .i64 1, .int .u64 85, .int .u64 18, .string S0] 35)).mono hb4.size)
  have HB5 : Hid (Below w.heap.size w (w4.alloc (.cells #[.int .i64 1, .int .u64 85, .int .u64 18, .string S0] 35))) := HB3.out.trans (hb5.mono HB3.out.size)
  have HT5 : Hid ((w4.alloc (.cells #[.int .i64 1, .int .u64 85, .int .u64 18, .string S0] 35)).heap[w1.heap.size]? = some (.cells (lcs L0) 35 (0, 0))) := (hb5.block _ (blk_lt HT3.out)).trans HT3.out
  have HU5 : Hid ((w4.alloc (.cells #[.int .i64 1, .int .u64 85, .int .u64 18, .string S0] 35)).heap[w4.heap.size]? = some (.cells (lcs L0) 35 (0, 0))) := by show _ = _; rw [HCS.out]; exact heap_alloc_new w4 _
  have c0 : (w4.alloc (.cells #[.int .i64 1, .int .u64 85, .int .u64 18, .string S0] 35)).cell? ⟨w1.heap.size, 0, none⟩ = some (.int .i64 1) := blk_cell HT5.out (by rw [HCS.out]; rfl)
  have c1 : (w4.alloc (.cells #[.int .i64 1, .int .u64 85, .int .u64 18, .string S0] 35)).cell? ⟨w1.heap.size, 1, none⟩ = some (.int .u64 85) := blk_cell HT5.out (by rw [HCS.out]; rfl)
  have c2 : (w4.alloc (.cells #[.int .i64 1, .int .u64 85, .int .u64 18, .string S0] 35)).cell? ⟨w1.heap.size, 2, none⟩ = some (.int .u64 18) := blk_cell HT5.out (by rw [HCS.out]; rfl)
  have c3' : (w4.alloc (.cells #[.int .i64 1, .int .u64 85, .int .u64 18, .string S0] 35)).cell? ⟨w1.heap.size, 3, none⟩ = some (.string S0) := blk_cell HT5.out (by rw [HCS.out]; rfl)
  clear hb4 hb5 HB3 HT3 HV3
  go_wp2_with fail
  clear c0 c1 c2 c3'
  generalize w4.alloc (.cells #[.int .i64 1, .int .u64 85, .int .u64 18, .string S0] 35) = w5 at *
  have HTX : Calls Tryd.prog 9 #[.agg #[.int .i64 1, .int .u64 85, .int .u64 18, .string S0]] w5 fun e w' => e = .returned (.tuple #[.string (nstr (ltext L0)), .int .i64 0]) ∧ Below w5.heap.size w5 w' := by
    have h := text4_any w5 L0 L0_lkb
    rw [L0_text, lkv_lcs, HCS.out] at h
    exact h
  refine HTX.mono ?_
  rintro e w6 ⟨rfl, hb6⟩
  clear HTX
  have HB6 : Hid (Below w.heap.size w w6) := HB5.out.trans (hb6.mono HB5.out.size)
  have HT6 : Hid (w6.heap[w1.heap.size]? = some (.cells (lcs L0) 35 (0, 0))) := (hb6.block _ (blk_lt HT5.out)).trans HT5.out
  have HU6 : Hid (w6.heap[w4.heap.size]? = some (.cells (lcs L0) 35 (0, 0))) := (hb6.block _ (blk_lt HU5.out)).trans HU5.out
  have HTS : Hid ((nstr (ltext L0)).size = 59) := by show _ = _; rw [nstr_size L0_tbyte, L0_tlen]
  have HTP : Calls Tryd.prog 15 #[.string (nstr (ltext L0))] w6 fun e w' => e = .returned (.tuple #[.agg #[.int .i64 1, .int .u64 85, .int .u64 18, .string S0], .int .i64 0]) ∧ Below w6.heap.size w6 w' := by
    have h := parsetext_any w6 (nstr (ltext L0)) (by rw [HTS.out]; decide)
    rw [sl_nstr L0_tbyte, L0_ptext, lkv_lcs, HCS.out] at h
    exact h
  have HT0 : Hid (∀ h : 0 < (nstr (ltext L0)).size, (nstr (ltext L0))[0].toNat = 98) := fun h => by rw [nstr_at L0_tbyte]; rfl
  clear hb6 HB5 HT5 HU5
  generalize nstr (ltext L0) = S1 at *
  go_wp2_with fail
  refine HTP.mono ?_
  rintro e w7 ⟨rfl, hb7⟩
  clear HTP
  have hb8 := hb7.trans ((below_alloc4 w7 (.cells #[.int .i64 1, .int .u64 85, .int .u64 18, .string S0] 35)).mono hb7.size)
  have HB8 : Hid (Below w.heap.size w (w7.alloc (.cells #[.int .i64 1, .int .u64 85, .int .u64 18, .string S0] 35))) := HB6.out.trans (hb8.mono HB6.out.size)
  have HT8 : Hid ((w7.alloc (.cells #[.int .i64 1, .int .u64 85, .int .u64 18, .string S0] 35)).heap[w1.heap.size]? = some (.cells (lcs L0) 35 (0, 0))) := (hb8.block _ (blk_lt HT6.out)).trans HT6.out
  have HU8 : Hid ((w7.alloc (.cells #[.int .i64 1, .int .u64 85, .int .u64 18, .string S0] 35)).heap[w4.heap.size]? = some (.cells (lcs L0) 35 (0, 0))) := (hb8.block _ (blk_lt HU6.out)).trans HU6.out
  have HX8 : Hid ((w7.alloc (.cells #[.int .i64 1, .int .u64 85, .int .u64 18, .string S0] 35)).heap[w7.heap.size]? = some (.cells (lcs L0) 35 (0, 0))) := by show _ = _; rw [HCS.out]; exact heap_alloc_new w7 _
  clear hb7 hb8 HB6 HT6 HU6
  have d0 : (w7.alloc (.cells #[.int .i64 1, .int .u64 85, .int .u64 18, .string S0] 35)).cell? ⟨w1.heap.size, 0, none⟩ = some (.int .i64 1) := blk_cell HT8.out (by rw [HCS.out]; rfl)
  have d1 : (w7.alloc (.cells #[.int .i64 1, .int .u64 85, .int .u64 18, .string S0] 35)).cell? ⟨w1.heap.size, 1, none⟩ = some (.int .u64 85) := blk_cell HT8.out (by rw [HCS.out]; rfl)
  go_wp2_with fail
  generalize w7.alloc (.cells #[.int .i64 1, .int .u64 85, .int .u64 18, .string S0] 35) = w8 at *
  refine (num4_any w8 0).mono ?_
  rintro e wn ⟨rfl, hwn⟩
  subst hwn
  have HEQ : Hid (∀ w, (Op.equalIn 10000 35 (.agg (lcs L0)) (.agg (lcs L0))).run Tryd.prog w = .ok true w) := fun w => by
    have h := eqlk w (a := L0) (b := L0) L0_lkb.d L0_lkb.d
    rw [decide_eq_true rfl] at h
    exact h
  have HCK : Hid (Calls Tryd.prog 26 #[.agg #[.int .i64 0, .int .u64 0, .int .u64 0, .string ⟨#[]⟩]] wn fun e w' => e = .returned (.int .i64 40) ∧ Below wn.heap.size wn w') := by
    have h := check_any wn Lk.none lk0_lkb
    rw [if_neg lk0_no] at h
    exact h
  have hsz := HTS.out
  have hsi : (0 : Int) < (S1.size : Int) := by omega
  have hx0 := HT0.out (by omega)
  have HLN : Hid ((lcs L0).size = 4) := rfl
  generalize lcs L0 = cl at *
  go_wp2_with (first
    | (go_at_call 11; refine (num4_any _ _).mono ?_; rintro e wn ⟨rfl, rfl⟩)
    | (refine wpList_loadLk rfl rfl w4.heap.size cl rfl HLN.out HU8.out ?_)
    | (refine wpList_loadLk rfl rfl w1.heap.size cl rfl HLN.out HT8.out ?_)
    | (refine wpList_loadLk rfl rfl w7.heap.size cl rfl HLN.out HX8.out ?_)
    | (refine wpList_eqlk rfl rfl cl cl true rfl rfl (HEQ.out _) ?_))
  refine HCK.out.mono ?_
  rintro e w9 ⟨rfl, hb9⟩
  have HB9 : Hid (Below w.heap.size w w9) := HB8.out.trans (hb9.mono HB8.out.size)
  clear hb9
  go_wp2_with (go_at_call 11; refine (num4_any _ _).mono ?_; rintro e wn ⟨rfl, rfl⟩)
  go_ret
  exact ⟨rfl, HB9.out⟩
end
section
open Go.RowKit Go
theorem BSl.entry {w : World} {v : Value} {xs : List Nat} (h : BSl w v xs) : (Extern.Bytes.bytesOf v).run Tryd.prog w = .ok (nstr xs) w := by
  obtain ⟨⟨a, cap, rfl, _, hc⟩, _, _⟩ := h
  rcases hc with rfl | ⟨b, off, rfl, hc⟩
  · cases a with
    | none => rfl
    | some a => rfl
  · have hl := Lib.run_loadBytesX (P := Tryd.prog) w (xs.map fun x => ((x : Nat) : Int)) ⟨b, off, none⟩ .empty (fun j x hj => by
      have hjl : j < xs.length := by
        have := (List.getElem?_eq_some_iff.1 hj).1
        simpa using this
      have e : (⟨b, off, none⟩ : Addr).add j = ⟨b, off + j, none⟩ := by unfold Addr.add; split <;> simp_all
      rw [e, hc j hjl]
      simp [hjl] at hj
      simp [List.getD, hjl, hj])
    rw [List.length_map] at hl
    show (Extern.Bytes.loadBytes _ _ _).run Tryd.prog w = _
    rw [hl]
    congr 1
    apply ByteArray.ext
    show (#[] : Array UInt8) ++ _ = _
    simp [nstr, Lib.bytesOf]
    apply Array.ext'
    rw [strOfNums_data]
    simp
theorem cmp_blt : ∀ (la lb : List UInt8), (∀ r, la ++ r = lb → r = []) → decide (Lib.compareBytes la lb < 0) = blt (la.map UInt8.toNat) (lb.map UInt8.toNat)
  | [], [], _ => rfl
  | [], y :: lb, h => by
    have := h (y :: lb) rfl
    cases this
  | _ :: _, [], _ => rfl
  | x :: la, y :: lb, h => by
    have ih := cmp_blt la lb
    unfold Lib.compareBytes
    simp only [List.map_cons, blt]
    by_cases hxy : x = y
    · subst hxy
      have hlt : ¬ x < x := UInt8.lt_irrefl x
      rw [if_neg hlt, if_neg hlt, if_pos rfl]
      exact ih (fun r hr => h r (by rw [List.cons_append, hr]))
    · have hne : x.toNat ≠ y.toNat := fun e => hxy (UInt8.toNat_inj.1 e)
      rw [if_neg hne]
      by_cases hl : x < y
      · rw [if_pos hl]
        have : x.toNat < y.toNat := UInt8.lt_iff_toNat_lt.1 hl
        simp [this]
      · rw [if_neg hl]
        have h2 : ¬ x.toNat < y.toNat := fun e => hl (UInt8.lt_iff_toNat_lt.2 e)
        have h3 : y < x := UInt8.lt_iff_toNat_lt.2 (by omega)
        rw [if_pos h3]
        simp [h2]
theorem nstr_list {xs : List Nat} (h : ∀ x ∈ xs, x < 256) : (nstr xs).data.toList.map UInt8.toNat = xs := sl_nstr h
theorem cmp_lbytes {a b : Lk} (ha : lok a) (hb : lok b) (had : ∀ x ∈ a.d, x < 256) (hbd : ∀ x ∈ b.d, x < 256) : decide (Lib.compareBytes (nstr (lbytes a)).data.toList (nstr (lbytes b)).data.toList < 0) = blt (lbytes a) (lbytes b) := by
  have h1 := nstr_list (lbytes_byte ha had)
  have h2 := nstr_list (lbytes_byte hb hbd)
  rw [cmp_blt, h1, h2]
  intro r hr
  have h3 := congrArg (List.map UInt8.toNat) hr
  rw [List.map_append, h1, h2] at h3
  have := (lbytes_free ha hb h3).2
  simpa using this
set_option maxRecDepth 1000000 in
set_option maxHeartbeats 1000000 in
theorem compare_any (w : World) (v u : Value) (xs ys : List Nat) (h1 : BSl w v xs) (h2 : BSl w u ys) :
    Calls Tryd.prog 49 #[v, u] w fun e w' => e = .returned (.int .i64 (Lib.compareBytes (nstr xs).data.toList (nstr ys).data.toList)) ∧ w' = w := by
  have hc : (Extern.BytealgCompare.compare #[v, u]).run Tryd.prog w = .ok (.int .i64 (Lib.compareBytes (nstr xs).data.toList (nstr ys).data.toList)) w := by
    change Sem.run Tryd.prog (do pure (goInt (Extern.BytealgCompare.cmp (← Extern.Bytes.bytesOf v) (← Extern.Bytes.bytesOf u)))) w = _
    simp only [Sem.run_bind, h1.entry, h2.entry, Sem.run_pure, Result.andThen]
    rw [Lib.cmp_eq]
    rfl
  have HC := hide hc
  clear hc h1 h2
  go_enter Tryd.func49, Tryd.ntmps49
  go_wp2_with fail
  rw [run_callFunc_extern Tryd.func75 (by kernel_rfl) (by kernel_rfl) (by kernel_rfl) (e := Extern.BytealgCompare.compare) (by kernel_rfl), HC.out]
  simp only [Result.andThen]
  rw [Oper.upon_value]
  go_wp2_with fail
  go_ret
  exact ⟨rfl, rfl⟩
/-- Which of two links stands ahead. -/
def llt (a b : Lk) : Bool := decide (lok a) && decide (lok b) && blt (lrow a) (lrow b)
theorem blt_self : ∀ x, blt x x = false
  | [] => rfl
  | x :: r => by rw [blt, if_pos rfl, blt_self r]
set_option maxRecDepth 1000000 in
set_option maxHeartbeats 1000000 in
theorem less4_any (w : World) (a b : Lk) (ha : Lkb a) (hb : Lkb b) :
    Calls Tryd.prog 23 #[lkv a, lkv b] w fun e w' => e = .returned (.bool (llt a b)) ∧ Below w.heap.size w w' := by
  have HA := hide ha
  have HBB := hide hb
  have HE0 : Hid (∀ w, (Op.equalIn 10000 35 (.agg (lcs a)) (.agg (lcs b))).run Tryd.prog w = .ok (decide (a = b)) w) := fun w => eqlk w ha.d hb.d
  have HT : Hid (((w.alloc (.cells (lcs a) 35)).alloc (.cells (lcs b) 35)).heap[w.heap.size]? = some (.cells (lcs a) 35 (0, 0))) := blk_alloc _ (heap_alloc_new w _)
  have HU : Hid (((w.alloc (.cells (lcs a) 35)).alloc (.cells (lcs b) 35)).heap[w.heap.size + 1]? = some (.cells (lcs b) 35 (0, 0))) := alloc2_new w _ _
  have HB : Hid (Below w.heap.size w ((w.alloc (.cells (lcs a) 35)).alloc (.cells (lcs b) 35))) := (below_alloc4 w _).trans ((below_alloc4 _ _).mono (by simp))
  unfold lcs at HT HU HB
  simp only [lkv]
  clear ha hb
  generalize hR : llt a b = R
  have HR := hide hR
  clear hR
  by_cases hab : a = b
  · have HE1 : Hid (∀ w, (Op.equalIn 10000 35 (.agg (lcs a)) (.agg (lcs b))).run Tryd.prog w = .ok true w) := by
      have h := HE0.out
      rw [decide_eq_true hab] at h
      exact h
    have HZ : Hid (R = false) := by
      show _ = _
      rw [← HR.out, hab]
      unfold llt
      rw [blt_self, Bool.and_false]
    clear HR HE0 hab
    go_enter Tryd.func23, Tryd.ntmps23
    go_wp2_with (refine wpList_eqlk rfl rfl (lcs a) (lcs b) true rfl rfl (HE1.out _) ?_)
    go_ret
    exact ⟨by rw [HZ.out]; rfl, HB.out⟩
  · have HE1 : Hid (∀ w, (Op.equalIn 10000 35 (.agg (lcs a)) (.agg (lcs b))).run Tryd.prog w = .ok false w) := by
      have h := HE0.out
      rw [decide_eq_false hab] at h
      exact h
    clear HE0
    go_enter Tryd.func23, Tryd.ntmps23
    go_wp2_with (refine wpList_eqlk rfl rfl (lcs a) (lcs b) false rfl rfl (HE1.out _) ?_)
    clear HE1
    generalize (w.alloc (.cells #[.int .i64 a.v, .int .u64 (a.c : Nat), .int .u64 (a.h : Nat), .string (nstr a.d)] 35)).alloc (.cells #[.int .i64 b.v, .int .u64 (b.c : Nat), .int .u64 (b.h : Nat), .string (nstr b.d)] 35) = w0 at *
    refine (bytes4_any w0 a HA.out).mono ?_
    rintro e w1 ⟨v1, rfl, ho1, hb1⟩
    have HO1 := hide ho1
    have HB1 : Hid (Below w.heap.size w w1) := HB.out.trans (hb1.mono HB.out.size)
    have HU1 : Hid (w1.heap[w.heap.size + 1]? = some (.cells #[.int .i64 b.v, .int .u64 (b.c : Nat), .int .u64 (b.h : Nat), .string (nstr b.d)] 35 (0, 0))) := (hb1.block _ (blk_lt HU.out)).trans HU.out
    obtain ⟨a1, c1, hv1, _⟩ := own_form ho1
    subst hv1
    clear ho1 hb1 HU HT HB
    have q0 : w1.cell? ⟨w.heap.size + 1, 0, none⟩ = some (.int .i64 b.v) := blk_cell HU1.out rfl
    have q1 : w1.cell? ⟨w.heap.size + 1, 1, none⟩ = some (.int .u64 (b.c : Nat)) := blk_cell HU1.out rfl
    have q2 : w1.cell? ⟨w.heap.size + 1, 2, none⟩ = some (.int .u64 (b.h : Nat)) := blk_cell HU1.out rfl
    have q3 : w1.cell? ⟨w.heap.size + 1, 3, none⟩ = some (.string (nstr b.d)) := blk_cell HU1.out rfl
    by_cases hla : lok a
    · rw [if_pos hla]
      have HLA := hide hla
      clear hla
      go_wp2_with fail
      refine (bytes4_any w1 b HBB.out).mono ?_
      rintro e w2 ⟨v2, rfl, ho2, hb2⟩
      have HV1 := hide ((BSl.own HO1.out (lrow_byte HA.out.d)).move (keep_below hb2))
      have HV2 := hide (BSl.own ho2 (lrow_byte HBB.out.d))
      have HB2 : Hid (Below w.heap.size w w2) := HB1.out.trans (hb2.mono HB1.out.size)
      obtain ⟨a2, c2, hv2, _⟩ := own_form ho2
      subst hv2
      clear ho2 hb2 HO1 HB1 q0 q1 q2 q3 HU1
      by_cases hlb : lok b
      · as_aux_lemma =>
        rw [if_pos hlb]
        have HZ : Hid (R = decide (Lib.compareBytes (nstr (lrow a)).data.toList (nstr (lrow b)).data.toList < 0)) := by
          show _ = _
          rw [← HR.out]
          unfold llt lrow
          rw [decide_eq_true HLA.out, decide_eq_true hlb, if_pos HLA.out, if_pos hlb, cmp_lbytes HLA.out hlb HA.out.d HBB.out.d]
          rfl
        clear HR hlb
        go_wp2_with fail
        refine (compare_any w2 _ _ _ _ HV1.out HV2.out).mono ?_
        rintro e w3 ⟨rfl, rfl⟩
        generalize Lib.compareBytes (nstr (lrow a)).data.toList (nstr (lrow b)).data.toList = cc at *
        go_wp2_with fail
        go_ret
        exact ⟨by rw [HZ.out]; rfl, HB2.out⟩
      · as_aux_lemma =>
        rw [if_neg hlb]
        have HZ : Hid (R = false) := by
          show _ = _
          rw [← HR.out]
          unfold llt
          rw [decide_eq_false hlb, Bool.and_false, Bool.false_and]
        clear HR hlb
        go_wp2_with fail
        go_ret
        exact ⟨by rw [HZ.out]; rfl, HB2.out⟩
    · as_aux_lemma =>
      rw [if_neg hla]
      have HZ : Hid (R = false) := by
        show _ = _
        rw [← HR.out]
        unfold llt
        rw [decide_eq_false hla, Bool.false_and, Bool.false_and]
      clear HR hla
      go_wp2_with fail
      go_ret
      exact ⟨by rw [HZ.out]; rfl, HB1.out⟩
end
section
open Go.ChangeShapes Go.WideShapes Go.ChangeAt Go.RowKit Go.Deep
theorem Tryd.own : ownKnob Tryd.prog.godebug = none := by kernel_rfl

theorem Tryd.laidOut : laidOutB Tryd.prog = true := by kernel_rfl

theorem Tryd.cells5 : Tryd.prog.cellsOf 5 = 1 := by kernel_rfl

theorem Tryd.cells_bytes : Tryd.prog.cellsOf 47 = 1 := by kernel_rfl

theorem Tryd.bytes5 : Tryd.prog.bytesOf 5 = 1 := by kernel_rfl

theorem wf_u8 {n : Int} (h : (Lit.int .u8 n).wf = true) : 0 ≤ n ∧ n ≤ 255 := bounds_u8 h

/-- A row of bytes that was read as data, as BSl says it. -/
theorem bsl_of_row {w : World} (A : Option Addr) (L C : Nat) (Z : List Int) (hl : L ≤ C) (hm : C ≤ maxLen) (hz : Z.length = C) (hwf : ∀ n ∈ Z, (Lit.int .u8 n).wf = true) (hn : A = none → C = 0)
    (hc : ∀ a', A = some a' → ∀ c, c < C → w.cell? (a'.add c) = some (.int .u8 (Z.getD c 0))) : BSl w (.slice A L C) ((Z.take L).map Int.toNat) := by
  have hlen : ((Z.take L).map Int.toNat).length = L := by simp; omega
  refine ⟨⟨A, C, by rw [hlen], ⟨by rw [hlen]; exact hl, hn⟩, ?_⟩, by rw [hlen]; unfold maxLen at hm; omega, ?_⟩
  · by_cases h0 : L = 0
    · left; subst h0; simp
    · right
      cases A with
      | none => have := hn rfl; omega
      | some a =>
        obtain ⟨b, off, spot⟩ := a
        have h1 := hc _ rfl 0 (by omega)
        have hspot : spot = none := by simpa [Addr.add] using World.cell?_spot h1
        subst hspot
        refine ⟨b, off, rfl, fun j hj => ?_⟩
        rw [hlen] at hj
        have h2 := hc _ rfl j (by omega)
        have hadd : (⟨b, off, none⟩ : Addr).add j = ⟨b, off + j, none⟩ := by unfold Addr.add; split <;> simp_all
        rw [hadd] at h2
        rw [h2]
        have hjz : j < Z.length := by omega
        have hb := wf_u8 (hwf Z[j] (List.getElem_mem hjz))
        simp [List.getD, hj, hjz]
        omega
  · intro x hx
    simp only [List.mem_map] at hx
    obtain ⟨n, hn', rfl⟩ := hx
    have := wf_u8 (hwf n (List.mem_of_mem_take hn'))
    omega

/-- What a row weighs, inside a slice of rows. -/
theorem weights_all {H : Type} {P : Program} {e : TypeId} {d : DataW H} : ∀ {l : List (DataW H)}, d ∈ l → ∀ n ∈ d.weights P e, n ∈ DataW.weightsAll P e l
  | [], h, _, _ => by cases h
  | x :: r, h, n, hn => by
    simp only [DataW.weightsAll, List.mem_append]
    rcases List.mem_cons.1 h with h | h
    · subst h; exact .inl hn
    · exact .inr (weights_all h n hn)

theorem row_weight {H : Type} (a' : Addr) (L C : Nat) (Z : List Int) (hz : Z.length = C) : C ∈ (intRow (H := H) .u8 (some a') L Z).weights Tryd.prog 47 := by
  have e : (intRow (H := H) .u8 (some a') L Z) = .slice (lits .u8 (Z.take L)) (lits .u8 (Z.drop L)) := rfl
  rw [e]
  simp only [DataW.weights, Tryd.underlying47, Tryd.bytes5]
  refine List.mem_cons.2 (.inl ?_)
  simp [lits]
  omega

/-- A row of a slice of rows of bytes is within the reach. -/
theorem rows_reach {H : Type} {ts : List TypeId} {ds : List (DataW H)} (h : (DataW.weightsEach Tryd.prog ts ds).all (· ≤ reachBytes) = true) {j : Nat} {elems spare : List (DataW H)} (ht : ts[j]? = some 24) (hd : ds[j]? = some (.slice elems spare))
    {d : DataW H} (hm : d ∈ elems) {n : Nat} (hn : n ∈ d.weights Tryd.prog 47) : n ≤ reachBytes := by
  have h1 : n ∈ DataW.weightsAll Tryd.prog 47 elems := weights_all hm n hn
  have h2 : n ∈ (DataW.slice elems spare).weights Tryd.prog 24 := by
    simp only [DataW.weights, Tryd.underlying24]
    exact List.mem_cons.2 (.inr (List.mem_append.2 (.inl h1)))
  have := List.all_eq_true.1 h _ (DataW.weights_mem_each ht hd n h2)
  simpa using this
end
end Go.Proofs.YtidglddjinfncaaDoor
