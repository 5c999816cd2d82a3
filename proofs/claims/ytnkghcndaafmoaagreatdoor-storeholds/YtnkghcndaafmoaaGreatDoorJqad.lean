import Derived.Test.YtnkghcndaafmoaaGreatDoorJqac
import Derived.Test.YtnkghcndaafmoaaGreatDoorJqq
import Derived.Lib.BytesEntry
import Derived.Laws.Externs
import Derived.Test.YtnkghcndaafmoaaGreatDoorJqa
import Derived.ProofKit
import Derived.OpenShut
import Derived.SizedLaws
import Derived.Deep.Matrix
import Derived.Lib.SmallJoins
import Derived.Test.YtnkghcndaafmoaaGreatDoorJqs
import Derived.Test.YtnkghcndaafmoaaGreatDoorJqo
import Derived.SliceStrings
namespace Go.Proofs.YtnkghcndaafmoaaGreatDoor
section
open Go.RowKit Go
def lrow (l : Lk) : List Nat := if lok l then lbytes l else []
theorem lrow_byte {l : Lk} (h : ∀ x ∈ l.d, x < 256) : ∀ x ∈ lrow l, x < 256 := by
  unfold lrow
  split
  · exact lbytes_byte (by assumption) h
  · simp
set_option maxRecDepth 1000000 in
set_option maxHeartbeats 1000000 in
theorem bytes4_any (w : World) (l : Lk) (hl : Lkb l) :
    Calls Tryz.prog 85 #[lkv l] w fun e w' => ∃ v', e = .returned (.tuple #[v', .int .i64 (if lok l then 0 else 40)]) ∧ w'.ownsRow w.heap.size 5 1 v' (lrow l).length (bv (lrow l)) ∧ Below w.heap.size w w' := by
  have HL := hide hl
  have HT : Hid ((w.alloc (.cells #[.int .i64 l.v, .int .u64 (l.c : Nat), .int .u64 (l.h : Nat), .string (nstr l.d)] 41)).heap[w.heap.size]? = some (.cells (lcs l) 41 (0, 0))) := heap_alloc_new w _
  have HB := hide (below_alloc4 w (.cells #[.int .i64 l.v, .int .u64 (l.c : Nat), .int .u64 (l.h : Nat), .string (nstr l.d)] 41))
  simp only [lkv]
  by_cases hlk : lok l
  · have HLR : Hid (lrow l = lbytes l) := by show _ = _; unfold lrow; rw [if_pos hlk]
    rw [if_pos hlk, HLR.out]
    have HLK := hide hlk
    clear hlk hl
    go_enter Tryz.func85, Tryz.ntmps85
    go_wp2_with fail
    generalize w.alloc (.cells #[.int .i64 l.v, .int .u64 (l.c : Nat), .int .u64 (l.h : Nat), .string (nstr l.d)] 41) = w0 at *
    refine (check_any w0 l HL.out).mono ?_
    rintro e w1 ⟨rfl, hb1⟩
    rw [if_pos HLK.out]
    have q0 : w1.heap[w.heap.size]? = some (.cells (lcs l) 41 (0, 0)) := (hb1.block _ (blk_lt HT.out)).trans HT.out
    have HB1 : Hid (Below w.heap.size w w1) := HB.out.trans (hb1.mono HB.out.size)
    have c2 : w1.cell? ⟨w.heap.size, 2, none⟩ = some (.int .u64 (l.h : Nat)) := blk_cell q0 rfl
    have c3 : w1.cell? ⟨w.heap.size, 3, none⟩ = some (.string (nstr l.d)) := blk_cell q0 rfl
    have cv := conv_sb w1 (nstr l.d)
    go_wp2_with fail
    have HS1 : Hid (BSl (Lib.bytesWorld w1 5 (nstr l.d)) (.slice (some ⟨w1.heap.size, 0, none⟩) (nstr l.d).size (grownCap w1 (nstr l.d).size 0 5)) l.d) := by
      have h := conv_sb_bsl w1 (nstr l.d) (by rw [HL.out.size]; have := HL.out.n; omega)
      rw [sl_nstr HL.out.d] at h
      exact h
    have HB2 : Hid (Below w.heap.size w (Lib.bytesWorld w1 5 (nstr l.d))) := HB1.out.trans ((conv_sb_below w1 _).mono HB1.out.size)
    have HT2 : Hid ((Lib.bytesWorld w1 5 (nstr l.d)).heap[w.heap.size]? = some (.cells (lcs l) 41 (0, 0))) := (Lib.bytesWorld_at_old w1 5 _ _ (blk_lt q0)).trans q0
    clear cv c2 c3 q0 hb1
    generalize grownCap w1 (nstr l.d).size 0 5 = G at *
    generalize w1.heap.size = gg at *
    generalize Lib.bytesWorld w1 5 (nstr l.d) = w2 at *
    refine (dlay_any w2 l.h _ l.d HL.out.h HS1.out).mono ?_
    rintro e w3 ⟨vd, rfl, ho3, hb3⟩
    have HDL := hide (dlay_ok (lok_okd HLK.out))
    rw [HDL.out] at ho3 ⊢
    have HO3 := hide ho3
    have HB3 : Hid (Below w.heap.size w w3) := HB2.out.trans (hb3.mono HB2.out.size)
    have q3 : w3.heap[w.heap.size]? = some (.cells (lcs l) 41 (0, 0)) := (hb3.block _ (blk_lt HT2.out)).trans HT2.out
    have HWB : Hid (w.heap.size ≤ w2.heap.size) := HB2.out.size
    have c0 : w3.cell? ⟨w.heap.size, 0, none⟩ = some (.int .i64 l.v) := blk_cell q3 rfl
    have c1 : w3.cell? ⟨w.heap.size, 1, none⟩ = some (.int .u64 (l.c : Nat)) := blk_cell q3 rfl
    clear ho3 hb3 q3 HS1 HT2 HB2 HDL
    obtain ⟨ad, cd, hvd, _⟩ := own_form HO3.out
    subst hvd
    have HBYT : Hid (∀ x ∈ l.h :: l.d.length :: l.d, x < 256) := by
      have hk := lok_okd HLK.out
      intro x hx
      unfold okd at hk
      simp only [List.mem_cons] at hx
      rcases hx with e | e | e
      · omega
      · omega
      · exact HL.out.d x e
    have HRL : Hid ((l.h :: l.d.length :: l.d).length ≤ 66) := by
      have hk := lok_okd HLK.out
      unfold okd at hk
      show _ ≤ _
      simp
      omega
    by_cases hv0 : l.v = 0
    · as_aux_lemma =>
      have HBY : Hid (lbytes l = l.h :: l.d.length :: l.d) := by show _ = _; unfold lbytes; rw [if_pos hv0]
      rw [hv0] at c0 ⊢
      generalize l.h :: l.d.length :: l.d = rw3 at *
      go_wp2_with fail
      go_ret2
      exact ⟨_, rfl, by rw [HBY.out]; exact own_mono4 HO3.out HWB.out, HB3.out⟩
    · as_aux_lemma =>
      have hv1 : l.v = 1 := by
        rcases HLK.out with h1 | h1
        · exact absurd h1.1 hv0
        · exact h1.1
      have HC : Hid (l.c < 9223372036854775808) := by
        rcases HLK.out with h1 | h1
        · exact absurd h1.1 hv0
        · exact h1.2.1
      have HBY : Hid (lbytes l = 1 :: digs 9 l.c ++ (l.h :: l.d.length :: l.d)) := by show _ = _; unfold lbytes; rw [if_neg hv0]
      have HDB : Hid (∀ x ∈ digs 9 l.c, x < 256) := fun x hx => lbytes_byte HLK.out HL.out.d x (by rw [HBY.out]; simp [hx])
      rw [hv1] at c0 ⊢
      clear hv0 hv1
      generalize l.h :: l.d.length :: l.d = rw3 at *
      go_wp2_with fail
      refine (vlay_any (l.c : Nat) w3 (by omega) (by have := HC.out; omega)).mono ?_
      rintro e w4 ⟨vc, rfl, ho4, hb4⟩
      rw [Int.toNat_natCast] at ho4
      have HV4 := hide (BSl.own ho4 HDB.out)
      have HD4 := hide (BSl.own (own_below4 HO3.out hb4) HBYT.out)
      have HB4 : Hid (Below w.heap.size w w4) := HB3.out.trans (hb4.mono HB3.out.size)
      obtain ⟨ac, cc, hvc, _⟩ := own_form ho4
      subst hvc
      clear ho4 hb4 HO3 HB3 c0 c1
      have HDN := hide (digs_len 9 l.c)
      have hb5 := below_alloc4 w4 (.cells #[.int .u8 1] 5)
      have hb6 := hb5.trans ((below_alloc4 (w4.alloc (.cells #[.int .u8 1] 5)) (.cells #[.slice (some ⟨w4.heap.size, 0, none⟩) 1 1, .slice ac (digs 9 l.c).length cc, .slice ad rw3.length cd] 39)).mono hb5.size)
      have HRW : Hid (Rws ((w4.alloc (.cells #[.int .u8 1] 5)).alloc (.cells #[.slice (some ⟨w4.heap.size, 0, none⟩) 1 1, .slice ac (digs 9 l.c).length cc, .slice ad rw3.length cd] 39)) (w4.heap.size + 1) [.slice (some ⟨w4.heap.size, 0, none⟩) 1 1, .slice ac (digs 9 l.c).length cc, .slice ad rw3.length cd] [[1], digs 9 l.c, rw3]) := by
        have h1 := heap_alloc_new (w4.alloc (.cells #[.int .u8 1] 5)) (.cells #[.slice (some ⟨w4.heap.size, 0, none⟩) 1 1, .slice ac (digs 9 l.c).length cc, .slice ad rw3.length cd] 39)
        have e : (w4.alloc (.cells #[.int .u8 1] 5)).heap.size = w4.heap.size + 1 := by simp
        rw [e] at h1
        refine ⟨rfl, fun i hi => ?_, fun i hi => ?_⟩
        · match i, hi with
          | 0, _ => exact blk_cell h1 rfl
          | 1, _ => exact blk_cell h1 rfl
          | 2, _ => exact blk_cell h1 rfl
        · match i, hi with
          | 0, _ => exact (one_bsl w4 1 (by decide)).move (keep_alloc _ _)
          | 1, _ => exact HV4.out.move (keep_below hb6)
          | 2, _ => exact HD4.out.move (keep_below hb6)
      have HB6 : Hid (Below w.heap.size w ((w4.alloc (.cells #[.int .u8 1] 5)).alloc (.cells #[.slice (some ⟨w4.heap.size, 0, none⟩) 1 1, .slice ac (digs 9 l.c).length cc, .slice ad rw3.length cd] 39))) := HB4.out.trans (hb6.mono HB4.out.size)
      have HF3 : Hid (fla [[1], digs 9 l.c, rw3] 3 = lbytes l) := by show _ = _; rw [HBY.out]; unfold fla; simp
      have HN3 : Hid (fln [[1], digs 9 l.c, rw3] 3 = (lbytes l).length) := by show _ = _; rw [← fla_len, HF3.out]
      have HLN : Hid (0 < (lbytes l).length ∧ (lbytes l).length ≤ 1000) := by
        have h1 := lbytes_len HLK.out
        show _ ∧ _
        rw [HBY.out] at h1 ⊢
        refine ⟨by simp, by omega⟩
      clear hb5 hb6 HV4 HD4 HB4
      go_wp2_with fail
      generalize (w4.alloc (.cells #[.int .u8 1] 5)).alloc (.cells #[.slice (some ⟨w4.heap.size, 0, none⟩) 1 1, .slice ac (digs 9 l.c).length cc, .slice ad rw3.length cd] 39) = w6 at *
      refine (concat_any w6 (w4.heap.size + 1) 3 _ _ HRW.out rfl (by decide) (by rw [HN3.out]; exact HLN.out.1) (by rw [HN3.out]; exact HLN.out.2)).mono ?_
      rintro e w7 ⟨v7, rfl, ho7, hb7⟩
      rw [HF3.out, HN3.out] at ho7
      have HO7 := hide (own_mono4 ho7 HB6.out.size)
      have HB7 : Hid (Below w.heap.size w w7) := HB6.out.trans (hb7.mono HB6.out.size)
      obtain ⟨a7, c7, hv7, _⟩ := own_form ho7
      subst hv7
      clear ho7 hb7 HRW HB6
      go_wp2_with fail
      go_ret2
      exact ⟨_, rfl, HO7.out, HB7.out⟩
  · have HLR : Hid (lrow l = []) := by show _ = _; unfold lrow; rw [if_neg hlk]
    rw [if_neg hlk, HLR.out]
    have HLK := hide hlk
    clear hlk
    go_enter Tryz.func85, Tryz.ntmps85
    go_wp2_with fail
    generalize w.alloc (.cells #[.int .i64 l.v, .int .u64 (l.c : Nat), .int .u64 (l.h : Nat), .string (nstr l.d)] 41) = w0 at *
    refine (check_any w0 l HL.out).mono ?_
    rintro e w1 ⟨rfl, hb1⟩
    rw [if_neg HLK.out]
    have HB1 : Hid (Below w.heap.size w w1) := HB.out.trans (hb1.mono HB.out.size)
    clear hb1
    go_wp2_with fail
    go_ret2
    exact ⟨_, rfl, ⟨rfl, .inl ⟨rfl, rfl⟩⟩, HB1.out⟩
end
section
open Go.RowKit Go
theorem BSl.entry {w : World} {v : Value} {xs : List Nat} (h : BSl w v xs) : (Extern.Bytes.bytesOf v).run Tryz.prog w = .ok (nstr xs) w := by
  obtain ⟨⟨a, cap, rfl, _, hc⟩, _, _⟩ := h
  rcases hc with rfl | ⟨b, off, rfl, hc⟩
  · cases a with
    | none => rfl
    | some a => rfl
  · have hl := Lib.run_loadBytesX (P := Tryz.prog) w (xs.map fun x => ((x : Nat) : Int)) ⟨b, off, none⟩ .empty (fun j x hj => by
      have hjl : j < xs.length := by
        have := (List.getElem?_eq_some_iff.1 hj).1
        simpa using this
      have e : (⟨b, off, none⟩ : Addr).add j = ⟨b, off + j, none⟩ := by unfold Addr.add; split <;> simp_all
      rw [e, hc j hjl]
      simp [hjl] at hj
      simp [List.getD, hjl, hj])
    rw [List.length_map] at hl
    show (Extern.Bytes.loadBytes _ _ _).run Tryz.prog w = _
    rw [hl]
    congr 1
    apply ByteArray.ext
    show (#[] : Array UInt8) ++ _ = _
    simp [nstr, Lib.bytesOf]
    apply Array.ext'
    rw [strOfNums_data]
    simp
theorem cmp_blt : ∀ (la lb : List UInt8), (∀ r, la ++ r = lb → r = []) → decide (Lib.compareBytes la lb < 0) = blt (la.map UInt8.toNat) (lb.map UInt8.toNat)
  | [], [], _ => rfl
  | [], y :: lb, h => by
    have := h (y :: lb) rfl
    cases this
  | _ :: _, [], _ => rfl
  | x :: la, y :: lb, h => by
    have ih := cmp_blt la lb
    unfold Lib.compareBytes
    simp only [List.map_cons, blt]
    by_cases hxy : x = y
    · subst hxy
      have hlt : ¬ x < x := UInt8.lt_irrefl x
      rw [if_neg hlt, if_neg hlt, if_pos rfl]
      exact ih (fun r hr => h r (by rw [List.cons_append, hr]))
    · have hne : x.toNat ≠ y.toNat := fun e => hxy (UInt8.toNat_inj.1 e)
      rw [if_neg hne]
      by_cases hl : x < y
      · rw [if_pos hl]
        have : x.toNat < y.toNat := UInt8.lt_iff_toNat_lt.1 hl
        simp [this]
      · rw [if_neg hl]
        have h2 : ¬ x.toNat < y.toNat := fun e => hl (UInt8.lt_iff_toNat_lt.2 e)
        have h3 : y < x := UInt8.lt_iff_toNat_lt.2 (by omega)
        rw [if_pos h3]
        simp [h2]
theorem nstr_list {xs : List Nat} (h : ∀ x ∈ xs, x < 256) : (nstr xs).data.toList.map UInt8.toNat = xs := sl_nstr h
theorem cmp_lbytes {a b : Lk} (ha : lok a) (hb : lok b) (had : ∀ x ∈ a.d, x < 256) (hbd : ∀ x ∈ b.d, x < 256) : decide (Lib.compareBytes (nstr (lbytes a)).data.toList (nstr (lbytes b)).data.toList < 0) = blt (lbytes a) (lbytes b) := by
  have h1 := nstr_list (lbytes_byte ha had)
  have h2 := nstr_list (lbytes_byte hb hbd)
  rw [cmp_blt, h1, h2]
  intro r hr
  have h3 := congrArg (List.map UInt8.toNat) hr
  rw [List.map_append, h1, h2] at h3
  have := (lbytes_free ha hb h3).2
  simpa using this
set_option maxRecDepth 1000000 in
set_option maxHeartbeats 1000000 in
theorem compare_any (w : World) (v u : Value) (xs ys : List Nat) (h1 : BSl w v xs) (h2 : BSl w u ys) :
    Calls Tryz.prog 86 #[v, u] w fun e w' => e = .returned (.int .i64 (Lib.compareBytes (nstr xs).data.toList (nstr ys).data.toList)) ∧ w' = w := by
  have hc : (Extern.BytealgCompare.compare #[v, u]).run Tryz.prog w = .ok (.int .i64 (Lib.compareBytes (nstr xs).data.toList (nstr ys).data.toList)) w := by
    change Sem.run Tryz.prog (do pure (goInt (Extern.BytealgCompare.cmp (← Extern.Bytes.bytesOf v) (← Extern.Bytes.bytesOf u)))) w = _
    simp only [Sem.run_bind, h1.entry, h2.entry, Sem.run_pure, Result.andThen]
    rw [Lib.cmp_eq]
    rfl
  have HC := hide hc
  clear hc h1 h2
  go_enter Tryz.func86, Tryz.ntmps86
  go_wp2_with fail
  rw [run_callFunc_extern Tryz.func154 (by kernel_rfl) (by kernel_rfl) (by kernel_rfl) (e := Extern.BytealgCompare.compare) (by kernel_rfl), HC.out]
  simp only [Result.andThen]
  rw [Oper.upon_value]
  go_wp2_with fail
  go_ret
  exact ⟨rfl, rfl⟩
def llt (a b : Lk) : Bool := decide (lok a) && decide (lok b) && blt (lrow a) (lrow b)
theorem blt_self : ∀ x, blt x x = false
  | [] => rfl
  | x :: r => by rw [blt, if_pos rfl, blt_self r]
set_option maxRecDepth 1000000 in
set_option maxHeartbeats 1000000 in
theorem less4_any (w : World) (a b : Lk) (ha : Lkb a) (hb : Lkb b) :
    Calls Tryz.prog 49 #[lkv a, lkv b] w fun e w' => e = .returned (.bool (llt a b)) ∧ Below w.heap.size w w' := by
  have HA := hide ha
  have HBB := hide hb
  have HE0 : Hid (∀ w, (Op.equalIn 10000 41 (.agg (lcs a)) (.agg (lcs b))).run Tryz.prog w = .ok (decide (a = b)) w) := fun w => eqlk w ha.d hb.d
  have HT : Hid (((w.alloc (.cells (lcs a) 41)).alloc (.cells (lcs b) 41)).heap[w.heap.size]? = some (.cells (lcs a) 41 (0, 0))) := blk_alloc _ (heap_alloc_new w _)
  have HU : Hid (((w.alloc (.cells (lcs a) 41)).alloc (.cells (lcs b) 41)).heap[w.heap.size + 1]? = some (.cells (lcs b) 41 (0, 0))) := alloc2_new w _ _
  have HB : Hid (Below w.heap.size w ((w.alloc (.cells (lcs a) 41)).alloc (.cells (lcs b) 41))) := (below_alloc4 w _).trans ((below_alloc4 _ _).mono (by simp))
  unfold lcs at HT HU HB
  simp only [lkv]
  clear ha hb
  generalize hR : llt a b = R
  have HR := hide hR
  clear hR
  by_cases hab : a = b
  · have HE1 : Hid (∀ w, (Op.equalIn 10000 41 (.agg (lcs a)) (.agg (lcs b))).run Tryz.prog w = .ok true w) := by
      have h := HE0.out
      rw [decide_eq_true hab] at h
      exact h
    have HZ : Hid (R = false) := by
      show _ = _
      rw [← HR.out, hab]
      unfold llt
      rw [blt_self, Bool.and_false]
    clear HR HE0 hab
    go_enter Tryz.func49, Tryz.ntmps49
    go_wp2_with (refine wpList_eqlk rfl rfl (lcs a) (lcs b) true rfl rfl (HE1.out _) ?_)
    go_ret
    exact ⟨by rw [HZ.out]; rfl, HB.out⟩
  · have HE1 : Hid (∀ w, (Op.equalIn 10000 41 (.agg (lcs a)) (.agg (lcs b))).run Tryz.prog w = .ok false w) := by
      have h := HE0.out
      rw [decide_eq_false hab] at h
      exact h
    clear HE0
    go_enter Tryz.func49, Tryz.ntmps49
    go_wp2_with (refine wpList_eqlk rfl rfl (lcs a) (lcs b) false rfl rfl (HE1.out _) ?_)
    clear HE1
    generalize (w.alloc (.cells #[.int .i64 a.v, .int .u64 (a.c : Nat), .int .u64 (a.h : Nat), .string (nstr a.d)] 41)).alloc (.cells #[.int .i64 b.v, .int .u64 (b.c : Nat), .int .u64 (b.h : Nat), .string (nstr b.d)] 41) = w0 at *
    refine (bytes4_any w0 a HA.out).mono ?_
    rintro e w1 ⟨v1, rfl, ho1, hb1⟩
    have HO1 := hide ho1
    have HB1 : Hid (Below w.heap.size w w1) := HB.out.trans (hb1.mono HB.out.size)
    have HU1 : Hid (w1.heap[w.heap.size + 1]? = some (.cells #[.int .i64 b.v, .int .u64 (b.c : Nat), .int .u64 (b.h : Nat), .string (nstr b.d)] 41 (0, 0))) := (hb1.block _ (blk_lt HU.out)).trans HU.out
    obtain ⟨a1, c1, hv1, _⟩ := own_form ho1
    subst hv1
    clear ho1 hb1 HU HT HB
    have q0 : w1.cell? ⟨w.heap.size + 1, 0, none⟩ = some (.int .i64 b.v) := blk_cell HU1.out rfl
    have q1 : w1.cell? ⟨w.heap.size + 1, 1, none⟩ = some (.int .u64 (b.c : Nat)) := blk_cell HU1.out rfl
    have q2 : w1.cell? ⟨w.heap.size + 1, 2, none⟩ = some (.int .u64 (b.h : Nat)) := blk_cell HU1.out rfl
    have q3 : w1.cell? ⟨w.heap.size + 1, 3, none⟩ = some (.string (nstr b.d)) := blk_cell HU1.out rfl
    by_cases hla : lok a
    · rw [if_pos hla]
      have HLA := hide hla
      clear hla
      go_wp2_with fail
      refine (bytes4_any w1 b HBB.out).mono ?_
      rintro e w2 ⟨v2, rfl, ho2, hb2⟩
      have HV1 := hide ((BSl.own HO1.out (lrow_byte HA.out.d)).move (keep_below hb2))
      have HV2 := hide (BSl.own ho2 (lrow_byte HBB.out.d))
      have HB2 : Hid (Below w.heap.size w w2) := HB1.out.trans (hb2.mono HB1.out.size)
      obtain ⟨a2, c2, hv2, _⟩ := own_form ho2
      subst hv2
      clear ho2 hb2 HO1 HB1 q0 q1 q2 q3 HU1
      by_cases hlb : lok b
      · as_aux_lemma =>
        rw [if_pos hlb]
        have HZ : Hid (R = decide (Lib.compareBytes (nstr (lrow a)).data.toList (nstr (lrow b)).data.toList < 0)) := by
          show _ = _
          rw [← HR.out]
          unfold llt lrow
          rw [decide_eq_true HLA.out, decide_eq_true hlb, if_pos HLA.out, if_pos hlb, cmp_lbytes HLA.out hlb HA.out.d HBB.out.d]
          rfl
        clear HR hlb
        go_wp2_with fail
        refine (compare_any w2 _ _ _ _ HV1.out HV2.out).mono ?_
        rintro e w3 ⟨rfl, rfl⟩
        generalize Lib.compareBytes (nstr (lrow a)).data.toList (nstr (lrow b)).data.toList = cc at *
        go_wp2_with fail
        go_ret
        exact ⟨by rw [HZ.out]; rfl, HB2.out⟩
      · as_aux_lemma =>
        rw [if_neg hlb]
        have HZ : Hid (R = false) := by
          show _ = _
          rw [← HR.out]
          unfold llt
          rw [decide_eq_false hlb, Bool.and_false, Bool.false_and]
        clear HR hlb
        go_wp2_with fail
        go_ret
        exact ⟨by rw [HZ.out]; rfl, HB2.out⟩
    · as_aux_lemma =>
      rw [if_neg hla]
      have HZ : Hid (R = false) := by
        show _ = _
        rw [← HR.out]
        unfold llt
        rw [decide_eq_false hla, Bool.false_and, Bool.false_and]
      clear HR hla
      go_wp2_with fail
      go_ret
      exact ⟨by rw [HZ.out]; rfl, HB1.out⟩
end
section
open Go.ChangeShapes Go.WideShapes Go.ChangeAt Go.RowKit Go.Deep
theorem Tryz.own : ownKnob Tryz.prog.godebug = none := by kernel_rfl

theorem Tryz.laidOut : laidOutB Tryz.prog = true := by kernel_rfl

theorem Tryz.cells5 : Tryz.prog.cellsOf 5 = 1 := by kernel_rfl

theorem Tryz.bytes5 : Tryz.prog.bytesOf 5 = 1 := by kernel_rfl

theorem wf_u8 {n : Int} (h : (Lit.int .u8 n).wf = true) : 0 ≤ n ∧ n ≤ 255 := bounds_u8 h

theorem bsl_of_row {w : World} (A : Option Addr) (L C : Nat) (Z : List Int) (hl : L ≤ C) (hm : C ≤ maxLen) (hz : Z.length = C) (hwf : ∀ n ∈ Z, (Lit.int .u8 n).wf = true) (hn : A = none → C = 0)
    (hc : ∀ a', A = some a' → ∀ c, c < C → w.cell? (a'.add c) = some (.int .u8 (Z.getD c 0))) : BSl w (.slice A L C) ((Z.take L).map Int.toNat) := by
  have hlen : ((Z.take L).map Int.toNat).length = L := by simp; omega
  refine ⟨⟨A, C, by rw [hlen], ⟨by rw [hlen]; exact hl, hn⟩, ?_⟩, by rw [hlen]; unfold maxLen at hm; omega, ?_⟩
  · by_cases h0 : L = 0
    · left; subst h0; simp
    · right
      cases A with
      | none => have := hn rfl; omega
      | some a =>
        obtain ⟨b, off, spot⟩ := a
        have h1 := hc _ rfl 0 (by omega)
        have hspot : spot = none := by simpa [Addr.add] using World.cell?_spot h1
        subst hspot
        refine ⟨b, off, rfl, fun j hj => ?_⟩
        rw [hlen] at hj
        have h2 := hc _ rfl j (by omega)
        have hadd : (⟨b, off, none⟩ : Addr).add j = ⟨b, off + j, none⟩ := by unfold Addr.add; split <;> simp_all
        rw [hadd] at h2
        rw [h2]
        have hjz : j < Z.length := by omega
        have hb := wf_u8 (hwf Z[j] (List.getElem_mem hjz))
        simp [List.getD, hj, hjz]
        omega
  · intro x hx
    simp only [List.mem_map] at hx
    obtain ⟨n, hn', rfl⟩ := hx
    have := wf_u8 (hwf n (List.mem_of_mem_take hn'))
    omega

theorem weights_all {H : Type} {P : Program} {e : TypeId} {d : DataW H} : ∀ {l : List (DataW H)}, d ∈ l → ∀ n ∈ d.weights P e, n ∈ DataW.weightsAll P e l
  | [], h, _, _ => by cases h
  | x :: r, h, n, hn => by
    simp only [DataW.weightsAll, List.mem_append]
    rcases List.mem_cons.1 h with h | h
    · subst h; exact .inl hn
    · exact .inr (weights_all h n hn)

theorem row_weight {H : Type} (a' : Addr) (L C : Nat) (Z : List Int) (hz : Z.length = C) : C ∈ (intRow (H := H) .u8 (some a') L Z).weights Tryz.prog 39 := by
  have e : (intRow (H := H) .u8 (some a') L Z) = .slice (lits .u8 (Z.take L)) (lits .u8 (Z.drop L)) := rfl
  rw [e]
  simp only [DataW.weights, Tryz.underlying39, Tryz.bytes5]
  refine List.mem_cons.2 (.inl ?_)
  simp [lits]
  omega
end
section
open Go.ChangeShapes Go.WideShapes Go.ChangeAt Go.RowKit Go.Deep Go.Joins

end
section
open Go.ChangeShapes Go.WideShapes Go.ChangeAt Go.RowKit Go.Deep Go.Joins Go
section
variable {H : Type} {enc : TypeId × Value → H} {P : Program} {w : World} {base : Nat} {spare : Nat → Bool} {held : Bool}
end
end
end Go.Proofs.YtnkghcndaafmoaaGreatDoor
