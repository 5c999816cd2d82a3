import Derived.Test.YtidglddjinfncaaDoorJm
import Derived.Lib.BytesEntry
import Derived.Laws.Externs
import Derived.ProofKit
import Derived.OpenShut
import Derived.SizedLaws
import Derived.Deep.Matrix
import Derived.Lib.SmallJoins
import Derived.SliceStrings
import Derived.LaidLaws
import Derived.Handed
import Derived.Lib.LaidTab
namespace Go.Proofs.YtidglddjinfncaaDoor
section
open Go.RowKit Go
set_option maxRecDepth 1000000 in
theorem num4_any (w : World) (n : Int) : Calls Tryd.prog 11 #[.int .i64 n] w fun e w' => e = .returned (.int .i64 n) ∧ w' = w := by
  go_enter Tryd.func11, Tryd.ntmps11
  go_wp2_with fail
  go_ret
  exact ⟨rfl, rfl⟩
/-- The link that begun makes. -/
def L0 : Lk := ⟨1, 85, 18, sha []⟩
theorem L0_lok : lok L0 := .inr ⟨rfl, by decide, .inl ⟨rfl, sha_len []⟩⟩
theorem L0_lkb : Lkb L0 := ⟨by decide, by decide, sha_byte [], by show (sha []).length ≤ _; rw [sha_len]; decide⟩
theorem L0_of : lof 85 [] = (L0, 0) := rfl
theorem L0_row : lrow L0 = lbytes L0 := by unfold lrow; rw [if_pos L0_lok]
theorem L0_blen : (lbytes L0).length = 36 := by
  have e : lbytes L0 = 1 :: digs 9 85 ++ (18 :: (sha []).length :: sha []) := rfl
  rw [e]
  have e2 : digs 9 85 = [85] := by decide
  rw [e2]
  simp [sha_len]
theorem L0_text : lttx L0 = (ltext L0, 0) := by unfold lttx; rw [if_pos L0_lok]
theorem L0_tx : ltext L0 = 98 :: of32 (lbytes L0) := rfl
theorem L0_tlen : (ltext L0).length = 59 := by
  rw [L0_tx, List.length_cons]
  unfold of32 encW
  rw [List.length_map, grp_len (by decide) _ _ (Nat.le_refl _), List.length_append, flat_len, List.length_replicate, L0_blen]
theorem L0_tbyte : ∀ x ∈ ltext L0, x < 256 := by
  have h := btext_byte b32 (lbytes L0)
  rw [btext32] at h
  intro x hx
  rw [L0_tx] at hx
  rcases List.mem_cons.1 hx with e | e
  · omega
  · exact h x e
theorem L0_parse : lparse (lbytes L0) = (L0, 0) := lparse_bytes L0_lok
theorem L0_ptext : lparsetext (ltext L0) = (L0, 0) := lparsetext_text L0_lok L0_lkb.d
theorem lk0_no : ¬ lok Lk.none := by
  rintro (h | h)
  · exact absurd h.2.1 (by decide)
  · exact absurd h.1 (by decide)
theorem lk0_lkb : Lkb Lk.none := ⟨by decide, by decide, by simp [Lk.none], by simp [Lk.none]⟩
theorem nstr_at {xs : List Nat} (h : ∀ x ∈ xs, x < 256) (k : Nat) (hk : k < (nstr xs).size) : (nstr xs)[k].toNat = xs.getD k 0 := by
  rw [← sl_at (nstr xs) k hk, sl_nstr h]
set_option maxRecDepth 1000000 in
set_option maxHeartbeats 2000000 in
theorem begun4_any (w : World) (hcb : Cb w) : Calls Tryd.prog 8 #[] w fun e w' => e = .returned (.bool true) ∧ Below w.heap.size w w' := by
  have HCB := hide hcb
  clear hcb
  go_enter Tryd.func8, Tryd.ntmps8
  go_wp2_with fail
  have hnil : BSl w (.slice none 0 0) [] := ⟨⟨none, 0, rfl, ⟨Nat.le_refl _, fun _ => rfl⟩, .inl rfl⟩, by simp, by simp⟩
  have HOF : Calls Tryd.prog 18 #[.int .u64 85, .slice none 0 0] w fun e w' => e = .returned (.tuple #[.agg (lcs L0), .int .i64 0]) ∧ Below w.heap.size w w' := of_any w 85 _ [] HCB.out hnil (by simp)
  refine HOF.mono ?_
  rintro e w1 ⟨rfl, hb1⟩
  clear HOF hnil
  have HCS : Hid (lcs L0 = #[.int .i64 1, .int .u64 85, .int .u64 18, .string (nstr L0.d)]) := rfl
  have hb2 := hb1.trans ((below_alloc4 w1 (.cells #[.int .i64 1, .int .u64 85, .int .u64 18, .string (nstr L0.d)] 35)).mono hb1.size)
  have HB2 := hide hb2
  have HT2 : Hid ((w1.alloc (.cells #[.int .i64 1, .int .u64 85, .int .u64 18, .string (nstr L0.d)] 35)).heap[w1.heap.size]? = some (.cells (lcs L0) 35 (0, 0))) := heap_alloc_new w1 _
  have HBY := hide (bytes4_any (w1.alloc (.cells #[.int .i64 1, .int .u64 85, .int .u64 18, .string (nstr L0.d)] 35)) L0 L0_lkb)
  rw [HCS.out]
  clear hb1 hb2
  generalize nstr L0.d = S0 at *
  go_wp2_with fail
  generalize w1.alloc (.cells #[.int .i64 1, .int .u64 85, .int .u64 18, .string S0] 35) = w2 at *
  refine (show Calls Tryd.prog 25 #[.agg #[.int .i64 1, .int .u64 85, .int .u64 18, .string S0]] w2 _ by rw [← HCS.out]; exact HBY.out).mono ?_
  rintro e w3 ⟨v3, rfl, ho3, hb3⟩
  rw [if_pos L0_lok]
  rw [L0_row] at ho3
  have HV3 := hide (BSl.own ho3 (lbytes_byte L0_lok L0_lkb.d))
  rw [L0_blen] at ho3
  have HB3 : Hid (Below w.heap.size w w3) := HB2.out.trans (hb3.mono HB2.out.size)
  have HT3 : Hid (w3.heap[w1.heap.size]? = some (.cells (lcs L0) 35 (0, 0))) := (hb3.block _ (blk_lt HT2.out)).trans HT2.out
  obtain ⟨a3, c3, hv3, hq1, hq2, hq3⟩ := own_form ho3
  subst hv3
  clear ho3 hb3 hq1 hq2 hq3 HBY HB2 HT2
  go_wp2_with fail
  have HPA : Calls Tryd.prog 29 #[.slice a3 36 c3] w3 fun e w' => e = .returned (.tuple #[.agg #[.int .i64 1, .int .u64 85, .int .u64 18, .string S0], .int .i64 0]) ∧ Below w3.heap.size w3 w' := by
    have h := parse4_any w3 _ (lbytes L0) HV3.out
    rw [L0_parse, lkv_lcs, HCS.out] at h
    exact h
  refine HPA.mono ?_
  rintro e w4 ⟨rfl, hb4⟩
  clear HPA
  have hb5 := hb4.trans ((below_alloc4 w4 (.cells #[.int .i64 1, .int .u64 85, .int .u64 18, .string S0] 35)).mono hb4.size)
  have HB5 : Hid (Below w.heap.size w (w4.alloc (.cells #[.int .i64 1, .int .u64 85, .int .u64 18, .string S0] 35))) := HB3.out.trans (hb5.mono HB3.out.size)
  have HT5 : Hid ((w4.alloc (.cells #[.int .i64 1, .int .u64 85, .int .u64 18, .string S0] 35)).heap[w1.heap.size]? = some (.cells (lcs L0) 35 (0, 0))) := (hb5.block _ (blk_lt HT3.out)).trans HT3.out
  have HU5 : Hid ((w4.alloc (.cells #[.int .i64 1, .int .u64 85, .int .u64 18, .string S0] 35)).heap[w4.heap.size]? = some (.cells (lcs L0) 35 (0, 0))) := by show _ = _; rw [HCS.out]; exact heap_alloc_new w4 _
  have c0 : (w4.alloc (.cells #[.int .i64 1, .int .u64 85, .int .u64 18, .string S0] 35)).cell? ⟨w1.heap.size, 0, none⟩ = some (.int .i64 1) := blk_cell HT5.out (by rw [HCS.out]; rfl)
  have c1 : (w4.alloc (.cells #[.int .i64 1, .int .u64 85, .int .u64 18, .string S0] 35)).cell? ⟨w1.heap.size, 1, none⟩ = some (.int .u64 85) := blk_cell HT5.out (by rw [HCS.out]; rfl)
  have c2 : (w4.alloc (.cells #[.int .i64 1, .int .u64 85, .int .u64 18, .string S0] 35)).cell? ⟨w1.heap.size, 2, none⟩ = some (.int .u64 18) := blk_cell HT5.out (by rw [HCS.out]; rfl)
  have c3' : (w4.alloc (.cells #[.int .i64 1, .int .u64 85, .int .u64 18, .string S0] 35)).cell? ⟨w1.heap.size, 3, none⟩ = some (.string S0) := blk_cell HT5.out (by rw [HCS.out]; rfl)
  clear hb4 hb5 HB3 HT3 HV3
  go_wp2_with fail
  clear c0 c1 c2 c3'
  generalize w4.alloc (.cells #[.int .i64 1, .int .u64 85, .int .u64 18, .string S0] 35) = w5 at *
  have HTX : Calls Tryd.prog 9 #[.agg #[.int .i64 1, .int .u64 85, .int .u64 18, .string S0]] w5 fun e w' => e = .returned (.tuple #[.string (nstr (ltext L0)), .int .i64 0]) ∧ Below w5.heap.size w5 w' := by
    have h := text4_any w5 L0 L0_lkb
    rw [L0_text, lkv_lcs, HCS.out] at h
    exact h
  refine HTX.mono ?_
  rintro e w6 ⟨rfl, hb6⟩
  clear HTX
  have HB6 : Hid (Below w.heap.size w w6) := HB5.out.trans (hb6.mono HB5.out.size)
  have HT6 : Hid (w6.heap[w1.heap.size]? = some (.cells (lcs L0) 35 (0, 0))) := (hb6.block _ (blk_lt HT5.out)).trans HT5.out
  have HU6 : Hid (w6.heap[w4.heap.size]? = some (.cells (lcs L0) 35 (0, 0))) := (hb6.block _ (blk_lt HU5.out)).trans HU5.out
  have HTS : Hid ((nstr (ltext L0)).size = 59) := by show _ = _; rw [nstr_size L0_tbyte, L0_tlen]
  have HTP : Calls Tryd.prog 15 #[.string (nstr (ltext L0))] w6 fun e w' => e = .returned (.tuple #[.agg #[.int .i64 1, .int .u64 85, .int .u64 18, .string S0], .int .i64 0]) ∧ Below w6.heap.size w6 w' := by
    have h := parsetext_any w6 (nstr (ltext L0)) (by rw [HTS.out]; decide)
    rw [sl_nstr L0_tbyte, L0_ptext, lkv_lcs, HCS.out] at h
    exact h
  have HT0 : Hid (∀ h : 0 < (nstr (ltext L0)).size, (nstr (ltext L0))[0].toNat = 98) := fun h => by rw [nstr_at L0_tbyte]; rfl
  clear hb6 HB5 HT5 HU5
  generalize nstr (ltext L0) = S1 at *
  go_wp2_with fail
  refine HTP.mono ?_
  rintro e w7 ⟨rfl, hb7⟩
  clear HTP
  have hb8 := hb7.trans ((below_alloc4 w7 (.cells #[.int .i64 1, .int .u64 85, .int .u64 18, .string S0] 35)).mono hb7.size)
  have HB8 : Hid (Below w.heap.size w (w7.alloc (.cells #[.int .i64 1, .int .u64 85, .int .u64 18, .string S0] 35))) := HB6.out.trans (hb8.mono HB6.out.size)
  have HT8 : Hid ((w7.alloc (.cells #[.int .i64 1, .int .u64 85, .int .u64 18, .string S0] 35)).heap[w1.heap.size]? = some (.cells (lcs L0) 35 (0, 0))) := (hb8.block _ (blk_lt HT6.out)).trans HT6.out
  have HU8 : Hid ((w7.alloc (.cells #[.int .i64 1, .int .u64 85, .int .u64 18, .string S0] 35)).heap[w4.heap.size]? = some (.cells (lcs L0) 35 (0, 0))) := (hb8.block _ (blk_lt HU6.out)).trans HU6.out
  have HX8 : Hid ((w7.alloc (.cells #[.int .i64 1, .int .u64 85, .int .u64 18, .string S0] 35)).heap[w7.heap.size]? = some (.cells (lcs L0) 35 (0, 0))) := by show _ = _; rw [HCS.out]; exact heap_alloc_new w7 _
  clear hb7 hb8 HB6 HT6 HU6
  have d0 : (w7.alloc (.cells #[.int .i64 1, .int .u64 85, .int .u64 18, .string S0] 35)).cell? ⟨w1.heap.size, 0, none⟩ = some (.int .i64 1) := blk_cell HT8.out (by rw [HCS.out]; rfl)
  have d1 : (w7.alloc (.cells #[.int .i64 1, .int .u64 85, .int .u64 18, .string S0] 35)).cell? ⟨w1.heap.size, 1, none⟩ = some (.int .u64 85) := blk_cell HT8.out (by rw [HCS.out]; rfl)
  go_wp2_with fail
  generalize w7.alloc (.cells #[.int .i64 1, .int .u64 85, .int .u64 18, .string S0] 35) = w8 at *
  refine (num4_any w8 0).mono ?_
  rintro e wn ⟨rfl, hwn⟩
  subst hwn
  have HEQ : Hid (∀ w, (Op.equalIn 10000 35 (.agg (lcs L0)) (.agg (lcs L0))).run Tryd.prog w = .ok true w) := fun w => by
    have h := eqlk w (a := L0) (b := L0) L0_lkb.d L0_lkb.d
    rw [decide_eq_true rfl] at h
    exact h
  have HCK : Hid (Calls Tryd.prog 26 #[.agg #[.int .i64 0, .int .u64 0, .int .u64 0, .string ⟨#[]⟩]] wn fun e w' => e = .returned (.int .i64 40) ∧ Below wn.heap.size wn w') := by
    have h := check_any wn Lk.none lk0_lkb
    rw [if_neg lk0_no] at h
    exact h
  have hsz := HTS.out
  have hsi : (0 : Int) < (S1.size : Int) := by omega
  have hx0 := HT0.out (by omega)
  have HLN : Hid ((lcs L0).size = 4) := rfl
  generalize lcs L0 = cl at *
  go_wp2_with (first
    | (go_at_call 11; refine (num4_any _ _).mono ?_; rintro e wn ⟨rfl, rfl⟩)
    | (refine wpList_loadLk rfl rfl w4.heap.size cl rfl HLN.out HU8.out ?_)
    | (refine wpList_loadLk rfl rfl w1.heap.size cl rfl HLN.out HT8.out ?_)
    | (refine wpList_loadLk rfl rfl w7.heap.size cl rfl HLN.out HX8.out ?_)
    | (refine wpList_eqlk rfl rfl cl cl true rfl rfl (HEQ.out _) ?_))
  refine HCK.out.mono ?_
  rintro e w9 ⟨rfl, hb9⟩
  have HB9 : Hid (Below w.heap.size w w9) := HB8.out.trans (hb9.mono HB8.out.size)
  clear hb9
  go_wp2_with (go_at_call 11; refine (num4_any _ _).mono ?_; rintro e wn ⟨rfl, rfl⟩)
  go_ret
  exact ⟨rfl, HB9.out⟩
end
section
open Go.RowKit Go
theorem BSl.entry {w : World} {v : Value} {xs : List Nat} (h : BSl w v xs) : (Extern.Bytes.bytesOf v).run Tryd.prog w = .ok (nstr xs) w := by
  obtain ⟨⟨a, cap, rfl, _, hc⟩, _, _⟩ := h
  rcases hc with rfl | ⟨b, off, rfl, hc⟩
  · cases a with
    | none => rfl
    | some a => rfl
  · have hl := Lib.run_loadBytesX (P := Tryd.prog) w (xs.map fun x => ((x : Nat) : Int)) ⟨b, off, none⟩ .empty (fun j x hj => by
      have hjl : j < xs.length := by
        have := (List.getElem?_eq_some_iff.1 hj).1
        simpa using this
      have e : (⟨b, off, none⟩ : Addr).add j = ⟨b, off + j, none⟩ := by unfold Addr.add; split <;> simp_all
      rw [e, hc j hjl]
      simp [hjl] at hj
      simp [List.getD, hjl, hj])
    rw [List.length_map] at hl
    show (Extern.Bytes.loadBytes _ _ _).run Tryd.prog w = _
    rw [hl]
    congr 1
    apply ByteArray.ext
    show (#[] : Array UInt8) ++ _ = _
    simp [nstr, Lib.bytesOf]
    apply Array.ext'
    rw [strOfNums_data]
    simp
theorem cmp_blt : ∀ (la lb : List UInt8), (∀ r, la ++ r = lb → r = []) → decide (Lib.compareBytes la lb < 0) = blt (la.map UInt8.toNat) (lb.map UInt8.toNat)
  | [], [], _ => rfl
  | [], y :: lb, h => by
    have := h (y :: lb) rfl
    cases this
  | _ :: _, [], _ => rfl
  | x :: la, y :: lb, h => by
    have ih := cmp_blt la lb
    unfold Lib.compareBytes
    simp only [List.map_cons, blt]
    by_cases hxy : x = y
    · subst hxy
      have hlt : ¬ x < x := UInt8.lt_irrefl x
      rw [if_neg hlt, if_neg hlt, if_pos rfl]
      exact ih (fun r hr => h r (by rw [List.cons_append, hr]))
    · have hne : x.toNat ≠ y.toNat := fun e => hxy (UInt8.toNat_inj.1 e)
      rw [if_neg hne]
      by_cases hl : x < y
      · rw [if_pos hl]
        have : x.toNat < y.toNat := UInt8.lt_iff_toNat_lt.1 hl
        simp [this]
      · rw [if_neg hl]
        have h2 : ¬ x.toNat < y.toNat := fun e => hl (UInt8.lt_iff_toNat_lt.2 e)
        have h3 : y < x := UInt8.lt_iff_toNat_lt.2 (by omega)
        rw [if_pos h3]
        simp [h2]
theorem nstr_list {xs : List Nat} (h : ∀ x ∈ xs, x < 256) : (nstr xs).data.toList.map UInt8.toNat = xs := sl_nstr h
theorem cmp_lbytes {a b : Lk} (ha : lok a) (hb : lok b) (had : ∀ x ∈ a.d, x < 256) (hbd : ∀ x ∈ b.d, x < 256) : decide (Lib.compareBytes (nstr (lbytes a)).data.toList (nstr (lbytes b)).data.toList < 0) = blt (lbytes a) (lbytes b) := by
  have h1 := nstr_list (lbytes_byte ha had)
  have h2 := nstr_list (lbytes_byte hb hbd)
  rw [cmp_blt, h1, h2]
  intro r hr
  have h3 := congrArg (List.map UInt8.toNat) hr
  rw [List.map_append, h1, h2] at h3
  have := (lbytes_free ha hb h3).2
  simpa using this
set_option maxRecDepth 1000000 in
set_option maxHeartbeats 1000000 in
theorem compare_any (w : World) (v u : Value) (xs ys : List Nat) (h1 : BSl w v xs) (h2 : BSl w u ys) :
    Calls Tryd.prog 49 #[v, u] w fun e w' => e = .returned (.int .i64 (Lib.compareBytes (nstr xs).data.toList (nstr ys).data.toList)) ∧ w' = w := by
  have hc : (Extern.BytealgCompare.compare #[v, u]).run Tryd.prog w = .ok (.int .i64 (Lib.compareBytes (nstr xs).data.toList (nstr ys).data.toList)) w := by
    change Sem.run Tryd.prog (do pure (goInt (Extern.BytealgCompare.cmp (← Extern.Bytes.bytesOf v) (← Extern.Bytes.bytesOf u)))) w = _
    simp only [Sem.run_bind, h1.entry, h2.entry, Sem.run_pure, Result.andThen]
    rw [Lib.cmp_eq]
    rfl
  have HC := hide hc
  clear hc h1 h2
  go_enter Tryd.func49, Tryd.ntmps49
  go_wp2_with fail
  rw [run_callFunc_extern Tryd.func75 (by kernel_rfl) (by kernel_rfl) (by kernel_rfl) (e := Extern.BytealgCompare.compare) (by kernel_rfl), HC.out]
  simp only [Result.andThen]
  rw [Oper.upon_value]
  go_wp2_with fail
  go_ret
  exact ⟨rfl, rfl⟩
/-- Which of two links stands ahead. -/
def llt (a b : Lk) : Bool := decide (lok a) && decide (lok b) && blt (lrow a) (lrow b)
theorem blt_self : ∀ x, blt x x = false
  | [] => rfl
  | x :: r => by rw [blt, if_pos rfl, blt_self r]
set_option maxRecDepth 1000000 in
set_option maxHeartbeats 1000000 in
theorem less4_any (w : World) (a b : Lk) (ha : Lkb a) (hb : Lkb b) :
    Calls Tryd.prog 23 #[lkv a, lkv b] w fun e w' => e = .returned (.bool (llt a b)) ∧ Below w.heap.size w w' := by
  have HA := hide ha
  have HBB := hide hb
  have HE0 : Hid (∀ w, (Op.equalIn 10000 35 (.agg (lcs a)) (.agg (lcs b))).run Tryd.prog w = .ok (decide (a = b)) w) := fun w => eqlk w ha.d hb.d
  have HT : Hid (((w.alloc (.cells (lcs a) 35)).alloc (.cells (lcs b) 35)).heap[w.heap.size]? = some (.cells (lcs a) 35 (0, 0))) := blk_alloc _ (heap_alloc_new w _)
  have HU : Hid (((w.alloc (.cells (lcs a) 35)).alloc (.cells (lcs b) 35)).heap[w.heap.size + 1]? = some (.cells (lcs b) 35 (0, 0))) := alloc2_new w _ _
  have HB : Hid (Below w.heap.size w ((w.alloc (.cells (lcs a) 35)).alloc (.cells (lcs b) 35))) := (below_alloc4 w _).trans ((below_alloc4 _ _).mono (by simp))
  unfold lcs at HT HU HB
  simp only [lkv]
  clear ha hb
  generalize hR : llt a b = R
  have HR := hide hR
  clear hR
  by_cases hab : a = b
  · have HE1 : Hid (∀ w, (Op.equalIn 10000 35 (.agg (lcs a)) (.agg (lcs b))).run Tryd.prog w = .ok true w) := by
      have h := HE0.out
      rw [decide_eq_true hab] at h
      exact h
    have HZ : Hid (R = false) := by
      show _ = _
      rw [← HR.out, hab]
      unfold llt
      rw [blt_self, Bool.and_false]
    clear HR HE0 hab
    go_enter Tryd.func23, Tryd.ntmps23
    go_wp2_with (refine wpList_eqlk rfl rfl (lcs a) (lcs b) true rfl rfl (HE1.out _) ?_)
    go_ret
    exact ⟨by rw [HZ.out]; rfl, HB.out⟩
  · have HE1 : Hid (∀ w, (Op.equalIn 10000 35 (.agg (lcs a)) (.agg (lcs b))).run Tryd.prog w = .ok false w) := by
      have h := HE0.out
      rw [decide_eq_false hab] at h
      exact h
    clear HE0
    go_enter Tryd.func23, Tryd.ntmps23
    go_wp2_with (refine wpList_eqlk rfl rfl (lcs a) (lcs b) false rfl rfl (HE1.out _) ?_)
    clear HE1
    generalize (w.alloc (.cells #[.int .i64 a.v, .int .u64 (a.c : Nat), .int .u64 (a.h : Nat), .string (nstr a.d)] 35)).alloc (.cells #[.int .i64 b.v, .int .u64 (b.c : Nat), .int .u64 (b.h : Nat), .string (nstr b.d)] 35) = w0 at *
    refine (bytes4_any w0 a HA.out).mono ?_
    rintro e w1 ⟨v1, rfl, ho1, hb1⟩
    have HO1 := hide ho1
    have HB1 : Hid (Below w.heap.size w w1) := HB.out.trans (hb1.mono HB.out.size)
    have HU1 : Hid (w1.heap[w.heap.size + 1]? = some (.cells #[.int .i64 b.v, .int .u64 (b.c : Nat), .int .u64 (b.h : Nat), .string (nstr b.d)] 35 (0, 0))) := (hb1.block _ (blk_lt HU.out)).trans HU.out
    obtain ⟨a1, c1, hv1, _⟩ := own_form ho1
    subst hv1
    clear ho1 hb1 HU HT HB
    have q0 : w1.cell? ⟨w.heap.size + 1, 0, none⟩ = some (.int .i64 b.v) := blk_cell HU1.out rfl
    have q1 : w1.cell? ⟨w.heap.size + 1, 1, none⟩ = some (.int .u64 (b.c : Nat)) := blk_cell HU1.out rfl
    have q2 : w1.cell? ⟨w.heap.size + 1, 2, none⟩ = some (.int .u64 (b.h : Nat)) := blk_cell HU1.out rfl
    have q3 : w1.cell? ⟨w.heap.size + 1, 3, none⟩ = some (.string (nstr b.d)) := blk_cell HU1.out rfl
    by_cases hla : lok a
    · rw [if_pos hla]
      have HLA := hide hla
      clear hla
      go_wp2_with fail
      refine (bytes4_any w1 b HBB.out).mono ?_
      rintro e w2 ⟨v2, rfl, ho2, hb2⟩
      have HV1 := hide ((BSl.own HO1.out (lrow_byte HA.out.d)).move (keep_below hb2))
      have HV2 := hide (BSl.own ho2 (lrow_byte HBB.out.d))
      have HB2 : Hid (Below w.heap.size w w2) := HB1.out.trans (hb2.mono HB1.out.size)
      obtain ⟨a2, c2, hv2, _⟩ := own_form ho2
      subst hv2
      clear ho2 hb2 HO1 HB1 q0 q1 q2 q3 HU1
      by_cases hlb : lok b
      · as_aux_lemma =>
        rw [if_pos hlb]
        have HZ : Hid (R = decide (Lib.compareBytes (nstr (lrow a)).data.toList (nstr (lrow b)).data.toList < 0)) := by
          show _ = _
          rw [← HR.out]
          unfold llt lrow
          rw [decide_eq_true HLA.out, decide_eq_true hlb, if_pos HLA.out, if_pos hlb, cmp_lbytes HLA.out hlb HA.out.d HBB.out.d]
          rfl
        clear HR hlb
        go_wp2_with fail
        refine (compare_any w2 _ _ _ _ HV1.out HV2.out).mono ?_
        rintro e w3 ⟨rfl, rfl⟩
        generalize Lib.compareBytes (nstr (lrow a)).data.toList (nstr (lrow b)).data.toList = cc at *
        go_wp2_with fail
        go_ret
        exact ⟨by rw [HZ.out]; rfl, HB2.out⟩
      · as_aux_lemma =>
        rw [if_neg hlb]
        have HZ : Hid (R = false) := by
          show _ = _
          rw [← HR.out]
          unfold llt
          rw [decide_eq_false hlb, Bool.and_false, Bool.false_and]
        clear HR hlb
        go_wp2_with fail
        go_ret
        exact ⟨by rw [HZ.out]; rfl, HB2.out⟩
    · as_aux_lemma =>
      rw [if_neg hla]
      have HZ : Hid (R = false) := by
        show _ = _
        rw [← HR.out]
        unfold llt
        rw [decide_eq_false hla, Bool.false_and, Bool.false_and]
      clear HR hla
      go_wp2_with fail
      go_ret
      exact ⟨by rw [HZ.out]; rfl, HB1.out⟩
end
section
open Go.ChangeShapes Go.WideShapes Go.ChangeAt Go.RowKit Go.Deep
theorem Tryd.own : ownKnob Tryd.prog.godebug = none := by kernel_rfl

theorem Tryd.laidOut : laidOutB Tryd.prog = true := by kernel_rfl

theorem Tryd.cells5 : Tryd.prog.cellsOf 5 = 1 := by kernel_rfl

theorem Tryd.cells_bytes : Tryd.prog.cellsOf 47 = 1 := by kernel_rfl

theorem Tryd.bytes5 : Tryd.prog.bytesOf 5 = 1 := by kernel_rfl

theorem wf_u8 {n : Int} (h : (Lit.int .u8 n).wf = true) : 0 ≤ n ∧ n ≤ 255 := bounds_u8 h

/-- A row of bytes that was read as data, as BSl says it. -/
theorem bsl_of_row {w : World} (A : Option Addr) (L C : Nat) (Z : List Int) (hl : L ≤ C) (hm : C ≤ maxLen) (hz : Z.length = C) (hwf : ∀ n ∈ Z, (Lit.int .u8 n).wf = true) (hn : A = none → C = 0)
    (hc : ∀ a', A = some a' → ∀ c, c < C → w.cell? (a'.add c) = some (.int .u8 (Z.getD c 0))) : BSl w (.slice A L C) ((Z.take L).map Int.toNat) := by
  have hlen : ((Z.take L).map Int.toNat).length = L := by simp; omega
  refine ⟨⟨A, C, by rw [hlen], ⟨by rw [hlen]; exact hl, hn⟩, ?_⟩, by rw [hlen]; unfold maxLen at hm; omega, ?_⟩
  · by_cases h0 : L = 0
    · left; subst h0; simp
    · right
      cases A with
      | none => have := hn rfl; omega
      | some a =>
        obtain ⟨b, off, spot⟩ := a
        have h1 := hc _ rfl 0 (by omega)
        have hspot : spot = none := by simpa [Addr.add] using World.cell?_spot h1
        subst hspot
        refine ⟨b, off, rfl, fun j hj => ?_⟩
        rw [hlen] at hj
        have h2 := hc _ rfl j (by omega)
        have hadd : (⟨b, off, none⟩ : Addr).add j = ⟨b, off + j, none⟩ := by unfold Addr.add; split <;> simp_all
        rw [hadd] at h2
        rw [h2]
        have hjz : j < Z.length := by omega
        have hb := wf_u8 (hwf Z[j] (List.getElem_mem hjz))
        simp [List.getD, hj, hjz]
        omega
  · intro x hx
    simp only [List.mem_map] at hx
    obtain ⟨n, hn', rfl⟩ := hx
    have := wf_u8 (hwf n (List.mem_of_mem_take hn'))
    omega

/-- What a row weighs, inside a slice of rows. -/
theorem weights_all {H : Type} {P : Program} {e : TypeId} {d : DataW H} : ∀ {l : List (DataW H)}, d ∈ l → ∀ n ∈ d.weights P e, n ∈ DataW.weightsAll P e l
  | [], h, _, _ => by cases h
  | x :: r, h, n, hn => by
    simp only [DataW.weightsAll, List.mem_append]
    rcases List.mem_cons.1 h with h | h
    · subst h; exact .inl hn
    · exact .inr (weights_all h n hn)

theorem row_weight {H : Type} (a' : Addr) (L C : Nat) (Z : List Int) (hz : Z.length = C) : C ∈ (intRow (H := H) .u8 (some a') L Z).weights Tryd.prog 47 := by
  have e : (intRow (H := H) .u8 (some a') L Z) = .slice (lits .u8 (Z.take L)) (lits .u8 (Z.drop L)) := rfl
  rw [e]
  simp only [DataW.weights, Tryd.underlying47, Tryd.bytes5]
  refine List.mem_cons.2 (.inl ?_)
  simp [lits]
  omega

/-- A row of a slice of rows of bytes is within the reach. -/
theorem rows_reach {H : Type} {ts : List TypeId} {ds : List (DataW H)} (h : (DataW.weightsEach Tryd.prog ts ds).all (· ≤ reachBytes) = true) {j : Nat} {elems spare : List (DataW H)} (ht : ts[j]? = some 24) (hd : ds[j]? = some (.slice elems spare))
    {d : DataW H} (hm : d ∈ elems) {n : Nat} (hn : n ∈ d.weights Tryd.prog 47) : n ≤ reachBytes := by
  have h1 : n ∈ DataW.weightsAll Tryd.prog 47 elems := weights_all hm n hn
  have h2 : n ∈ (DataW.slice elems spare).weights Tryd.prog 24 := by
    simp only [DataW.weights, Tryd.underlying24]
    exact List.mem_cons.2 (.inr (List.mem_append.2 (.inl h1)))
  have := List.all_eq_true.1 h _ (DataW.weights_mem_each ht hd n h2)
  simpa using this
end
section
open Go.ChangeShapes Go.WideShapes Go.ChangeAt Go.RowKit Go.Deep Go.Joins
/-- A slice of rows of bytes, all within the reach. -/
structure RowsIn (w : World) (v : Value) (len : Nat) : Prop where
  form : ∃ a cap, v = .slice a len cap ∧ len ≤ cap ∧ (len = 0 ∨ ∃ b off, a = some ⟨b, off, none⟩ ∧ ∀ i, i < len → ∃ u xs, w.cell? ⟨b, off + i, none⟩ = some u ∧ BSl w u xs ∧ xs.length ≤ 140737488351232)
  max : len ≤ 9223372036854775807

theorem rows_open {H : Type} {enc : TypeId × Value → H} {W : World} {base fuel : Nat} {held : Bool} {v : Value} {y : DataW H × List MemPlace} (h : DataW.trod enc Tryd.prog W base (fun _ => true) held fuel 24 [v] = some y)
    {ts : List TypeId} {ds : List (DataW H)} (hsz : (DataW.weightsEach Tryd.prog ts ds).all (· ≤ reachBytes) = true) {j : Nat} (ht : ts[j]? = some 24) (hd : ds[j]? = some y.1) : ∃ len, RowsIn W v len := by
  rcases open_int_rows Tryd.underlying24 Tryd.underlying47 Tryd.underlying5 Tryd.cells_bytes Tryd.cells5 h with ⟨hcs, _⟩ | ⟨a, len, cap, A, L, C, Z, hcs, _, hl, hm, hx, hcell⟩
  · injection hcs with hcs _
    subst hcs
    exact ⟨0, ⟨none, 0, rfl, Nat.le_refl _, .inl rfl⟩, by omega⟩
  · injection hcs with hcs _
    subst hcs
    refine ⟨len, ⟨some a, cap, rfl, hl, ?_⟩, by unfold maxLen at hm; omega⟩
    by_cases hz : len = 0
    · exact .inl hz
    · obtain ⟨b, off, spot⟩ := a
      have h1 := (hcell 0 (by omega)).1
      have hspot : spot = none := by simpa [Addr.add] using World.cell?_spot h1
      subst hspot
      refine .inr ⟨b, off, rfl, fun i hi => ?_⟩
      obtain ⟨c1, c2, c3, c4, c5, c6, c7⟩ := hcell i (by omega)
      have hadd : (⟨b, off, none⟩ : Addr).add i = ⟨b, off + i, none⟩ := by unfold Addr.add; split <;> simp_all
      rw [hadd] at c1
      refine ⟨_, _, c1, bsl_of_row (A i) (L i) (C i) (Z i) c2 c3 c4 c5 c6 (fun a' h => (c7 a' h).2), ?_⟩
      have hlen : (((Z i).take (L i)).map Int.toNat).length = L i := by simp; omega
      rw [hlen]
      cases hAi : A i with
      | none => have := c6 hAi; omega
      | some a' =>
        have hd1 := congrArg Prod.fst hx
        simp only at hd1
        rw [hd1] at hd
        have h2 := rows_reach hsz (j := j) ht hd (d := intRow .u8 (A i) (L i) (Z i)) (List.mem_map.2 ⟨i, List.mem_range.2 hi, rfl⟩) (n := C i) (by rw [hAi]; exact row_weight a' _ _ _ c4)
        unfold reachBytes at h2
        omega
end
section
open Go.ChangeShapes Go.WideShapes Go.ChangeAt Go.RowKit Go.Deep Go.Joins Go
/-- A slice of links. -/
structure LinksIn (w : World) (v : Value) (len : Nat) : Prop where
  form : ∃ a cap, v = .slice a len cap ∧ (len = 0 ∨ ∃ b off, a = some ⟨b, off, none⟩ ∧ ∀ i, i < len → ∃ l : Lk, Lkb l ∧ ∀ j u, (lcs l)[j]? = some u → w.cell? ⟨b, off + i * 4 + j, none⟩ = some u)
  max : len ≤ 9223372036854775807
/-- A slice of strings. -/
structure StrsIn (w : World) (v : Value) (len : Nat) : Prop where
  form : ∃ a cap, v = .slice a len cap ∧ (len = 0 ∨ ∃ b off, a = some ⟨b, off, none⟩ ∧ ∀ i, i < len → ∃ s : ByteArray, s.size ≤ 9223372036854775807 ∧ w.cell? ⟨b, off + i, none⟩ = some (.string s))
  max : len ≤ 9223372036854775807
theorem Tryd.cellsLink : Tryd.prog.cellsOf 35 = 4 := by kernel_rfl
theorem Tryd.cells_int : Tryd.prog.cellsOf 3 = 1 := by kernel_rfl
theorem Tryd.cells_u64 : Tryd.prog.cellsOf 33 = 1 := by kernel_rfl
theorem Tryd.cells_str : Tryd.prog.cellsOf 9 = 1 := by kernel_rfl
set_option maxRecDepth 100000 in
theorem links_open {H : Type} {enc : TypeId × Value → H} {w : World} {base fuel : Nat} {held : Bool} {v : Value} {x : DataW H × List MemPlace} (h : DataW.trod enc Tryd.prog w base (fun _ => true) held fuel 22 [v] = some x) : ∃ len, LinksIn w v len := by
  rcases open_slice Tryd.underlying22 h with ⟨hcs, _⟩ | ⟨a, len, cap, m, n, D, Pl, hcs, _, hl, hm, hmm, hx, hel⟩
  · injection hcs with hcs _
    subst hcs
    exact ⟨0, ⟨none, 0, rfl, .inl rfl⟩, by omega⟩
  · injection hcs with hcs _
    subst hcs
    simp only [if_true] at hmm
    refine ⟨len, ⟨some a, cap, rfl, ?_⟩, by unfold maxLen at hm; omega⟩
    have each : ∀ i, i < len → ∃ l : Lk, Lkb l ∧ ∀ j u, (lcs l)[j]? = some u → w.cell? ((a.add (i * 4)).add j) = some u := by
      intro i hi
      obtain ⟨cs', h1, h2⟩ := hel i (by omega)
      rw [Tryd.cellsLink] at h1
      obtain ⟨_, hlen, hcell⟩ := World.cells?_some h1
      obtain ⟨y0, y1, y2, y3, k, hxy, _, g0, g1, g2, g3⟩ := trod_struct4 Tryd.underlying35 h2
      match cs', hlen with
      | [v0, v1, v2, v3], _ =>
        have e0 := hcell 0 (by omega)
        have e1 := hcell 1 (by omega)
        have e2 := hcell 2 (by omega)
        have e3 := hcell 3 (by omega)
        obtain ⟨n0, f0, _, w0⟩ := DataW.trod_int (fuel := k) (cs := [v0]) Tryd.underlying3 (by simpa [Tryd.cells_int] using g0)
        obtain ⟨n1, f1, _, w1⟩ := DataW.trod_int (fuel := k) (cs := [v1]) Tryd.underlying33 (by simpa [Tryd.cells_u64] using g1)
        obtain ⟨n2, f2, _, w2⟩ := DataW.trod_int (fuel := k) (cs := [v2]) Tryd.underlying33 (by simpa [Tryd.cells_u64] using g2)
        obtain ⟨s, f3, _, hs⟩ := DataW.trod_string (fuel := k) (cs := [v3]) Tryd.underlying9 (by simpa [Tryd.cells_str] using g3)
        injection f0 with f0 _
        injection f1 with f1 _
        injection f2 with f2 _
        injection f3 with f3 _
        subst f0 f1 f2 f3
        have b1 := bounds_u64 w1
        have b2 := bounds_u64 w2
        refine ⟨⟨n0, n1.toNat, n2.toNat, sl s⟩, ⟨by simp only; omega, by simp only; omega, sl_byte s, by simp only [sl_len]; unfold maxLen at hs; omega⟩, fun j u hu => ?_⟩
        have q1 : ((n1.toNat : Nat) : Int) = n1 := by omega
        have q2 : ((n2.toNat : Nat) : Int) = n2 := by omega
        simp only [lcs, nstr_sl, q1, q2] at hu
        match j, hu with
        | 0, hu => simp at hu; subst hu; simpa using e0
        | 1, hu => simp at hu; subst hu; simpa using e1
        | 2, hu => simp at hu; subst hu; simpa using e2
        | 3, hu => simp at hu; subst hu; simpa using e3
        | j + 4, hu => simp at hu
    by_cases hz : len = 0
    · exact .inl hz
    · obtain ⟨b, off, spot⟩ := a
      obtain ⟨l0, _, h1⟩ := each 0 (by omega)
      have hspot : spot = none := by
        have := h1 0 (.int .i64 l0.v) rfl
        simpa [Addr.add] using World.cell?_spot this
      subst hspot
      refine .inr ⟨b, off, rfl, fun i hi => ?_⟩
      obtain ⟨l, hl, hc⟩ := each i hi
      refine ⟨l, hl, fun j u hu => ?_⟩
      have := hc j u hu
      rw [addr_add, addr_add] at this
      exact this
theorem strs_open {H : Type} {enc : TypeId × Value → H} {w : World} {base fuel : Nat} {held : Bool} {v : Value} {x : DataW H × List MemPlace} (h : DataW.trod enc Tryd.prog w base (fun _ => true) held fuel 25 [v] = some x) : ∃ len, StrsIn w v len := by
  rcases open_strings Tryd.underlying25 Tryd.underlying9 Tryd.cells_str h with ⟨hcs, _⟩ | ⟨a, len, cap, ss, hcs, _, hl, hm, hmm, hx, hel, hsz⟩
  · injection hcs with hcs _
    subst hcs
    exact ⟨0, ⟨none, 0, rfl, .inl rfl⟩, by omega⟩
  · injection hcs with hcs _
    subst hcs
    simp only [if_true] at hmm
    refine ⟨len, ⟨some a, cap, rfl, ?_⟩, by unfold maxLen at hm; omega⟩
    by_cases hz : len = 0
    · exact .inl hz
    · obtain ⟨b, off, spot⟩ := a
      have hspot : spot = none := by
        have := hel 0 (by omega)
        simpa [Addr.add] using World.cell?_spot this
      subst hspot
      refine .inr ⟨b, off, rfl, fun i hi => ?_⟩
      have h1 := hel i (by omega)
      rw [addr_add] at h1
      refine ⟨_, ?_, h1⟩
      have hi2 : i < ss.length := by omega
      rw [List.getD_eq_getElem?_getD, List.getElem?_eq_getElem hi2]
      have := hsz _ (List.getElem_mem hi2)
      unfold maxLen at this
      exact this
section
variable {H : Type} {enc : TypeId × Value → H} {P : Program} {w : World} {base : Nat} {spare : Nat → Bool} {held : Bool}
/-- A struct of five fields of one cell. -/
theorem open_agg5 {r : Reach} {b0 : Nat} {t : TypeId} {f0 f1 f2 f3 f4 : Field} {v : Value} {d : DataW H} {p : List MemPlace} (hs : P.underlying t = some (.struct #[f0, f1, f2, f3, f4])) (hone : oneCellFields P #[f0, f1, f2, f3, f4] = true) (hC : P.cellsOf t = 5)
    (hv : Value.okWide P w r b0 t v) (h : DataW.Trod enc P w base spare held t v d p) :
    ∃ (v0 v1 v2 v3 v4 : Value) (y0 y1 y2 y3 y4 : DataW H × List MemPlace) (n : Nat), v = .agg #[v0, v1, v2, v3, v4] ∧ d = .agg [y0.1, y1.1, y2.1, y3.1, y4.1] ∧
      DataW.trod enc P w base spare held n f0.type [v0] = some y0 ∧ DataW.trod enc P w base spare held n f1.type [v1] = some y1 ∧ DataW.trod enc P w base spare held n f2.type [v2] = some y2 ∧ DataW.trod enc P w base spare held n f3.type [v3] = some y3 ∧ DataW.trod enc P w base spare held n f4.type [v4] = some y4 := by
  obtain ⟨cs, rfl, hsz⟩ := okWide_struct hs hv
  obtain ⟨l⟩ := cs
  match l, hsz.trans hC with
  | [c0, c1, c2, c3, c4], _ =>
    obtain ⟨fuel, hf⟩ := h
    obtain ⟨xs, n, _, hx, hl, hlen, hff⟩ := DataW.trod_struct hs hf
    match xs, hlen with
    | [y0, y1, y2, y3, y4], _ =>
      obtain ⟨o0, k0⟩ := hone_of hone 0 f0 rfl
      obtain ⟨o1, k1⟩ := hone_of hone 1 f1 rfl
      obtain ⟨o2, k2⟩ := hone_of hone 2 f2 rfl
      obtain ⟨o3, k3⟩ := hone_of hone 3 f3 rfl
      obtain ⟨o4, k4⟩ := hone_of hone 4 f4 rfl
      have h0 := hff 0 f0 rfl
      have h1 := hff 1 f1 rfl
      have h2 := hff 2 f2 rfl
      have h3 := hff 3 f3 rfl
      have h4 := hff 4 f4 rfl
      simp only [Prod.mk.injEq] at hx
      exact ⟨c0, c1, c2, c3, c4, y0, y1, y2, y3, y4, n, rfl, by simpa using hx.1, by simpa [Value.cells, o0, k0] using h0, by simpa [Value.cells, o1, k1] using h1, by simpa [Value.cells, o2, k2] using h2, by simpa [Value.cells, o3, k3] using h3, by simpa [Value.cells, o4, k4] using h4⟩
end
end
section
open Go.ChangeShapes Go.WideShapes Go.ChangeAt Go.RowKit Go
/-- What the rows lay. -/
def kki : List Int := kk.map fun n => ((n : Nat) : Int)
theorem cbN : Tryd.prog.globalNamed "trellis/digest.cubes" = some 1 := by kernel_rfl
theorem cbT : (Tryd.prog.globals[1]?).map (·.type) = some 121 := by kernel_rfl
theorem cellsU32 : Tryd.prog.cellsOf 104 = 1 := by kernel_rfl
theorem cells64 : Tryd.prog.cellsOf 121 = 64 := by kernel_rfl
theorem cb_of_laid {W : World} (h : laidMet Tryd.prog [("trellis/digest.cubes", Rows.laid_trellis_digest_cubes)] W) : Cb W := by
  have h' : laidMet Tryd.prog (("trellis/digest.cubes", Lib.tabData .u32 kki) :: []) W := h
  have t := Lib.tabIs_of_head cbN cbT Tryd.underlying121 Tryd.underlying104 cellsU32 cells64 h'
  refine ⟨fun i hi => ?_⟩
  have hc := t.cell cbN i (by rw [kki, List.length_map]; exact hi)
  rw [hc]
  congr 2
  simp only [kki, List.getD_eq_getElem?_getD, List.getElem?_map]
  have hl : i < kk.length := hi
  rw [List.getElem?_eq_getElem hl]
  rfl
/-- The settled world, the table laid. -/
noncomputable def laidWorld (os : Os) : World :=
  let w0 := World.holding Tryd.prog os ⟨#[], #[], []⟩
  { w0 with heap := w0.heap.modify 1 fun
      | .cells _ t frozen => .cells (wv kk).toArray t frozen
      | o => o }
theorem laid_met (os : Os) (args : Array Value) : laidMet Tryd.prog [("trellis/digest.cubes", Rows.laid_trellis_digest_cubes)] ((laidWorld os).forCall (fun _ _ => 0) ⟨#[], args, []⟩).memory :=
  laidMet_of_run' 8 (by kernel_rfl) (by kernel_rfl)
end
section
open Go.ChangeShapes Go.WideShapes Go.ChangeAt Go.RowKit Go.Deep Go.Joins Go
theorem Tryd.cellsLinks : Tryd.prog.cellsOf 28 = 5 := by kernel_rfl
set_option maxRecDepth 1000000 in
/-- The argument opened. -/
theorem links_arg {H : Type} {enc : TypeId × Value → H} {W : World} {base : Nat} {r : Reach} {b0 : Nat} {held : Bool} {v0 : Value} {d0 : DataW H} {p : List MemPlace} (hv : Value.okWide Tryd.prog W r b0 28 v0)
    (h0 : DataW.Trod enc Tryd.prog W base (fun _ => true) held 28 v0 d0 p) (hsz : (d0.weights Tryd.prog 28).all (· ≤ reachBytes) = true) :
    ∃ aL nL cL v1 aB nB cB aS nS cS v4, v0 = .agg #[.slice aL nL cL, v1, .slice aB nB cB, .slice aS nS cS, v4] ∧ LinksIn W (.slice aL nL cL) nL ∧ RowsIn W (.slice aB nB cB) nB ∧ StrsIn W (.slice aS nS cS) nS := by
  obtain ⟨c0, c1, c2, c3, c4, y0, y1, y2, y3, y4, m, rfl, hd, hy0, hy1, hy2, hy3, hy4⟩ := open_agg5 Tryd.underlying28 (by kernel_rfl) Tryd.cellsLinks hv h0
  subst hd
  have hs2 : (DataW.weightsEach Tryd.prog [22, 23, 24, 25, 26] [y0.1, y1.1, y2.1, y3.1, y4.1]).all (· ≤ reachBytes) = true := by
    simp only [DataW.weights, Tryd.underlying28] at hsz
    exact hsz
  obtain ⟨nL, hL⟩ := links_open hy0
  obtain ⟨nB, hB⟩ := rows_open hy2 hs2 (j := 2) rfl rfl
  obtain ⟨nS, hS⟩ := strs_open hy3
  obtain ⟨aL, cL, rfl, _⟩ := id hL.form
  obtain ⟨aB, cB, rfl, _⟩ := id hB.form
  obtain ⟨aS, cS, rfl, _⟩ := id hS.form
  exact ⟨aL, nL, cL, c1, aB, nB, cB, aS, nS, cS, c4, rfl, hL, hB, hS⟩
end
end Go.Proofs.YtidglddjinfncaaDoor
