import Derived.Test.YtidglddjinfncaaGreatDoorJd
import Derived.Lib.BytesEntry
import Derived.Laws.Externs
import Derived.Test.YtidglddjinfncaaGreatDoorTie
import Derived.Test.YtidglddjinfncaaGreatDoorCards
import Derived.ProofKit
namespace Go.Proofs.YtidglddjinfncaaGreatDoor
section
open Go.RowKit Go
theorem lof_lkb {c : Nat} (b : List Nat) (hc : c < 18446744073709551616) : Lkb (lof c b).1 := by
  unfold lof
  split
  · exact ⟨hc, by simp, sha_byte b, by simp only [sha_len]; decide⟩
  · exact ⟨by simp [Lk.none], by simp [Lk.none], by simp [Lk.none], by simp [Lk.none]⟩
set_option maxRecDepth 1000000 in
set_option maxHeartbeats 1000000 in
theorem of_any (w : World) (c : Nat) (vb : Value) (b : List Nat) (hcb : Cb w) (hb : BSl w vb b) (hbl : b.length ≤ 140737488351232) :
    Calls Tryz.prog 23 #[.int .u64 (c : Nat), vb] w fun e w' => e = .returned (.tuple #[lkv (lof c b).1, .int .i64 ((lof c b).2 : Nat)]) ∧ Below w.heap.size w w' := by
  have HB := hide hb
  have HBL := hide hbl
  have HCB := hide hcb
  obtain ⟨⟨a, cap, rfl, hn, hc⟩, hmax, hby⟩ := hb
  clear hn hc hby hbl hcb
  have HR0 : Hid ((w.alloc (.cells #[.int .i64 0, .int .u64 0, .int .u64 0, .string ⟨#[]⟩] 61)).heap[w.heap.size]? = some (.cells zlk 61 (0, 0))) := heap_alloc_new w _
  have HB0 := hide (below_alloc4 w (.cells #[.int .i64 0, .int .u64 0, .int .u64 0, .string ⟨#[]⟩] 61))
  generalize hn : (c : Int) = n at *
  have HN := hide hn
  clear hn
  by_cases hc63 : n < 9223372036854775808
  · have HP : Hid (lof c b = (⟨1, c, 18, sha b⟩, 0)) := by show _ = _; unfold lof; rw [if_pos (by have := HN.out; omega)]
    rw [HP.out]
    have hc64 : ¬ (9223372036854775808 : Int) ≤ n := by omega
    clear HP
    go_enter Tryz.func23, Tryz.ntmps23
    go_wp2_with fail
    generalize w.alloc (.cells #[.int .i64 0, .int .u64 0, .int .u64 0, .string ⟨#[]⟩] 61) = w0 at *
    refine (sum_any w0 _ b (HCB.out.below HB0.out) (HB.out.move (keep_below HB0.out)) HBL.out).mono ?_
    rintro e w1 ⟨rfl, hb1⟩
    have HI := hide (info32d b)
    have HON := hide (one32 b)
    have HSL := hide (sha_len b)
    have HSB := hide (sha_byte b)
    have hb2 := hb1.trans ((below_alloc4 w1 (.cells (bv (sha b)).toArray 104)).mono hb1.size)
    have HR2 : Hid ((w1.alloc (.cells (bv (sha b)).toArray 104)).heap[w.heap.size]? = some (.cells zlk 61 (0, 0))) := (hb2.block _ (blk_lt HR0.out)).trans HR0.out
    have HB2 : Hid (Below w.heap.size w (w1.alloc (.cells (bv (sha b)).toArray 104))) := HB0.out.trans (hb2.mono HB0.out.size)
    have HBD := hide (bsl_block (heap_alloc_new w1 (.cells (bv (sha b)).toArray 104)) HSB.out (by rw [HSL.out]; decide))
    rw [HSL.out] at HBD
    clear hb1 hb2 HR0 HB0
    generalize hD : sha b = D at HI HON HSL HSB HR2 HB2 HBD ⊢
    have HDE := hide hD
    clear hD
    have cv := HBD.out.text
    have HAG : Hid (lcs ⟨1, c, 18, D⟩ = #[.int .i64 1, .int .u64 n, .int .u64 18, .string (nstr D)]) := by show _ = _; rw [← HN.out]; rfl
    go_wp2_with (first
      | (refine wpList_storeRow rfl rfl w1.heap.size _ (bv D).toArray 104 rfl rfl (heap_alloc_new w1 _) HI.out (by simp [bv_len, HSL.out]) HON.out ?_; rw [World.setRow_alloc_new])
      | (refine wpList_storeLk rfl rfl w.heap.size zlk ⟨1, c, 18, D⟩ rfl (by rw [HAG.out]; rfl) rfl HR2.out ?_))
    exact bodyPost_ret (end_c2 rfl Tryz.underlying61 info61 rfl (row_same HR2.out) rfl rfl) rfl ⟨by rw [HDE.out]; rfl, HB2.out.trans ((row_kp _ _ _).below HB2.out.size (fun q e => by omega))⟩
  · have HP : Hid (lof c b = (Lk.none, 40)) := by show _ = _; unfold lof; rw [if_neg (by have := HN.out; omega)]
    rw [HP.out]
    have hc64 : (9223372036854775808 : Int) ≤ n := by omega
    clear HP hc63
    go_enter Tryz.func23, Tryz.ntmps23
    go_wp2_with (refine wpList_zero rfl rfl w.heap.size rfl rfl HR0.out ?_)
    exact bodyPost_ret (end_c2 rfl Tryz.underlying61 info61 rfl HR0.out rfl rfl) rfl ⟨rfl, HB0.out⟩
end
section
open Go.RowKit Go
set_option maxRecDepth 1000000 in
theorem num4_any (w : World) (n : Int) : Calls Tryz.prog 6 #[.int .i64 n] w fun e w' => e = .returned (.int .i64 n) ∧ w' = w := by
  go_enter Tryz.func6, Tryz.ntmps6
  go_wp2_with fail
  go_ret
  exact ⟨rfl, rfl⟩
/-- The link that begun makes. -/
def L0 : Lk := ⟨1, 85, 18, sha []⟩
theorem L0_lok : lok L0 := .inr ⟨rfl, by decide, .inl ⟨rfl, sha_len []⟩⟩
theorem L0_lkb : Lkb L0 := ⟨by decide, by decide, sha_byte [], by show (sha []).length ≤ _; rw [sha_len]; decide⟩
theorem L0_of : lof 85 [] = (L0, 0) := rfl
theorem L0_row : lrow L0 = lbytes L0 := by unfold lrow; rw [if_pos L0_lok]
theorem L0_blen : (lbytes L0).length = 36 := by
  have e : lbytes L0 = 1 :: digs 9 85 ++ (18 :: (sha []).length :: sha []) := rfl
  rw [e]
  have e2 : digs 9 85 = [85] := by decide
  rw [e2]
  simp [sha_len]
theorem L0_text : lttx L0 = (ltext L0, 0) := by unfold lttx; rw [if_pos L0_lok]
theorem L0_tx : ltext L0 = 98 :: of32 (lbytes L0) := rfl
theorem L0_tlen : (ltext L0).length = 59 := by
  rw [L0_tx, List.length_cons]
  unfold of32 encW
  rw [List.length_map, grp_len (by decide) _ _ (Nat.le_refl _), List.length_append, flat_len, List.length_replicate, L0_blen]
theorem L0_tbyte : ∀ x ∈ ltext L0, x < 256 := by
  have h := btext_byte b32 (lbytes L0)
  rw [btext32] at h
  intro x hx
  rw [L0_tx] at hx
  rcases List.mem_cons.1 hx with e | e
  · omega
  · exact h x e
theorem L0_parse : lparse (lbytes L0) = (L0, 0) := lparse_bytes L0_lok
theorem L0_ptext : lparsetext (ltext L0) = (L0, 0) := lparsetext_text L0_lok L0_lkb.d
theorem lk0_no : ¬ lok Lk.none := by
  rintro (h | h)
  · exact absurd h.2.1 (by decide)
  · exact absurd h.1 (by decide)
theorem lk0_lkb : Lkb Lk.none := ⟨by decide, by decide, by simp [Lk.none], by simp [Lk.none]⟩
theorem nstr_at {xs : List Nat} (h : ∀ x ∈ xs, x < 256) (k : Nat) (hk : k < (nstr xs).size) : (nstr xs)[k].toNat = xs.getD k 0 := by
  rw [← sl_at (nstr xs) k hk, sl_nstr h]
set_option maxRecDepth 1000000 in
set_option maxHeartbeats 2000000 in
theorem begun4_any (w : World) (hcb : Cb w) : Calls Tryz.prog 4 #[] w fun e w' => e = .returned (.bool true) ∧ Below w.heap.size w w' := by
  have HCB := hide hcb
  clear hcb
  go_enter Tryz.func4, Tryz.ntmps4
  go_wp2_with fail
  have hnil : BSl w (.slice none 0 0) [] := ⟨⟨none, 0, rfl, ⟨Nat.le_refl _, fun _ => rfl⟩, .inl rfl⟩, by simp, by simp⟩
  have HOF : Calls Tryz.prog 23 #[.int .u64 85, .slice none 0 0] w fun e w' => e = .returned (.tuple #[.agg (lcs L0), .int .i64 0]) ∧ Below w.heap.size w w' := of_any w 85 _ [] HCB.out hnil (by simp)
  refine HOF.mono ?_
  rintro e w1 ⟨rfl, hb1⟩
  clear HOF hnil
  have HCS : Hid (lcs L0 = #[.int .i64 1, .int .u64 85, .int .u64 18, .string (nstr L0.d)]) := rfl
  have hb2 := hb1.trans ((below_alloc4 w1 (.cells #[.int .i64 1, .int .u64 85, .int .u64 18, .string (nstr L0.d)] 61)).mono hb1.size)
  have HB2 := hide hb2
  have HT2 : Hid ((w1.alloc (.cells #[.int .i64 1, .int .u64 85, .int .u64 18, .string (nstr L0.d)] 61)).heap[w1.heap.size]? = some (.cells (lcs L0) 61 (0, 0))) := heap_alloc_new w1 _
  have HBY := hide (bytes4_any (w1.alloc (.cells #[.int .i64 1, .int .u64 85, .int .u64 18, .string (nstr L0.d)] 61)) L0 L0_lkb)
  rw [HCS.out]
  clear hb1 hb2
  generalize nstr L0.d = S0 at *
  go_wp2_with fail
  generalize w1.alloc (.cells #[.int .i64 1, .int .u64 85, .int .u64 18, .string S0] 61) = w2 at *
  refine (show Calls Tryz.prog 9 #[.agg #[.int .i64 1, .int .u64 85, .int .u64 18, .string S0]] w2 _ by rw [← HCS.out]; exact HBY.out).mono ?_
  rintro e w3 ⟨v3, rfl, ho3, hb3⟩
  rw [if_pos L0_lok]
  rw [L0_row] at ho3
  have HV3 := hide (BSl.own ho3 (lbytes_byte L0_lok L0_lkb.d))
  rw [L0_blen] at ho3
  have HB3 : Hid (Below w.heap.size w w3) := HB2.out.trans (hb3.mono HB2.out.size)
  have HT3 : Hid (w3.heap[w1.heap.size]? = some (.cells (lcs L0) 61 (0, 0))) := (hb3.block _ (blk_lt HT2.out)).trans HT2.out
  obtain ⟨a3, c3, hv3, hq1, hq2, hq3⟩ := own_form ho3
  subst hv3
  clear ho3 hb3 hq1 hq2 hq3 HBY HB2 HT2
  go_wp2_with fail
  have HPA : Calls Tryz.prog 17 #[.slice a3 36 c3] w3 fun e w' => e = .returned (.tuple #[.agg #[.int .i64 1, .int .u64 85, .int .u64 18, .string S0], .int .i64 0]) ∧ Below w3.heap.size w3 w' := by
    have h := parse4_any w3 _ (lbytes L0) HV3.out
    rw [L0_parse, lkv_lcs, HCS.out] at h
    exact h
  refine HPA.mono ?_
  rintro e w4 ⟨rfl, hb4⟩
  clear HPA
  have hb5 := hb4.trans ((below_alloc4 w4 (.cells #[.int .i64 1, .int .u64 85, .int .u64 18, .string S0] 61)).mono hb4.size)
  have HB5 : Hid (Below w.heap.size w (w4.alloc (.cells #[.int .i64 1, .int .u64 85, .int .u64 18, .string S0] 61))) := HB3.out.trans (hb5.mono HB3.out.size)
  have HT5 : Hid ((w4.alloc (.cells #[.int .i64 1, .int .u64 85, .int .u64 18, .string S0] 61)).heap[w1.heap.size]? = some (.cells (lcs L0) 61 (0, 0))) := (hb5.block _ (blk_lt HT3.out)).trans HT3.out
  have HU5 : Hid ((w4.alloc (.cells #[.int .i64 1, .int .u64 85, .int .u64 18, .string S0] 61)).heap[w4.heap.size]? = some (.cells (lcs L0) 61 (0, 0))) := by show _ = _; rw [HCS.out]; exact heap_alloc_new w4 _
  have c0 : (w4.alloc (.cells #[.int .i64 1, .int .u64 85, .int .u64 18, .string S0] 61)).cell? ⟨w1.heap.size, 0, none⟩ = some (.int .i64 1) := blk_cell HT5.out (by rw [HCS.out]; rfl)
  have c1 : (w4.alloc (.cells #[.int .i64 1, .int .u64 85, .int .u64 18, .string S0] 61)).cell? ⟨w1.heap.size, 1, none⟩ = some (.int .u64 85) := blk_cell HT5.out (by rw [HCS.out]; rfl)
  have c2 : (w4.alloc (.cells #[.int .i64 1, .int .u64 85, .int .u64 18, .string S0] 61)).cell? ⟨w1.heap.size, 2, none⟩ = some (.int .u64 18) := blk_cell HT5.out (by rw [HCS.out]; rfl)
  have c3' : (w4.alloc (.cells #[.int .i64 1, .int .u64 85, .int .u64 18, .string S0] 61)).cell? ⟨w1.heap.size, 3, none⟩ = some (.string S0) := blk_cell HT5.out (by rw [HCS.out]; rfl)
  clear hb4 hb5 HB3 HT3 HV3
  go_wp2_with fail
  clear c0 c1 c2 c3'
  generalize w4.alloc (.cells #[.int .i64 1, .int .u64 85, .int .u64 18, .string S0] 61) = w5 at *
  have HTX : Calls Tryz.prog 24 #[.agg #[.int .i64 1, .int .u64 85, .int .u64 18, .string S0]] w5 fun e w' => e = .returned (.tuple #[.string (nstr (ltext L0)), .int .i64 0]) ∧ Below w5.heap.size w5 w' := by
    have h := text4_any w5 L0 L0_lkb
    rw [L0_text, lkv_lcs, HCS.out] at h
    exact h
  refine HTX.mono ?_
  rintro e w6 ⟨rfl, hb6⟩
  clear HTX
  have HB6 : Hid (Below w.heap.size w w6) := HB5.out.trans (hb6.mono HB5.out.size)
  have HT6 : Hid (w6.heap[w1.heap.size]? = some (.cells (lcs L0) 61 (0, 0))) := (hb6.block _ (blk_lt HT5.out)).trans HT5.out
  have HU6 : Hid (w6.heap[w4.heap.size]? = some (.cells (lcs L0) 61 (0, 0))) := (hb6.block _ (blk_lt HU5.out)).trans HU5.out
  have HTS : Hid ((nstr (ltext L0)).size = 59) := by show _ = _; rw [nstr_size L0_tbyte, L0_tlen]
  have HTP : Calls Tryz.prog 25 #[.string (nstr (ltext L0))] w6 fun e w' => e = .returned (.tuple #[.agg #[.int .i64 1, .int .u64 85, .int .u64 18, .string S0], .int .i64 0]) ∧ Below w6.heap.size w6 w' := by
    have h := parsetext_any w6 (nstr (ltext L0)) (by rw [HTS.out]; decide)
    rw [sl_nstr L0_tbyte, L0_ptext, lkv_lcs, HCS.out] at h
    exact h
  have HT0 : Hid (∀ h : 0 < (nstr (ltext L0)).size, (nstr (ltext L0))[0].toNat = 98) := fun h => by rw [nstr_at L0_tbyte]; rfl
  clear hb6 HB5 HT5 HU5
  generalize nstr (ltext L0) = S1 at *
  go_wp2_with fail
  refine HTP.mono ?_
  rintro e w7 ⟨rfl, hb7⟩
  clear HTP
  have hb8 := hb7.trans ((below_alloc4 w7 (.cells #[.int .i64 1, .int .u64 85, .int .u64 18, .string S0] 61)).mono hb7.size)
  have HB8 : Hid (Below w.heap.size w (w7.alloc (.cells #[.int .i64 1, .int .u64 85, .int .u64 18, .string S0] 61))) := HB6.out.trans (hb8.mono HB6.out.size)
  have HT8 : Hid ((w7.alloc (.cells #[.int .i64 1, .int .u64 85, .int .u64 18, .string S0] 61)).heap[w1.heap.size]? = some (.cells (lcs L0) 61 (0, 0))) := (hb8.block _ (blk_lt HT6.out)).trans HT6.out
  have HU8 : Hid ((w7.alloc (.cells #[.int .i64 1, .int .u64 85, .int .u64 18, .string S0] 61)).heap[w4.heap.size]? = some (.cells (lcs L0) 61 (0, 0))) := (hb8.block _ (blk_lt HU6.out)).trans HU6.out
  have HX8 : Hid ((w7.alloc (.cells #[.int .i64 1, .int .u64 85, .int .u64 18, .string S0] 61)).heap[w7.heap.size]? = some (.cells (lcs L0) 61 (0, 0))) := by show _ = _; rw [HCS.out]; exact heap_alloc_new w7 _
  clear hb7 hb8 HB6 HT6 HU6
  have d0 : (w7.alloc (.cells #[.int .i64 1, .int .u64 85, .int .u64 18, .string S0] 61)).cell? ⟨w1.heap.size, 0, none⟩ = some (.int .i64 1) := blk_cell HT8.out (by rw [HCS.out]; rfl)
  have d1 : (w7.alloc (.cells #[.int .i64 1, .int .u64 85, .int .u64 18, .string S0] 61)).cell? ⟨w1.heap.size, 1, none⟩ = some (.int .u64 85) := blk_cell HT8.out (by rw [HCS.out]; rfl)
  go_wp2_with fail
  generalize w7.alloc (.cells #[.int .i64 1, .int .u64 85, .int .u64 18, .string S0] 61) = w8 at *
  refine (num4_any w8 0).mono ?_
  rintro e wn ⟨rfl, hwn⟩
  subst hwn
  have HEQ : Hid (∀ w, (Op.equalIn 10000 61 (.agg (lcs L0)) (.agg (lcs L0))).run Tryz.prog w = .ok true w) := fun w => by
    have h := eqlk w (a := L0) (b := L0) L0_lkb.d L0_lkb.d
    rw [decide_eq_true rfl] at h
    exact h
  have HCK : Hid (Calls Tryz.prog 7 #[.agg #[.int .i64 0, .int .u64 0, .int .u64 0, .string ⟨#[]⟩]] wn fun e w' => e = .returned (.int .i64 40) ∧ Below wn.heap.size wn w') := by
    have h := check_any wn Lk.none lk0_lkb
    rw [if_neg lk0_no] at h
    exact h
  have hsz := HTS.out
  have hsi : (0 : Int) < (S1.size : Int) := by omega
  have hx0 := HT0.out (by omega)
  have HLN : Hid ((lcs L0).size = 4) := rfl
  generalize lcs L0 = cl at *
  go_wp2_with (first
    | (go_at_call 6; refine (num4_any _ _).mono ?_; rintro e wn ⟨rfl, rfl⟩)
    | (refine wpList_loadLk rfl rfl w4.heap.size cl rfl HLN.out HU8.out ?_)
    | (refine wpList_loadLk rfl rfl w1.heap.size cl rfl HLN.out HT8.out ?_)
    | (refine wpList_loadLk rfl rfl w7.heap.size cl rfl HLN.out HX8.out ?_)
    | (refine wpList_eqlk rfl rfl cl cl true rfl rfl (HEQ.out _) ?_))
  refine HCK.out.mono ?_
  rintro e w9 ⟨rfl, hb9⟩
  have HB9 : Hid (Below w.heap.size w w9) := HB8.out.trans (hb9.mono HB8.out.size)
  clear hb9
  go_wp2_with (go_at_call 6; refine (num4_any _ _).mono ?_; rintro e wn ⟨rfl, rfl⟩)
  go_ret
  exact ⟨rfl, HB9.out⟩
end
section
open Go.RowKit Go
theorem BSl.entry {w : World} {v : Value} {xs : List Nat} (h : BSl w v xs) : (Extern.Bytes.bytesOf v).run Tryz.prog w = .ok (nstr xs) w := by
  obtain ⟨⟨a, cap, rfl, _, hc⟩, _, _⟩ := h
  rcases hc with rfl | ⟨b, off, rfl, hc⟩
  · cases a with
    | none => rfl
    | some a => rfl
  · have hl := Lib.run_loadBytesX (P := Tryz.prog) w (xs.map fun x => ((x : Nat) : Int)) ⟨b, off, none⟩ .empty (fun j x hj => by
      have hjl : j < xs.length := by
        have := (List.getElem?_eq_some_iff.1 hj).1
        simpa using this
      have e : (⟨b, off, none⟩ : Addr).add j = ⟨b, off + j, none⟩ := by unfold Addr.add; split <;> simp_all
      rw [e, hc j hjl]
      simp [hjl] at hj
      simp [List.getD, hjl, hj])
    rw [List.length_map] at hl
    show (Extern.Bytes.loadBytes _ _ _).run Tryz.prog w = _
    rw [hl]
    congr 1
    apply ByteArray.ext
    show (#[] : Array UInt8) ++ _ = _
    simp [nstr, Lib.bytesOf]
    apply Array.ext'
    rw [strOfNums_data]
    simp
theorem cmp_blt : ∀ (la lb : List UInt8), (∀ r, la ++ r = lb → r = []) → decide (Lib.compareBytes la lb < 0) = blt (la.map UInt8.toNat) (lb.map UInt8.toNat)
  | [], [], _ => rfl
  | [], y :: lb, h => by
    have := h (y :: lb) rfl
    cases this
  | _ :: _, [], _ => rfl
  | x :: la, y :: lb, h => by
    have ih := cmp_blt la lb
    unfold Lib.compareBytes
    simp only [List.map_cons, blt]
    by_cases hxy : x = y
    · subst hxy
      have hlt : ¬ x < x := UInt8.lt_irrefl x
      rw [if_neg hlt, if_neg hlt, if_pos rfl]
      exact ih (fun r hr => h r (by rw [List.cons_append, hr]))
    · have hne : x.toNat ≠ y.toNat := fun e => hxy (UInt8.toNat_inj.1 e)
      rw [if_neg hne]
      by_cases hl : x < y
      · rw [if_pos hl]
        have : x.toNat < y.toNat := UInt8.lt_iff_toNat_lt.1 hl
        simp [this]
      · rw [if_neg hl]
        have h2 : ¬ x.toNat < y.toNat := fun e => hl (UInt8.lt_iff_toNat_lt.2 e)
        have h3 : y < x := UInt8.lt_iff_toNat_lt.2 (by omega)
        rw [if_pos h3]
        simp [h2]
theorem nstr_list {xs : List Nat} (h : ∀ x ∈ xs, x < 256) : (nstr xs).data.toList.map UInt8.toNat = xs := sl_nstr h
theorem cmp_lbytes {a b : Lk} (ha : lok a) (hb : lok b) (had : ∀ x ∈ a.d, x < 256) (hbd : ∀ x ∈ b.d, x < 256) : decide (Lib.compareBytes (nstr (lbytes a)).data.toList (nstr (lbytes b)).data.toList < 0) = blt (lbytes a) (lbytes b) := by
  have h1 := nstr_list (lbytes_byte ha had)
  have h2 := nstr_list (lbytes_byte hb hbd)
  rw [cmp_blt, h1, h2]
  intro r hr
  have h3 := congrArg (List.map UInt8.toNat) hr
  rw [List.map_append, h1, h2] at h3
  have := (lbytes_free ha hb h3).2
  simpa using this
/-- Which of two links stands ahead. -/
def llt (a b : Lk) : Bool := decide (lok a) && decide (lok b) && blt (lrow a) (lrow b)
theorem blt_self : ∀ x, blt x x = false
  | [] => rfl
  | x :: r => by rw [blt, if_pos rfl, blt_self r]
end
section
open Go.RowKit Go
/-- What a walk over links has in hand. -/
structure Lks (w wx : World) (c : Array Value) : Prop where
  t : wx.heap[w.heap.size]? = some (.cells c 28 (0, 0))
  b : Below w.heap.size w wx
  c : Cb wx
theorem Lks.below {w wx wy : World} {c : Array Value} (h : Lks w wx c) (hb : Below wx.heap.size wx wy) : Lks w wy c := ⟨(hb.block _ (blk_lt h.t)).trans h.t, h.b.trans (hb.mono h.b.size), h.c.below hb⟩
theorem Lks.start {w : World} (c : Array Value) (hcb : Cb w) : Lks w (w.alloc (.cells c 28)) c := ⟨heap_alloc_new w _, below_alloc4 w _, hcb.below (below_alloc4 w _)⟩
/-- A link somewhere in a block. -/
theorem load_lk {w : World} (g o : Nat) (l : Lk) (hc : ∀ j u, (lcs l)[j]? = some u → w.cell? ⟨g, o + j, none⟩ = some u) : (Instr.loadAt 61 (.pointer (some ⟨g, o, none⟩))).run Tryz.prog w = .ok (.agg (lcs l)) w := by
  have hl := run_loadCells_list (P := Tryz.prog) (w := w) ⟨g, o, none⟩ (lcs l).toList (fun j v hv => by rw [addr_add]; exact hc j v (by simpa using hv))
  have hi := info61
  simp only [Instr.loadAt, Instr.sureAddr, Sem.run_bind, Sem.run_pure, Result.andThen]
  cases hq : Tryz.prog.info? 61 with
  | none => simp [hq] at hi
  | some i =>
    have hs : i.size = 4 := by simpa [hq] using hi
    have hn : (lcs l).toList.length = 4 := rfl
    rw [hn] at hl
    have ha : (isAgg 61).run Tryz.prog w = .ok true w := by
      unfold isAgg
      rw [Sem.run_bind, run_underlying Tryz.underlying61 w]
      simp
    simp [loadVar, ha, sizeOf, typeInfo, hq, hs, hl]
theorem qstep_lkAt {C : World → Prop} {ops : Array Oper} {o : Oper} {a : Act} {K : Act → Prop} {p : Operand} (hgd : Region.wanted o (yielded ops a.tmps) = true) (ho : o.op = .load 61 p) (g off : Nat) (l : Lk)
    (hp : a.eval p = .pointer (some ⟨g, off, none⟩)) (hc : ∀ w, C w → ∀ j u, (lcs l)[j]? = some u → w.cell? ⟨g, off + j, none⟩ = some u)
    (h : K (a.put o.dst (.agg (lcs l)))) : if Region.wanted o (yielded ops a.tmps) = true then o.quiet Tryz.prog a C K else K (a.put o.dst undef) := by
  rw [if_pos hgd]
  refine ⟨.agg (lcs l), fun w hC => ?_, h⟩
  unfold Oper.quietAt execOp
  simp only [ho, Sem.run_bind, hp, load_lk g off l (hc w hC), Result.andThen_ok]
  exact ⟨rfl, rfl⟩
theorem wpList_lkAt {ops : Array Oper} {rest : List Oper} {o : Oper} {a : Act} {Q : Exit → Act → World → Prop} {w : World} {p : Operand} (hgd : Region.wanted o (yielded ops a.tmps) = true) (ho : o.op = .load 61 p) (g off : Nat) (l : Lk)
    (hp : a.eval p = .pointer (some ⟨g, off, none⟩)) (hc : ∀ j u, (lcs l)[j]? = some u → w.cell? ⟨g, off + j, none⟩ = some u)
    (h : wpList Tryz.prog ops Q rest (a.put o.dst (.agg (lcs l))) w) : wpList Tryz.prog ops Q (o :: rest) a w := by
  refine wpList_wanted hgd fun K hK => ?_
  unfold Oper.wp execOp
  simp only [ho, Sem.run_bind, hp, load_lk g off l hc, Result.andThen_ok]
  exact hK _ _ h
end
section
open Go.RowKit Go
/-- What LinkLaid has in hand: its argument's block, the table. -/
structure Lq (w wx : World) (T A : Nat) (vs : Array Value) : Prop where
  t : wx.heap[T]? = some (.cells vs 28 (0, 0))
  c : Cb wx
  l : Below w.heap.size w wx
  ta : T < A
  wa : w.heap.size ≤ A
  p0 : 0 < A
theorem Lq.kp {w wx wy : World} {T A : Nat} {vs : Array Value} {S : Nat → Prop} (h : Lq w wx T A vs) (hk : Kp S wx wy) (hs : ∀ q, S q → A ≤ q) : Lq w wy T A vs := by
  have ta := h.ta
  have wa := h.wa
  have p0 := h.p0
  exact ⟨(hk.block T (blk_lt h.t) (fun e => by have := hs _ e; omega)).trans h.t, h.c.kp hk (fun e => by have := hs _ e; omega), h.l.trans (hk.below h.l.size (fun q e => by have := hs _ e; omega)), ta, wa, p0⟩
theorem Lq.below {w wx wy : World} {T A : Nat} {vs : Array Value} (h : Lq w wx T A vs) (hb : Below wx.heap.size wx wy) : Lq w wy T A vs := h.kp (Kp.of_below (S := fun _ => False) hb) (fun _ e => e.elim)
/-- Book, Late and the place, side by side; what is in X is none of Book's and Late's. -/
structure Lx (wx : World) (A P Bk Lt t c : Nat) (FP X : Nat → Prop) : Prop where
  h : Hs wx A X Bk Lt t c
  p : Plf wx A P FP
  fx : ∀ q, FP q → X q
  fa : ∀ q, FP q → A ≤ q
  fl : ∀ q, FP q → q < wx.heap.size
  nx : ∀ q, wx.heap.size ≤ q → X q
  az : A ≤ wx.heap.size
section
variable {wx wy : World} {A P Bk Lt t c : Nat} {FP X : Nat → Prop}
theorem Lx.kp (h : Lx wx A P Bk Lt t c FP X) {S : Nat → Prop} (hk : Kp S wx wy) (hs : ∀ q, S q → X q) (hf : ∀ q, FP q → ¬ S q) : Lx wy A P Bk Lt t c FP X :=
  ⟨h.h.kp hk (fun q _ _ hx e => hx (hs q e)), h.p.kp hk hf, h.fx, h.fa, fun q hq => Nat.lt_of_lt_of_le (h.fl q hq) hk.size, fun q hq => h.nx q (Nat.le_trans hk.size hq), Nat.le_trans h.az hk.size⟩
theorem Lx.below (h : Lx wx A P Bk Lt t c FP X) (hb : Below wx.heap.size wx wy) : Lx wy A P Bk Lt t c FP X := h.kp (Kp.of_below (S := fun _ => False) hb) (fun _ e => e.elim) (fun _ _ e => e)
/-- What is left when one was handed on. -/
def Xl (wx wy : World) (X : Nat → Prop) (got : Value) (q : Nat) : Prop := (X q ∧ got.ownBlock ≠ some q ∧ q < wx.heap.size) ∨ wy.heap.size ≤ q
theorem Lx.add (h : Lx wx A P Bk Lt t c FP X) {c' : Nat} {got : Value} (hh : Hs wy A (fun k => X k ∧ got.ownBlock ≠ some k ∧ k < wx.heap.size) Bk Lt t c') (hk : Kp (fun k => A ≤ k ∧ ¬ X k) wx wy) (hg : ∀ q, FP q → got.ownBlock ≠ some q) : Lx wy A P Bk Lt t c' FP (Xl wx wy X got) :=
  ⟨hh.mono (fun q _ hl hx => by rcases hx with hx | hx; exact hx; omega), h.p.kp hk (fun q hq e => e.2 (h.fx q hq)), fun q hq => .inl ⟨h.fx q hq, hg q hq, h.fl q hq⟩, h.fa, fun q hq => Nat.lt_of_lt_of_le (h.fl q hq) hk.size, fun q hq => .inr hq, Nat.le_trans h.az hk.size⟩
/-- The place has taken bytes in. -/
theorem Lx.bytes (h : Lx wx A P Bk Lt t c FP X) {v : Value} {ys : List Nat} (hp : Plq wy A P (fun q => FP q ∨ wx.heap.size ≤ q) v ys) (hk : Kp FP wx wy) : Lx wy A P Bk Lt t c (fun q => (FP q ∨ wx.heap.size ≤ q) ∧ q < wy.heap.size) X ∧ Plq wy A P (fun q => (FP q ∨ wx.heap.size ≤ q) ∧ q < wy.heap.size) v ys := by
  have hq := hp.foot (F' := fun q => (FP q ∨ wx.heap.size ≤ q) ∧ q < wy.heap.size) (fun q h1 h2 => ⟨h1, h2⟩)
  have az := h.az
  exact ⟨⟨h.h.kp hk (fun q _ _ hx e => hx (h.fx q e)), hq.plf, fun q hq => hq.1.elim (h.fx q) (h.nx q), fun q hq => hq.1.elim (h.fa q) (fun e => by omega), fun q hq => hq.2, fun q hq => h.nx q (Nat.le_trans hk.size hq), Nat.le_trans h.az hk.size⟩, hq⟩
end
theorem lx_start (w1 : World) :
    Lx (((w1.alloc (.cells (bookCells (.slice none 0 0) (.slice none 0 0) 0 0 0 0) 49)).alloc (.cells #[.slice none 0 0, .slice none 0 0] 52)).alloc (.cells #[.slice none 0 0, .slice none 0 0] 55)) w1.heap.size (w1.heap.size + 1 + 1) w1.heap.size (w1.heap.size + 1) 0 0 (fun q => q = w1.heap.size + 1 + 1) (fun q => w1.heap.size + 2 ≤ q) := by
  have hn := hs_new w1
  have hsz : ((w1.alloc (.cells (bookCells (.slice none 0 0) (.slice none 0 0) 0 0 0 0) 49)).alloc (.cells #[.slice none 0 0, .slice none 0 0] 52)).heap.size = w1.heap.size + 1 + 1 := by simp
  generalize (w1.alloc (.cells (bookCells (.slice none 0 0) (.slice none 0 0) 0 0 0 0) 49)).alloc (.cells #[.slice none 0 0, .slice none 0 0] 52) = wb at *
  have hb := below_alloc4 wb (.cells #[.slice none 0 0, .slice none 0 0] 55)
  have hp := heap_alloc_new wb (.cells #[.slice none 0 0, .slice none 0 0] 55)
  have hs2 : (wb.alloc (.cells #[.slice none 0 0, .slice none 0 0] 55)).heap.size = w1.heap.size + 1 + 1 + 1 := by simp [hsz]
  generalize wb.alloc (.cells #[.slice none 0 0, .slice none 0 0] 55) = wc at *
  rw [hsz] at hp
  exact ⟨hn.kp (Kp.of_below (S := fun _ => False) hb) (fun _ _ _ _ h => h), ⟨rfl, by omega, .inl hp⟩, fun q hq => by omega, fun q hq => by omega, fun q hq => by omega, fun q hq => by omega, by omega⟩

theorem Lx.over {wx wy : World} {A P Bk Lt t c : Nat} {FP X S : Nat → Prop} (h : Lx wx A P Bk Lt t c FP X) (hk : Kp S wx wy) (hs : ∀ q, S q → X q) (hp : Plf wy A P FP) : Lx wy A P Bk Lt t c FP X :=
  ⟨h.h.kp hk (fun q _ _ hx e => hx (hs q e)), hp, h.fx, h.fa, fun q hq => Nat.lt_of_lt_of_le (h.fl q hq) hk.size, fun q hq => h.nx q (Nat.le_trans hk.size hq), Nat.le_trans h.az hk.size⟩
/-- A row that is not yet handed on: its bytes, where its block lies. -/
structure Rz (wx : World) (A : Nat) (FP X : Nat → Prop) (v : Value) (W : List Nat) (lo hi : Nat) : Prop where
  o : wx.ownsRow A 5 1 v W.length (bv W)
  x : ∀ q, v.ownBlock = some q → X q ∧ ¬ FP q ∧ lo ≤ q ∧ q < hi
section
variable {wx wy : World} {A P Bk Lt t c : Nat} {FP X : Nat → Prop} {v : Value} {W : List Nat} {lo hi : Nat}
theorem Rz.kp (h : Rz wx A FP X v W lo hi) {S : Nat → Prop} (hk : Kp S wx wy) (hs : ∀ q, X q → ¬ FP q → lo ≤ q → q < hi → ¬ S q) : Rz wy A FP X v W lo hi :=
  ⟨hk.owns h.o (fun q hq => by have := h.x q hq; exact hs q this.1 this.2.1 this.2.2.1 this.2.2.2), h.x⟩
theorem Rz.below (h : Rz wx A FP X v W lo hi) (hb : Below wx.heap.size wx wy) : Rz wy A FP X v W lo hi := h.kp (Kp.of_below (S := fun _ => False) hb) (fun _ _ _ _ _ e => e)
theorem Rz.new (h : Lx wx A P Bk Lt t c FP X) (ho : wy.ownsRow wx.heap.size 5 1 v W.length (bv W)) : Rz wy A FP X v W wx.heap.size wy.heap.size :=
  ⟨own_mono ho h.az, fun q hq => by have h1 := (ho.lt q hq); exact ⟨h.nx q h1.1, fun hf => by have := h.fl q hf; omega, h1.1, h1.2⟩⟩
theorem Rz.add (h : Rz wx A FP X v W lo hi) {got : Value} {glo ghi : Nat} {GW : List Nat} (hg : Rz wx A FP X got GW glo ghi) (hk : Kp (fun k => A ≤ k ∧ ¬ X k) wx wy) (hd : hi ≤ glo ∨ ghi ≤ lo) (hhi : hi ≤ wx.heap.size) : Rz wy A FP (Xl wx wy X got) v W lo hi :=
  ⟨hk.owns h.o (fun q hq e => e.2 (h.x q hq).1), fun q hq => by
    have h1 := h.x q hq
    exact ⟨.inl ⟨h1.1, fun e => by have := hg.x q e; omega, by omega⟩, h1.2.1, h1.2.2.1, h1.2.2.2⟩⟩
theorem Rz.bsl (h : Rz wx A FP X v W lo hi) (hb : ∀ x ∈ W, x < 256) : BSl wx v W := BSl.own h.o hb
end

theorem eq_sameZ (w : World) (v u : Value) (xs : List Nat) (h1 : BSl w v xs) (h2 : BSl w u xs) : Calls Tryz.prog 10 #[v, u] w fun e w' => e = .returned (.bool true) ∧ Below w.heap.size w w' :=
  (eq_any w v u xs xs h1 h2).mono fun e w' ⟨he, hk⟩ => ⟨by rw [he]; simp, hk.below (Nat.le_refl _) (fun _ h => h.elim)⟩
theorem Lnt.belowZ {w w' : World} {base g cap : Nat} {xs : List Nat} (h : Lnt w base g cap xs) (hb : Below w.heap.size w w') : Lnt w' base g cap xs := h.kp (Kp.of_below (S := fun _ => False) hb) (fun h => h)
theorem intactZ {w : World} {base g cap : Nat} {xs : List Nat} (h : Lnt w base g cap xs) (vb : Value) (hb : BSl w vb xs) :
    Calls Tryz.prog 20 #[.slice (some ⟨g, 0, none⟩) xs.length cap, vb] w fun e w' => e = .returned (.bool true) ∧ Below w.heap.size w w' :=
  (intact_any h vb hb).mono fun _ _ ⟨he, hk⟩ => ⟨he, hk.below (Nat.le_refl _) (fun _ h => h.elim)⟩
theorem refBytesZ (w : World) (l : Lk) (hl : Lkb l) :
    Calls Tryz.prog 5 #[.agg (lcs l)] w fun e w' => ∃ v', e = .returned (.tuple #[v', .int .i64 (if lok l then 0 else 40)]) ∧ w'.ownsRow w.heap.size 5 1 v' (lrow l).length (bv (lrow l)) ∧ Below w.heap.size w w' := by
  have h := refBytes_any w l.v l.c l.h (nstr l.d) hl.h (by rw [hl.size]; exact hl.n)
  rw [sl_nstr hl.d] at h
  exact h
theorem refCheckZ (w : World) (l : Lk) (hl : Lkb l) :
    Calls Tryz.prog 8 #[.agg (lcs l)] w fun e w' => e = .returned (.int .i64 (if lok l then 0 else 40)) ∧ Below w.heap.size w w' := by
  have h := refCheck_any w l.v l.c l.h (nstr l.d) hl.h (by rw [hl.size]; exact hl.n)
  rw [sl_nstr hl.d] at h
  exact h
theorem RowsIn.rowZ {w : World} {a : Option Addr} {len cap : Nat} (h : RowsIn w (.slice a len cap) len) (hl : 0 < len) : ∃ b off, a = some ⟨b, off, none⟩ ∧ ∀ i, i < len → ∃ u xs, w.cell? ⟨b, off + i, none⟩ = some u ∧ BSl w u xs ∧ xs.length ≤ 140737488351232 := by
  obtain ⟨⟨a', cap', hv, _, hr⟩, _⟩ := h
  injection hv with h1 h2 h3
  subst h1
  rcases hr with hr | hr
  · omega
  · exact hr
end
section
open Go.RowKit Go
theorem eqlk_self (w : World) (a : Lk) : (Op.equalIn 10000 61 (.agg (lcs a)) (.agg (lcs a))).run Tryz.prog w = .ok true w := by
  have u3 := Tryz.underlying3
  have u9 := Tryz.underlying9
  have u33 := Tryz.underlying59
  have a3 := Tryz.isAgg3
  have a9 := Tryz.isAgg9
  have a33 := Tryz.isAgg59
  have z3 := Tryz.sizeOf3
  have z9 := Tryz.sizeOf9
  have z33 := Tryz.sizeOf59
  have hS : Tryz.prog.underlying 61 = some (.struct (Tryz.prog.fieldsOf 61)) := by kernel_rfl
  have hp : Tryz.prog.stoodInHeld 61 = false := by kernel_rfl
  unfold lcs
  rw [show (10000 : Nat) = 9999 + 1 from rfl, run_equalIn_agg w 9999 61 _ _ hS hp]
  simp only [Program.fieldsOf, Tryz.underlying61]
  go_simp
/-- What LinkLaid's second half has in hand: the argument, Book, Late and the place, the other bytes. -/
structure Z4 (w wx : World) (T A P Bk Lt t c M : Nat) (vs : Array Value) (FP X : Nat → Prop) (vb : Value) (ns : List Nat) (vo : Value) (os : List Nat) : Prop where
  q : Lq w wx T A vs
  x : Lx wx A P Bk Lt t c FP X
  p : Plq wx A P FP vb ns
  o : Rz wx A FP X vo os 0 M
  m : M ≤ wx.heap.size
theorem Z4.below {w wx wy : World} {T A P Bk Lt t c M : Nat} {vs : Array Value} {FP X : Nat → Prop} {vb : Value} {ns : List Nat} {vo : Value} {os : List Nat} (h : Z4 w wx T A P Bk Lt t c M vs FP X vb ns vo os) (hb : Below wx.heap.size wx wy) : Z4 w wy T A P Bk Lt t c M vs FP X vb ns vo os :=
  ⟨h.q.below hb, h.x.below hb, h.p.below hb, h.o.below hb, Nat.le_trans h.m hb.size⟩

set_option maxRecDepth 1000000 in
set_option maxHeartbeats 4000000 in
theorem llaid_any (w : World) (v1 v3 v4 : Value) (aL aB : Option Addr) (nL cL nB cB : Nat) (hcb : Cb w) (hL : LinksIn w (.slice aL nL cL) nL) (hB : RowsIn w (.slice aB nB cB) nB) :
    Calls Tryz.prog 3 #[.agg #[.slice aL nL cL, v1, .slice aB nB cB, v3, v4]] w fun e w' => e = .returned (.bool true) ∧ Below w.heap.size w w' := by
  have HCB := hide hcb
  have HL := hide hL
  have HB := hide hB
  have hmL := hL.max
  have hmB := hB.max
  clear hcb hL hB
  go_enter Tryz.func3, Tryz.ntmps3
  go_wp2_with fail
  have HT0 : Hid ((w.alloc (.cells #[Value.slice aL nL cL, v1, Value.slice aB nB cB, v3, v4] 28)).heap[w.heap.size]? = some (.cells #[Value.slice aL nL cL, v1, Value.slice aB nB cB, v3, v4] 28 (0, 0))) := heap_alloc_new w _
  have HB0 := hide (below_alloc4 w (.cells #[Value.slice aL nL cL, v1, Value.slice aB nB cB, v3, v4] 28))
  generalize w.alloc (.cells #[Value.slice aL nL cL, v1, Value.slice aB nB cB, v3, v4] 28) = w0 at *
  have HC0 := hide (HCB.out.below HB0.out)
  refine (begun4_any w0 HC0.out).mono ?_
  rintro e w1 ⟨rfl, hb1⟩
  have HQ1 : Hid (Lq w w1 w.heap.size w1.heap.size #[Value.slice aL nL cL, v1, Value.slice aB nB cB, v3, v4]) := by
    have l0 := blk_lt HT0.out
    have l1 := hb1.size
    exact ⟨(hb1.block _ l0).trans HT0.out, HC0.out.below hb1, HB0.out.trans (hb1.mono HB0.out.size), by omega, by omega, by omega⟩
  clear hb1 HC0 HT0 HB0
  generalize hT : w.heap.size = T at *
  have HTE := hide hT
  clear hT
  go_wp2_with (refine wpList_buildBook rfl rfl ?_)
  have HX0 := hide (lx_start w1)
  have HQ0 := hide (((HQ1.out.below (below_alloc4 w1 (.cells (bookCells (.slice none 0 0) (.slice none 0 0) 0 0 0 0) 49))).below (below_alloc4 _ (.cells #[.slice none 0 0, .slice none 0 0] 52))).below (below_alloc4 _ (.cells #[.slice none 0 0, .slice none 0 0] 55)))
  clear HQ1
  generalize ((w1.alloc (.cells (bookCells (.slice none 0 0) (.slice none 0 0) 0 0 0 0) 49)).alloc (.cells #[.slice none 0 0, .slice none 0 0] 52)).alloc (.cells #[.slice none 0 0, .slice none 0 0] 55) = w4 at *
  generalize w1.heap.size = A at *
  generalize hvs : (#[Value.slice aL nL cL, v1, Value.slice aB nB cB, v3, v4] : Array Value) = vs at HQ0
  have HVS := hide hvs
  clear hvs
  generalize A + 1 = Lt at *
  generalize Lt + 1 = P at *
  go_loopw [6] (fun ii wx => ∃ (i t c : Nat) (FP X : Nat → Prop), i ≤ nL ∧ i ≤ 1000 ∧ t + c ≤ 2 * i ∧ ii = .int .i64 (i : Nat) ∧ Hid (Lq w wx T A vs) ∧ Hid (Lx wx A P A Lt t c FP X)) (fun ii _ => 1000 - (intOf ii).toNat)
  case atStart => exact ⟨0, 0, 0, _, _, by omega, by omega, by omega, rfl, HQ0, HX0⟩
  case round =>
    obtain ⟨i, t, c, FP, X, hi, hi2, htc, rfl, HQ, HX⟩ := hrel
    clear HX0 HQ0
    have HTL : Hid (∀ wx, Lq w wx T A vs → wx.cell? ⟨T, 0, none⟩ = some (.slice aL nL cL)) := fun wx hb => by
      have e := hb.t
      rw [← HVS.out] at e
      exact blk_cell e rfl
    have q0 := HTL.out _ HQ.out
    have HTC := hide htc
    clear htc
    by_cases hil : i < nL ∧ i < 1000
    · as_aux_lemma =>
      obtain ⟨hil, hi2000⟩ := hil
      have r1 : (i : Int) < (nL : Int) := by omega
      have r2 : (i : Int) < 1000 := by omega
      obtain ⟨a', cap', hv, hform⟩ := HL.out.form
      injection hv with e1 e2 e3
      subst e1
      obtain ⟨b, off, rfl, hcells⟩ := hform.resolve_left (by omega)
      obtain ⟨li, hli, hci⟩ := hcells i hil
      have HLI := hide hli
      have HCI : Hid (∀ wx, Lq w wx T A vs → ∀ j u, (lcs li)[j]? = some u → wx.cell? ⟨b, off + i * 4 + j, none⟩ = some u) := fun wx hb j u hu => keep_below hb.l _ _ (hci j u hu)
      clear hform hcells hli hci e2 e3
      have HWL := hide (lrow_len li)
      have HWB := hide (lrow_byte HLI.out.d)
      have HRB := hide (fun wx => refBytesZ wx li HLI.out)
      have HLB : Hid (∀ wx, Calls Tryz.prog 9 #[.agg (lcs li)] wx fun e w' => ∃ v', e = .returned (.tuple #[v', .int .i64 (if lok li then 0 else 40)]) ∧ w'.ownsRow wx.heap.size 5 1 v' (lrow li).length (bv (lrow li)) ∧ Below wx.heap.size wx w') := fun wx => bytes4_any wx li HLI.out
      have HCC : Hid (∀ wx, Calls Tryz.prog 7 #[.agg (lcs li)] wx fun e w' => e = .returned (.int .i64 (if lok li then 0 else 40)) ∧ Below wx.heap.size wx w') := fun wx => check_any wx li HLI.out
      have HRC := hide (fun wx => refCheckZ wx li HLI.out)
      generalize (if lok li then (0 : Int) else 40) = E at *
      generalize lrow li = W at *
      have HQ0 := hide (HCI.out _ HQ.out)
      go_wp2_with (refine wpList_lkAt rfl rfl b (off + i * 4) li rfl HQ0.out ?_)
      refine (HRB.out wr).mono ?_
      rintro e w5 ⟨vw, rfl, how, hb5⟩
      have HW5 := hide (Rz.new HX.out how)
      have HQ5 := hide (HQ.out.below hb5)
      have HX5 := hide (HX.out.below hb5)
      clear how hb5 HQ HX q0 HQ0 HRB
      obtain ⟨aw, cw, hvw, _⟩ := own_form HW5.out.o
      subst hvw
      generalize wr.heap.size = lo at *
      have q0 := HTL.out _ HQ5.out
      have k0 := fun t : Ext w5 => Ext.cell q0 t
      have HQE : Hid (∀ wx, (∃ t : Ext w5, wx = t.w') → ∀ j u, (lcs li)[j]? = some u → wx.cell? ⟨b, off + i * 4 + j, none⟩ = some u) := by
        rintro _ ⟨t, rfl⟩ j u hu
        exact keep_below t.h _ _ (HCI.out _ HQ5.out j u hu)
      have HC1 : Hid (∀ t : Ext w5, Calls Tryz.prog 7 #[.agg (lcs li)] t.w' fun e w'' => e = .returned (.int .i64 E) ∧ ∃ t' : Ext w5, w'' = t'.w') := fun t => Calls.ext_below (HCC.out t.w')
      have HC2 : Hid (∀ t : Ext w5, Calls Tryz.prog 8 #[.agg (lcs li)] t.w' fun e w'' => e = .returned (.int .i64 E) ∧ ∃ t' : Ext w5, w'' = t'.w') := fun t => Calls.ext_below (HRC.out t.w')
      have HC3 : Hid (∀ t : Ext w5, Calls Tryz.prog 6 #[.int .i64 E] t.w' fun e w'' => e = .returned (.int .i64 E) ∧ ∃ t' : Ext w5, w'' = t'.w') := fun t => Calls.ext_same (num4_any t.w' E)
      go_wp2_with fail
      refine region_ext (by kernel_rfl) (by kernel_rfl) ?_
      repeat (
        refine wpQuiet_step (fun K hK => ?_)
        first
          | (refine qstep_lkAt rfl rfl b (off + i * 4) li rfl HQE.out (hK _ ?_); clear hK K)
          | (go_simp
             first
               | (refine hK _ ?_; clear hK K)
               | (apply Exists.intro
                  refine ⟨fun _ => ?_, hK _ ?_⟩
                  (first
                    | (go_at_call 7; exact HC1.out _)
                    | (go_at_call 8; exact HC2.out _)
                    | (go_at_call 6; exact HC3.out _))
                  clear hK K)))
      refine wpQuiet_nil ?_
      rintro _ ⟨tq, rfl⟩
      have HQ6 := hide (HQ5.out.below tq.h)
      have HX6 := hide (HX5.out.below tq.h)
      have HW6 := hide (HW5.out.below tq.h)
      have HM6 : Hid (w5.heap.size ≤ tq.w'.heap.size) := tq.h.size
      clear HQ5 HX5 HW5 q0 k0 HQE HC1 HC2 HC3 HCC HRC
      generalize tq.w' = w6 at *
      generalize w5.heap.size = M at *
      go_wp2_with fail
      go_loopw [9] (fun kk wx => ∃ (k c' : Nat) (X' : Nat → Prop), k ≤ 2 ∧ kk = .int .i64 (k : Nat) ∧ Hid (t + c' ≤ 2 * i + k) ∧ Hid (Lq w wx T A vs) ∧ Hid (Lx wx A P A Lt t c' FP X') ∧ Hid (Rz wx A FP X' (.slice aw W.length cw) W lo M) ∧ Hid (M ≤ wx.heap.size)) (fun kk _ => 2 - (intOf kk).toNat)
      case atStart => exact ⟨0, c, X, by omega, rfl, HTC, HQ6, HX6, HW6, HM6⟩
      case round => as_aux_lemma =>
        rename World => wz
        obtain ⟨k, c', X', hk, rfl, HTC', HQ, HX, HW, HM⟩ := hrel
        clear HQ6 HX6 HW6 HM6
        by_cases hk2 : k < 2
        · have g3 : (k : Int) < 2 := by omega
          have q0 := HTL.out _ HQ.out
          have HQ0 := hide (HCI.out _ HQ.out)
          go_wp2_with (refine wpList_lkAt rfl rfl b (off + i * 4) li rfl HQ0.out ?_)
          refine (HLB.out wz).mono ?_
          rintro e w7 ⟨vb, rfl, ho7, hb7⟩
          have HB7 := hide (Rz.new HX.out ho7)
          have HQ7 := hide (HQ.out.below hb7)
          have HX7 := hide (HX.out.below hb7)
          have HW7 := hide (HW.out.below hb7)
          have H67 : Hid (wz.heap.size ≤ w7.heap.size) := hb7.size
          clear ho7 hb7 HQ HX HW q0 HQ0
          obtain ⟨ab, cb, hvb, _⟩ := own_form HB7.out.o
          subst hvb
          go_wp2_with (go_at_call 6; refine (num4_any _ _).mono ?_; rintro e wn ⟨rfl, rfl⟩)
          refine (eq_sameZ _ _ _ W (HB7.out.bsl HWB.out) (HW7.out.bsl HWB.out)).mono ?_
          rintro e w8 ⟨rfl, hb8⟩
          have HQ8 := hide (HQ7.out.below hb8)
          have HX8 := hide (HX7.out.below hb8)
          have HW8 := hide (HW7.out.below hb8)
          have HB8 := hide (HB7.out.below hb8)
          have H78 : Hid (wn.heap.size ≤ w8.heap.size) := hb8.size
          clear hb8 HQ7 HX7 HW7 HB7
          go_wp2_with fail
          refine (add_any HX8.out.h HX8.out.az _ _ W HB8.out.o HWB.out (by have := HWL.out; omega) (fun q hq => (HB8.out.x q hq).1) (HW8.out.bsl HWB.out) (fun q hq => (HW8.out.x q hq).1) (by have := HTC'.out; omega)).mono ?_
          rintro e w9 ⟨rfl, hpost⟩
          obtain ⟨hh9, hk9⟩ := hpost.out
          have e1 := HM.out
          have e2 := H67.out
          have e3 := H78.out
          have e4 := hk9.size
          have HW9 := hide (HW8.out.add HB8.out hk9 (.inl (by omega)) (by omega))
          have HX9 := hide (HX8.out.add hh9 hk9 (fun q hf e => (HB8.out.x q e).2.1 hf))
          have HQ9 := hide (HQ8.out.kp hk9 (fun q e => e.1))
          have HM9 : Hid (M ≤ w9.heap.size) := by show _ ≤ _; omega
          have HTK : Hid (t + (c' + 1) ≤ 2 * i + (k + 1)) := by have := HTC'.out; show _ ≤ _; omega
          clear hpost hh9 hk9 e1 e2 e3 e4 HW8 HX8 HQ8 HB8
          go_wp2_with fail
          go_roundw
          case rel => exact ⟨k + 1, c' + 1, _, by omega, by go_num, HTK, HQ9, HX9, HW9, HM9⟩
          case measure => simp [intOf]; omega
        · have g3 : ¬ (k : Int) < 2 := by omega
          have hk22 : k = 2 := by omega
          go_wp2_with fail
          go_roundw
          case rel => exact ⟨i + 1, t, c', FP, X', by omega, by omega, by have := HTC'.out; omega, by go_num, HQ, HX⟩
          case measure => simp [intOf]; omega
    · have g0 : ¬ (i : Int) < (nL : Int) ∨ ((i : Int) < (nL : Int) ∧ ¬ (i : Int) < 1000) := by omega
      have HTC8 : Hid (t + c ≤ 2000) := by have := HTC.out; show _ ≤ _; omega
      clear HTC
      rcases g0 with g1 | ⟨g1, g2⟩
      all_goals (
        go_wp2_with fail
        clear q0 g1
        go_loopw [12] (fun ii wx => ∃ (j : Nat) (FP X : Nat → Prop), j ≤ nB ∧ j ≤ 1000 ∧ ii = .int .i64 (j : Nat) ∧ Hid (Lq w wx T A vs) ∧ Hid (Lx wx A P A Lt t c FP X)) (fun ii _ => 1000 - (intOf ii).toNat)
        case atStart => exact ⟨0, FP, X, by omega, by omega, rfl, HQ, HX⟩
        case round => as_aux_lemma =>
          rename World => wz
          clear HQ HX hi hi2 hil HTL HL
          obtain ⟨j, FP, X, hj, hj2, rfl, HQ, HX⟩ := hrel
          have HT2 : Hid (∀ wx, Lq w wx T A vs → wx.cell? ⟨T, 2, none⟩ = some (.slice aB nB cB)) := fun wx hb => by
            have e := hb.t
            rw [← HVS.out] at e
            exact blk_cell e rfl
          have q2 := HT2.out _ HQ.out
          by_cases hjl : j < nB ∧ j < 1000
          · obtain ⟨hjl, hj2000⟩ := hjl
            have r1 : (j : Int) < (nB : Int) := by omega
            have r2 : (j : Int) < 1000 := by omega
            obtain ⟨b, off, rfl, hrow⟩ := HB.out.rowZ (by omega)
            obtain ⟨u, ys, hcu, hbu, hyl⟩ := hrow j hjl
            have HCU := hide hcu
            have HU0 := hide hbu
            have HYL := hide hyl
            have HYB := hide hbu.byte
            obtain ⟨⟨au, cau, hu, hnu, hcau⟩, hmu, hbyu⟩ := hbu
            subst hu
            clear hcu hnu hcau hbyu hrow hyl
            have HUM : Hid (∀ wx, Lq w wx T A vs → wx.cell? ⟨b, off + j, none⟩ = some (.slice au ys.length cau) ∧ BSl wx (.slice au ys.length cau) ys) := fun wx hb => ⟨keep_below hb.l _ _ HCU.out, HU0.out.move (keep_below hb.l)⟩
            have cu := (HUM.out _ HQ.out).1
            go_wp2_with fail
            refine (other_any wz _ ys (HUM.out _ HQ.out).2 HYL.out).mono ?_
            rintro e w5 ⟨vo, rfl, ho⟩
            obtain ⟨os, ho5, hob, hol, hb5⟩ := ho.out
            have HO5 := hide (Rz.new HX.out ho5)
            have HOB := hide hob
            have HOL := hide hol
            have HQ5 := hide (HQ.out.below hb5)
            have HX5 := hide (HX.out.below hb5)
            clear ho ho5 hob hol hb5 cu q2 HQ HX
            obtain ⟨avo, cvo, hvo, _⟩ := own_form HO5.out.o
            subst hvo
            have cu := (HUM.out _ HQ5.out).1
            have q2 := HT2.out _ HQ5.out
            go_wp2_with fail
            refine (pbytes_f w5 A P FP _ ys HX5.out.p HX5.out.az HYL.out (fun w' hb => HU0.out.move (keep_below (HQ5.out.l.trans (hb.mono HQ5.out.wa))))).mono ?_
            rintro e w6 ⟨vb, rfl, hq6, hk6⟩
            obtain ⟨hx6, hp6⟩ := HX5.out.bytes hq6 hk6
            have HX6 := hide hx6
            have HP6 := hide hp6
            have HQ6 := hide (HQ5.out.kp hk6 (fun q e => HX5.out.fa q e))
            have HO6 : Hid (Rz w6 A (fun q => (FP q ∨ w5.heap.size ≤ q) ∧ q < w6.heap.size) X (.slice avo os.length cvo) os 0 w5.heap.size) := by
              have h1 := HO5.out.kp hk6 (fun q _ hf _ _ e => hf e)
              exact ⟨h1.o, fun q hq => by have h2 := h1.x q hq; exact ⟨h2.1, fun hf => hf.1.elim h2.2.1 (fun e => by omega), Nat.zero_le _, h2.2.2.2⟩⟩
            have HM6 : Hid (w5.heap.size ≤ w6.heap.size) := hk6.size
            clear hq6 hk6 hx6 hp6 HQ5 HX5 HO5 cu q2
            generalize w5.heap.size = M at *
            generalize (fun q => (FP q ∨ M ≤ q) ∧ q < w6.heap.size) = FP' at *
            clear FP
            have HE0 : Hid (∃ FP : Nat → Prop, FP = FP') := ⟨_, rfl⟩
            obtain ⟨FP, hFP⟩ := HE0.out
            subst hFP
            clear HE0
            obtain ⟨avb, cvb, hvb, _⟩ := own_form HP6.out.own
            subst hvb
            have HZ6 : Hid (Z4 w w6 T A P A Lt t c M vs FP X (.slice avb ys.length cvb) ys (.slice avo os.length cvo) os) := ⟨HQ6.out, HX6.out, HP6.out, HO6.out, HM6.out⟩
            clear HQ6 HX6 HP6 HO6 HM6
            go_wp2_with fail
            go_loopw [15] (fun kk wx => ∃ k : Nat, k ≤ 4 ∧ kk = .int .i64 (k : Nat) ∧ Hid (Z4 w wx T A P A Lt t c M vs FP X (.slice avb ys.length cvb) (if k ≤ 2 then ys else os) (.slice avo os.length cvo) os)) (fun kk _ => 4 - (intOf kk).toNat)
            case atStart => exact ⟨0, by omega, rfl, by rw [if_pos (by omega)]; exact HZ6⟩
            case round => as_aux_lemma =>
              rename World => wk
              obtain ⟨k, hk, rfl, HZ0⟩ := hrel
              clear HZ6
              have cu := (HUM.out _ HZ0.out.q).1
              have q2 := HT2.out _ HZ0.out.q
              by_cases hk4 : k < 4
              · have g3 : (k : Int) < 4 := by omega
                go_upto_if 131 with fail
                clear cu q2
                go_cut [] (fun wx => Hid (Z4 w wx T A P A Lt t c M vs FP X (.slice avb ys.length cvb) (if k < 2 then ys else os) (.slice avo os.length cvo) os))
                case first => as_aux_lemma =>
                  by_cases hk2 : k = 2
                  · have g4 : ((k : Int) == 2) = true := beq_iff_eq.2 (by omega)
                    have HZs : Hid (Z4 w wk T A P A Lt t c M vs FP X (.slice avb ys.length cvb) ys (.slice avo os.length cvo) os) := by have e := HZ0.out; rw [if_pos (by omega)] at e; exact e
                    clear HZ0
                    have HIF : Hid ((if k < 2 then ys else os) = os) := if_neg (by omega)
                    clear hk2
                    go_wp2_with fail
                    refine (intoR_any HZs.out.p.own HYL.out _ (HZs.out.o.bsl HOB.out) HOL.out (fun q hq e => (HZs.out.o.x q e).2.1 (HZs.out.p.blk q hq))).mono ?_
                    rintro e ws ⟨rfl, hoi, hki⟩
                    have HPs := hide (HZs.out.p.over hki hoi)
                    have HXs := hide (HZs.out.x.over hki (fun q e => HZs.out.x.fx q (HZs.out.p.blk q e)) HPs.out.plf)
                    have HQs := hide (HZs.out.q.kp hki (fun q e => HZs.out.x.fa q (HZs.out.p.blk q e)))
                    have HOs := hide (HZs.out.o.kp hki (fun q _ hf _ _ e => hf (HZs.out.p.blk q e)))
                    have HMs : Hid (M ≤ ws.heap.size) := Nat.le_trans HZs.out.m hki.size
                    clear hoi hki HZs
                    go_wp2_with fail
                    go_meet
                    case rel => rw [HIF.out]; exact ⟨HQs.out, HXs.out, HPs.out, HOs.out, HMs.out⟩
                  · have g4 : ((k : Int) == 2) = false := beq_eq_false_iff_ne.2 (by omega)
                    have HIF : Hid ((if k ≤ 2 then ys else os) = if k < 2 then ys else os) := by
                      show _ = _
                      by_cases h : k < 2
                      · rw [if_pos h, if_pos (by omega)]
                      · rw [if_neg h, if_neg (by omega)]
                    rw [HIF.out] at HZ0
                    go_wp2_with fail
                    go_meet
                    case rel => exact HZ0
                case rest => as_aux_lemma =>
                  rename World => wv
                  have HZ1 : Hid (Z4 w wv T A P A Lt t c M vs FP X (.slice avb ys.length cvb) (if k < 2 then ys else os) (.slice avo os.length cvo) os) := hcut
                  clear HZ0 hcut
                  go_upto_if 136 with fail
                  go_cut [16] (fun nw wx => ∃ ns : List Nat, Hid (Z4 w wx T A P A Lt t c M vs FP X (.slice avb ys.length cvb) ns (.slice avo os.length cvo) os) ∧ Hid (∀ wy, Z4 w wy T A P A Lt t c M vs FP X (.slice avb ys.length cvb) ns (.slice avo os.length cvo) os → BSl wy nw ns) ∧ Hid (ns = if k + 1 ≤ 2 then ys else os) ∧ Hid (∀ x ∈ ns, x < 256))
                  case first => as_aux_lemma =>
                    by_cases hk2 : k < 2
                    · have g5 : ¬ (2 : Int) ≤ (k : Int) := by omega
                      rw [if_pos hk2] at HZ1
                      have HIF : Hid (ys = if k + 1 ≤ 2 then ys else os) := by show _ = _; rw [if_pos (by omega)]
                      go_wp2_with fail
                      go_meet
                      case rel => exact ⟨ys, HZ1, fun wy h => (HUM.out _ h.q).2, HIF, HYB⟩
                    · have g5 : (2 : Int) ≤ (k : Int) := by omega
                      rw [if_neg hk2] at HZ1
                      have HIF : Hid (os = if k + 1 ≤ 2 then ys else os) := by show _ = _; rw [if_neg (by omega)]
                      go_wp2_with fail
                      go_meet
                      case rel => exact ⟨os, HZ1, fun wy h => h.o.bsl HOB.out, HIF, HOB⟩
                  case rest => as_aux_lemma =>
                    rename World => wc
                    obtain ⟨ns, HZ, HNW, HNE, HNB⟩ := hcut
                    clear HZ1
                    have HRF := hide (fun wx v h => lFirst_any wx v ns h)
                    have HLP := hide (fun wx v h => parse4_any wx v ns h)
                    have HRP := hide (fun wx v h => lParse_any wx v ns h)
                    go_wp2_with fail
                    refine (first4_any wc _ ns (BSl.own HZ.out.p.own HNB.out)).mono ?_
                    rintro e wa ⟨rfl, hba⟩
                    generalize lfirst ns = lf at *
                    obtain ⟨x, n1, er1⟩ := lf
                    generalize lparse ns = lp at *
                    obtain ⟨p, er2⟩ := lp
                    simp only [lkv] at *
                    have HZa := hide ((HZ.out.below hba).below (below_alloc4 wa (.cells #[.int .i64 x.v, .int .u64 (x.c : Int), .int .u64 (x.h : Int), .string (nstr x.d)] 61)))
                    have HGa : Hid ((wa.alloc (.cells #[.int .i64 x.v, .int .u64 (x.c : Int), .int .u64 (x.h : Int), .string (nstr x.d)] 61)).heap[wa.heap.size]? = some (.cells (lcs x) 61 (0, 0))) := heap_alloc_new wa _
                    clear hba HZ
                    go_wp2_with fail
                    generalize wa.alloc (.cells #[.int .i64 x.v, .int .u64 (x.c : Int), .int .u64 (x.h : Int), .string (nstr x.d)] 61) = wb at *
                    generalize wa.heap.size = g1 at *
                    refine (HRF.out wb _ (HNW.out _ HZa.out)).mono ?_
                    rintro e wd ⟨rfl, hbd⟩
                    have HZd := hide ((HZa.out.below hbd).below (below_alloc4 wd (.cells #[.int .i64 x.v, .int .u64 (x.c : Int), .int .u64 (x.h : Int), .string (nstr x.d)] 61)))
                    have HGd : Hid ((wd.alloc (.cells #[.int .i64 x.v, .int .u64 (x.c : Int), .int .u64 (x.h : Int), .string (nstr x.d)] 61)).heap[g1]? = some (.cells (lcs x) 61 (0, 0))) := blk_alloc _ ((hbd.block _ (blk_lt HGa.out)).trans HGa.out)
                    have HHd : Hid ((wd.alloc (.cells #[.int .i64 x.v, .int .u64 (x.c : Int), .int .u64 (x.h : Int), .string (nstr x.d)] 61)).heap[wd.heap.size]? = some (.cells (lcs x) 61 (0, 0))) := heap_alloc_new wd _
                    clear hbd HZa HGa HRF
                    go_wp2_with fail
                    generalize wd.alloc (.cells #[.int .i64 x.v, .int .u64 (x.c : Int), .int .u64 (x.h : Int), .string (nstr x.d)] 61) = we at *
                    generalize wd.heap.size = g2 at *
                    refine (HLP.out we _ (BSl.own HZd.out.p.own HNB.out)).mono ?_
                    rintro e wf ⟨rfl, hbf⟩
                    have HZf := hide ((HZd.out.below hbf).below (below_alloc4 wf (.cells #[.int .i64 p.v, .int .u64 (p.c : Int), .int .u64 (p.h : Int), .string (nstr p.d)] 61)))
                    have HGf : Hid ((wf.alloc (.cells #[.int .i64 p.v, .int .u64 (p.c : Int), .int .u64 (p.h : Int), .string (nstr p.d)] 61)).heap[g1]? = some (.cells (lcs x) 61 (0, 0))) := blk_alloc _ ((hbf.block _ (blk_lt HGd.out)).trans HGd.out)
                    have HHf : Hid ((wf.alloc (.cells #[.int .i64 p.v, .int .u64 (p.c : Int), .int .u64 (p.h : Int), .string (nstr p.d)] 61)).heap[g2]? = some (.cells (lcs x) 61 (0, 0))) := blk_alloc _ ((hbf.block _ (blk_lt HHd.out)).trans HHd.out)
                    have HIf : Hid ((wf.alloc (.cells #[.int .i64 p.v, .int .u64 (p.c : Int), .int .u64 (p.h : Int), .string (nstr p.d)] 61)).heap[wf.heap.size]? = some (.cells (lcs p) 61 (0, 0))) := heap_alloc_new wf _
                    clear hbf HZd HGd HHd HLP
                    go_wp2_with fail
                    generalize wf.alloc (.cells #[.int .i64 p.v, .int .u64 (p.c : Int), .int .u64 (p.h : Int), .string (nstr p.d)] 61) = wg at *
                    generalize wf.heap.size = g3 at *
                    refine (HRP.out wg _ (HNW.out _ HZf.out)).mono ?_
                    rintro e wh ⟨rfl, hbh⟩
                    have HZh := hide ((HZf.out.below hbh).below (below_alloc4 wh (.cells #[.int .i64 p.v, .int .u64 (p.c : Int), .int .u64 (p.h : Int), .string (nstr p.d)] 61)))
                    have HGh : Hid ((wh.alloc (.cells #[.int .i64 p.v, .int .u64 (p.c : Int), .int .u64 (p.h : Int), .string (nstr p.d)] 61)).heap[g1]? = some (.cells (lcs x) 61 (0, 0))) := blk_alloc _ ((hbh.block _ (blk_lt HGf.out)).trans HGf.out)
                    have HHh : Hid ((wh.alloc (.cells #[.int .i64 p.v, .int .u64 (p.c : Int), .int .u64 (p.h : Int), .string (nstr p.d)] 61)).heap[g2]? = some (.cells (lcs x) 61 (0, 0))) := blk_alloc _ ((hbh.block _ (blk_lt HHf.out)).trans HHf.out)
                    have HIh : Hid ((wh.alloc (.cells #[.int .i64 p.v, .int .u64 (p.c : Int), .int .u64 (p.h : Int), .string (nstr p.d)] 61)).heap[g3]? = some (.cells (lcs p) 61 (0, 0))) := blk_alloc _ ((hbh.block _ (blk_lt HIf.out)).trans HIf.out)
                    have HJh : Hid ((wh.alloc (.cells #[.int .i64 p.v, .int .u64 (p.c : Int), .int .u64 (p.h : Int), .string (nstr p.d)] 61)).heap[wh.heap.size]? = some (.cells (lcs p) 61 (0, 0))) := heap_alloc_new wh _
                    clear hbh HZf HGf HHf HIf HRP
                    have HEX := hide (fun wx => eqlk_self wx x)
                    have HEP := hide (fun wx => eqlk_self wx p)
                    go_wp2_with (first
                      | (refine wpList_loadLk rfl rfl g1 _ rfl rfl HGh.out ?_)
                      | (refine wpList_loadLk rfl rfl g2 _ rfl rfl HHh.out ?_)
                      | (refine wpList_loadLk rfl rfl g3 _ rfl rfl HIh.out ?_)
                      | (refine wpList_loadLk rfl rfl wh.heap.size _ rfl rfl HJh.out ?_)
                      | (refine wpList_nelk rfl rfl _ _ true rfl rfl (HEX.out _) ?_)
                      | (refine wpList_nelk rfl rfl _ _ true rfl rfl (HEP.out _) ?_)
                      | (go_at_call 6; refine (num4_any _ _).mono ?_; rintro e wn ⟨rfl, rfl⟩))
                    clear HGh HHh HIh HJh HEX HEP
                    generalize wh.alloc (.cells #[.int .i64 p.v, .int .u64 (p.c : Int), .int .u64 (p.h : Int), .string (nstr p.d)] 61) = wi at *
                    refine (eq_sameZ wi _ _ ns (BSl.own HZh.out.p.own HNB.out) (HNW.out _ HZh.out)).mono ?_
                    rintro e wj ⟨rfl, hbj⟩
                    have HZj := hide (HZh.out.below hbj)
                    rw [HNE.out] at HZj
                    clear hbj HZh
                    go_wp2_with fail
                    go_roundw
                    case rel => exact ⟨k + 1, by omega, by go_num, HZj⟩
                    case measure => simp [intOf]; omega
              · as_aux_lemma =>
                have g3 : ¬ (k : Int) < 4 := by omega
                have hk44 : k = 4 := by omega
                have HQ := hide HZ0.out.q
                have HX := hide HZ0.out.x
                clear HZ0
                go_wp2_with fail
                refine (lend_any wk _ ys (HUM.out _ HQ.out).2 HYL.out).mono ?_
                rintro e w7 ⟨gx, cx, rfl, ho7, hb7⟩
                have HL7 : Hid (Lnt w7 wk.heap.size gx cx ys) := ⟨ho7, HYB.out, HYL.out⟩
                have HQ7 := hide (HQ.out.below hb7)
                have HX7 := hide (HX.out.below hb7)
                clear ho7 hb7 cu q2 HQ HX
                go_wp2_with fail
                refine (first4_any w7 _ ys HL7.out.bsl).mono ?_
                rintro e w8 ⟨rfl, hb8⟩
                have HL8 := hide (HL7.out.belowZ hb8)
                have HQ8 := hide (HQ7.out.below hb8)
                have HX8 := hide (HX7.out.below hb8)
                clear hb8 HL7 HQ7 HX7
                go_wp2_with fail
                refine (parse4_any w8 _ ys HL8.out.bsl).mono ?_
                rintro e w9 ⟨rfl, hb9⟩
                have HL9 := hide (HL8.out.belowZ hb9)
                have HQ9 := hide (HQ8.out.below hb9)
                have HX9 := hide (HX8.out.below hb9)
                clear hb9 HL8 HQ8 HX8
                have cu := (HUM.out _ HQ9.out).1
                have q2 := HT2.out _ HQ9.out
                go_wp2_with fail
                refine (intactZ HL9.out _ (HUM.out _ HQ9.out).2).mono ?_
                rintro e wa ⟨rfl, hba⟩
                have HQa := hide (HQ9.out.below hba)
                have HXa := hide (HX9.out.below hba)
                clear hba cu q2 HQ9 HX9 HL9
                go_wp2_with fail
                go_roundw
                case rel => exact ⟨j + 1, FP, X, by omega, by omega, by go_num, HQa, HXa⟩
                case measure => simp [intOf]; omega
          · as_aux_lemma =>
            have g0 : ¬ (j : Int) < (nB : Int) ∨ ((j : Int) < (nB : Int) ∧ ¬ (j : Int) < 1000) := by omega
            have HSB : Hid (t + c + 1 < 68719476736) := by have := HTC8.out; show _ < _; omega
            rcases g0 with g1 | ⟨g1, g2⟩
            all_goals (
              go_wp2_with fail
              refine (settle_any HX.out.h HX.out.az 0 HSB.out).mono ?_
              rintro e w4 ⟨rfl, hpost⟩
              obtain ⟨t4, c4, ht4, hhs4, hkp4⟩ := hpost.out
              obtain ⟨F, G, hbk4, hlt4, hd4, hx4⟩ := hhs4
              have HBK := hide hbk4
              have HXX := hide hx4
              have HQ4 := hide (HQ.out.kp hkp4 (fun q e => e.1))
              have HS5 : Hid (A ≤ w4.heap.size) := Nat.le_trans HX.out.az hkp4.size
              clear hpost hbk4 hlt4 hd4 hx4 hkp4 ht4
              go_wp2_with fail
              refine (look_any HBK.out HS5.out).mono ?_
              rintro e w5 ⟨rfl, hpost⟩
              have HQ5 := hide (HQ4.out.kp hpost.out.2 (fun q hf => (HXX.out q (.inl hf)).1))
              clear hpost
              go_wp2_with fail
              refine (begun4_any w5 HQ5.out.c).mono ?_
              rintro e w9 ⟨rfl, hb9⟩
              have HB9 : Hid (Below w.heap.size w w9) := HQ5.out.l.trans (hb9.mono HQ5.out.l.size)
              clear hb9
              go_wp2_with fail
              go_ret
              exact ⟨rfl, HB9.out⟩))
end
section
open Go.ChangeShapes Go.WideShapes Go.ChangeAt Go.RowKit Go.Deep Go.Joins
set_option maxRecDepth 100000 in
theorem llaid_lifted (os : Os) (started : os.Started) (H : Type) (enc : TypeId × Value → H) :
    ReturnsInHanded {} Tryz.checked os 3 .any (fun w args => (Rows.linkLaidSpec.pre enc Tryz.prog Tryz.f3 Rows.linkLaidRow.domain false w args ∧ laidMet Tryz.prog Rows.linkLaidRow.laid w) ∧ sizedMet enc Tryz.prog Tryz.f3 (OpenSpec.ofChange Rows.linkLaidSpec) false w args)
      (Rows.linkLaidSpec.post enc Tryz.prog Tryz.f3 false true false false) := by
  refine returnsInHanded_of_change_and (C := Tryz.checked) (X := fun w _ => laidMet Tryz.prog Rows.linkLaidRow.laid w) (fun _ _ _ hh h => h.of_heap hh) Tryz.own started (by kernel_rfl) Tryz.func3
    (ChangeSpec.witness_at (enc := enc) (C := Tryz.checked) (os := os) (X := fun w _ => laidMet Tryz.prog Rows.linkLaidRow.laid w) false (laidWorld os) #[.agg #[.slice none 0 0, .slice none 0 0, .slice none 0 0, .slice none 0 0, .slice none 0 0]] 8 rfl (by kernel_rfl) (by kernel_rfl) (by kernel_rfl) (by kernel_rfl) (by kernel_rfl) (laid_met os _)) ?_
  intro W base args ds gs before hval0 hW _ hsz0 hLd _
  have hval : ∀ (j : Nat) t v, Tryz.f3.params[j]? = some t → args[j]? = some v → Value.okWide Tryz.prog W .any base t v := hval0
  have hsz : (DataW.weightsEach Tryz.prog (Tryz.f3.params.toList ++ Rows.linkLaidSpec.plain.varTypes Tryz.prog) (ds ++ gs)).all (· ≤ reachBytes) = true := hsz0
  have hW' := hW
  have hcb : Cb W := cb_of_laid hLd
  obtain ⟨p, q, hA0, hV, rfl, hfz, hnd⟩ := hW
  have hA : DataW.TrodAll enc Tryz.prog W 0 (fun _ => true) true Tryz.f3.params.toList args.toList ds p := hA0
  rw [Tryz.params3] at hA hval hsz
  obtain ⟨v0, d0, rfl, rfl, h0⟩ := trodAll_one hA
  obtain ⟨rfl, rfl⟩ := trodVars_none hV
  have k0 := h0
  have lt0 : ∀ x ∈ p, x.block < W.heap.size := by obtain ⟨m, hm⟩ := k0; exact DataW.trod_lt m _ _ _ hm
  have hwalk : Calls Tryz.prog 3 #[v0] W fun e w' => e = .returned (.bool true) ∧ Below W.heap.size W w' := by
    have hs1 : (d0.weights Tryz.prog 28).all (· ≤ reachBytes) = true := by
      have e : DataW.weightsEach Tryz.prog ([28] ++ Rows.linkLaidSpec.plain.varTypes Tryz.prog) ([d0] ++ []) = d0.weights Tryz.prog 28 ++ DataW.weightsEach Tryz.prog (Rows.linkLaidSpec.plain.varTypes Tryz.prog) [] := rfl
      rw [e, List.all_append, Bool.and_eq_true] at hsz
      exact hsz.1
    obtain ⟨aL, nL, cL, v1, aB, nB, cB, aS, nS, cS, v4, rfl, hL, hB, hS⟩ := links_arg (hval 0 28 v0 rfl rfl) h0 hs1
    exact llaid_any W v1 _ v4 aL aB nL cL nB cB hcb hL hB
  clear hA0 hval0
  refine hwalk.mono fun e W' ⟨he, bel⟩ => ?_
  subst he
  exact ⟨_, rfl, _, _, _, [], _, [], hW', trodAll_mk1 (shut_bool Tryz.underlying4 _), trodAll_mk1 (Below.trod Tryz.laidOut (by kernel_rfl) (of_decide_eq_true (by kernel_rfl)) k0 bel lt0), rfl, bel.frame _, fun h => by cases h⟩

theorem llaid_row : Rows.LinkLaidSaid :=
  OpenClaim.holds_of_wide 3 Tryz.f3 rfl rfl rfl rfl rfl rfl rfl ⟨rfl, rfl, rfl, rfl, rfl⟩ rfl rfl rfl rfl rfl (by kernel_rfl) Tryz.func3 (by kernel_rfl)
    (of_decide_eq_true (by kernel_rfl)) (by unfold Func.isWrapper; first | (rw [if_pos (by decide +kernel)]; kernel_rfl) | (rw [if_neg (by decide +kernel)]; exact ⟨rfl, rfl⟩))
    (fun os started H enc _ => llaid_lifted os started H enc)

theorem llaid_holds : Rows.LinkLaidCardSaid :=
  Claim7.holds_tied_plain_at .later [] [.data] true (true, "6ed32a4361647c0d976c5a5506a84674c42b21c4307dd604803f34c319d23edc") false
    llaid_row (fun _ h => by cases h) (by kernel_rfl) (fun _ h => by cases h) linkLaid_row_tie rfl ⟨rfl, rfl⟩ (by kernel_rfl) rfl
    (fun f fn hf hfn => by
      obtain rfl : f = 3 := Option.some.inj ((show Tryz.prog.funcNamed "trellis/trellislaw4.LinkLaid" = some 3 by kernel_rfl).symm.trans hf) |>.symm
      obtain rfl : fn = Tryz.f3 := (Option.some.inj (Tryz.func3.symm.trans hfn)).symm
      exact ⟨by kernel_rfl, fun j t ht => by
        rw [Tryz.params3] at ht
        have h3 : t = 28 := by
          rcases j with _ | j
          · simpa using ht.symm
          · simp at ht
        subst h3
        exact (show Tryz.prog.wantsStandIn 28 = false by kernel_rfl)⟩)
    (by kernel_rfl)
#print axioms llaid_holds
end
end Go.Proofs.YtidglddjinfncaaGreatDoor
