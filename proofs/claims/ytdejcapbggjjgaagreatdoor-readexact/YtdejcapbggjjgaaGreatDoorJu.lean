import Derived.Test.YtdejcapbggjjgaaGreatDoorJq
namespace Go.Proofs.YtdejcapbggjjgaaGreatDoor
section
open Go.RowKit Go
theorem wp_scope_four {P : Program} {a : Act} {w : World} {Q : Exit → Act → World → Prop} {c r0 r1 r2 r3 : Code} (J : Nat → Nat → Act → World → Prop) (hl : ∀ n l a w, J n l a w → l < 4)
    (h0 : findLabel c 0 = some (Code.skip.seq r0)) (h1 : findLabel c 1 = some (Code.skip.seq r1)) (h2 : findLabel c 2 = some (Code.skip.seq r2)) (h3 : findLabel c 3 = some (Code.skip.seq r3))
    (p2 : ∀ n a w, J n 2 a w → r2.wp P (jumps (fun l' a' w' => ∃ m, m < n ∧ J m l' a' w') Q) a w)
    (p3 : Hid (∀ n a w, J n 2 a w → r2.wp P (jumps (fun l' a' w' => ∃ m, m < n ∧ J m l' a' w') Q) a w) → ∀ n a w, J n 3 a w → r3.wp P (jumps (fun l' a' w' => ∃ m, m < n ∧ J m l' a' w') Q) a w)
    (p1 : Hid (∀ n a w, J n 3 a w → r3.wp P (jumps (fun l' a' w' => ∃ m, m < n ∧ J m l' a' w') Q) a w) → ∀ n a w, J n 1 a w → r1.wp P (jumps (fun l' a' w' => ∃ m, m < n ∧ J m l' a' w') Q) a w)
    (p0 : ∀ n a w, J n 0 a w → r0.wp P (jumps (fun l' a' w' => ∃ m, m < n ∧ J m l' a' w') Q) a w)
    (first : Hid (∀ n a w, J n 0 a w → r0.wp P (jumps (fun l a w => ∃ n, J n l a w) Q) a w) → c.wp P (jumps (fun l a w => ∃ n, J n l a w) Q) a w) : (Code.scope c).wp P Q a w := by
  have q3 := p3 p2
  have q1 := p1 q3
  refine wp_scope_many J (fun l => if l = 0 then Code.skip.seq r0 else if l = 1 then Code.skip.seq r1 else if l = 2 then Code.skip.seq r2 else Code.skip.seq r3) (fun n l a w h => ?_) (fun n l a w h => ?_) (first (fun n a w h => Code.wp_mono (jumps_mono (fun l a w ⟨m, _, hm⟩ => ⟨m, hm⟩)) (p0 n a w h)))
  · have h4 := hl n l a w h
    have h5 : l = 0 ∨ l = 1 ∨ l = 2 ∨ l = 3 := by omega
    rcases h5 with rfl | rfl | rfl | rfl
    · exact h0
    · exact h1
    · exact h2
    · exact h3
  · have h4 := hl n l a w h
    have h5 : l = 0 ∨ l = 1 ∨ l = 2 ∨ l = 3 := by omega
    rcases h5 with rfl | rfl | rfl | rfl
    · exact wp_seq (wp_skip (p0 n a w h))
    · exact wp_seq (wp_skip (q1 n a w h))
    · exact wp_seq (wp_skip (p2 n a w h))
    · exact wp_seq (wp_skip (q3 n a w h))
def RJ8 (w0 : World) (M : Nat) (vB : Value) (b : List Nat) (d : Nat) (R : Res) (n l : Nat) (a' : Act) (w' : World) : Prop := ∃ (s : Mst) (u1 u6 u7 u8 u9 u10 u11 u12 u13 u14 u15 u16 u17 u18 u19 u20 u21 u22 u23 u24 u25 u26 u27 u28 u29 u30 u31 u32 u33 u34 u35 u36 u37 u38 u39 u40 u41 u42 u43 u44 u45 u46 u47 u48 u49 u50 u51 u52 u53 u54 u55 u56 u57 u58 u59 u60 u61 u62 u63 u64 u65 u66 u67 u68 u69 u70 u71 u72 u73 u74 u75 u76 u77 u78 u79 u80 u81 u82 u83 u84 u85 : Value), Lb8 l s.lab ∧ mrun b d n s = some R ∧ Run8 w0 M vB b d s w' ∧ a' = { tmps := #[.pointer (some ⟨M, 0, none⟩), u1, .pointer (some ⟨w0.heap.size, 0, none⟩), .int .i64 0, .pointer (some ⟨w0.heap.size + 1, 0, none⟩), .pointer (some ⟨w0.heap.size + 2, 0, none⟩), u6, u7, u8, u9, u10, u11, u12, u13, u14, u15, u16, u17, u18, u19, u20, u21, u22, u23, u24, u25, u26, u27, u28, u29, u30, u31, u32, u33, u34, u35, u36, u37, u38, u39, u40, u41, u42, u43, u44, u45, u46, u47, u48, u49, u50, u51, u52, u53, u54, u55, u56, u57, u58, u59, u60, u61, u62, u63, u64, u65, u66, u67, u68, u69, u70, u71, u72, u73, u74, u75, u76, u77, u78, u79, u80, u81, u82, u83, u84, u85], defers := [] }
theorem RJ8.mk {w0 : World} {M : Nat} {vB : Value} {b : List Nat} {d : Nat} {R : Res} {n l : Nat} {a' : Act} {w' : World} {u1 u6 u7 u8 u9 u10 u11 u12 u13 u14 u15 u16 u17 u18 u19 u20 u21 u22 u23 u24 u25 u26 u27 u28 u29 u30 u31 u32 u33 u34 u35 u36 u37 u38 u39 u40 u41 u42 u43 u44 u45 u46 u47 u48 u49 u50 u51 u52 u53 u54 u55 u56 u57 u58 u59 u60 u61 u62 u63 u64 u65 u66 u67 u68 u69 u70 u71 u72 u73 u74 u75 u76 u77 u78 u79 u80 u81 u82 u83 u84 u85 : Value} (s : Mst) (h1 : Lb8 l s.lab) (h2 : mrun b d n s = some R) (h3 : Run8 w0 M vB b d s w') (h4 : a' = { tmps := #[.pointer (some ⟨M, 0, none⟩), u1, .pointer (some ⟨w0.heap.size, 0, none⟩), .int .i64 0, .pointer (some ⟨w0.heap.size + 1, 0, none⟩), .pointer (some ⟨w0.heap.size + 2, 0, none⟩), u6, u7, u8, u9, u10, u11, u12, u13, u14, u15, u16, u17, u18, u19, u20, u21, u22, u23, u24, u25, u26, u27, u28, u29, u30, u31, u32, u33, u34, u35, u36, u37, u38, u39, u40, u41, u42, u43, u44, u45, u46, u47, u48, u49, u50, u51, u52, u53, u54, u55, u56, u57, u58, u59, u60, u61, u62, u63, u64, u65, u66, u67, u68, u69, u70, u71, u72, u73, u74, u75, u76, u77, u78, u79, u80, u81, u82, u83, u84, u85], defers := [] }) : RJ8 w0 M vB b d R n l a' w' := ⟨s, u1, u6, u7, u8, u9, u10, u11, u12, u13, u14, u15, u16, u17, u18, u19, u20, u21, u22, u23, u24, u25, u26, u27, u28, u29, u30, u31, u32, u33, u34, u35, u36, u37, u38, u39, u40, u41, u42, u43, u44, u45, u46, u47, u48, u49, u50, u51, u52, u53, u54, u55, u56, u57, u58, u59, u60, u61, u62, u63, u64, u65, u66, u67, u68, u69, u70, u71, u72, u73, u74, u75, u76, u77, u78, u79, u80, u81, u82, u83, u84, u85, h1, h2, h3, h4⟩
set_option maxRecDepth 1000000 in
set_option maxHeartbeats 4000000 in
theorem run8_any (W : World) (hT : Tabs W) (w0 : World) (hW : Below W.heap.size W w0) (M : Nat) (hWM : W.heap.size ≤ M) (hM : M < w0.heap.size) (vB : Value) (b : List Nat) (hB : BSl w0 vB b) (hBq : ∀ q, vB.ownBlock = some q → q < w0.heap.size ∧ q ≠ M) (hbl : b.length ≤ 8388608) (d : Nat) (hd : d ≤ 4096) (hm : w0.heap[M]? = some (.cells #[vB, .int .i64 0, .int .i64 (d : Nat), .slice none 0 0] 74 (0, 0))) (N : Nat) (R : Res) (hR : mrun b d N m0 = some R) :
    Calls Tryz.prog 22 #[.pointer (some ⟨M, 0, none⟩)] w0 (RunP w0 M vB d R) := by
  have HT := hide hT
  have HWW := hide hW
  have HWM := hide hWM
  have HM := hide hM
  have HB := hide hB
  have HBq := hide hBq
  have HBL := hide hbl
  have HD := hide hd
  have HMM := hide hm
  have HRR := hide hR
  have HND : Hid (∀ p, (hrd (b.drop p)).n < 18446744073709551616) := fun p => (hrd_bd _ (fun x hx => hB.byte x (List.mem_of_mem_drop hx))).1
  clear hT hW hWM hM hB hBq hbl hd hm hR
  go_enter Tryz.func22, Tryz.ntmps22
  go_wp2_with fail
  refine wp_scope_four (RJ8 w0 M vB b d R) ?_ rfl rfl rfl rfl ?_ ?_ ?_ ?_ ?_
  · rintro n l a w ⟨s, u1, u6, u7, u8, u9, u10, u11, u12, u13, u14, u15, u16, u17, u18, u19, u20, u21, u22, u23, u24, u25, u26, u27, u28, u29, u30, u31, u32, u33, u34, u35, u36, u37, u38, u39, u40, u41, u42, u43, u44, u45, u46, u47, u48, u49, u50, u51, u52, u53, u54, u55, u56, u57, u58, u59, u60, u61, u62, u63, u64, u65, u66, u67, u68, u69, u70, u71, u72, u73, u74, u75, u76, u77, u78, u79, u80, u81, u82, u83, u84, u85, hl, -⟩
    rcases s with ⟨lab, p, st⟩
    rcases l with _ | _ | _ | _ | l <;> first | omega | (cases lab <;> exact hl.elim)
  · -- inside
    rintro n a w ⟨s, u1, u6, u7, u8, u9, u10, u11, u12, u13, u14, u15, u16, u17, u18, u19, u20, u21, u22, u23, u24, u25, u26, u27, u28, u29, u30, u31, u32, u33, u34, u35, u36, u37, u38, u39, u40, u41, u42, u43, u44, u45, u46, u47, u48, u49, u50, u51, u52, u53, u54, u55, u56, u57, u58, u59, u60, u61, u62, u63, u64, u65, u66, u67, u68, u69, u70, u71, u72, u73, u74, u75, u76, u77, u78, u79, u80, u81, u82, u83, u84, u85, hl, hrn, ⟨hinv, vo, C, K, I, L, ci, cv, hx⟩, rfl⟩
    obtain ⟨lab, p, st⟩ := s
    rcases lab with _ | _ | v | _
    · exact False.elim hl
    · exact False.elim hl
    · exact False.elim hl
    obtain ⟨m, rfl⟩ := mrun_pos hrn
    rcases st with _ | ⟨x, q⟩
    · exact absurd rfl (hinv.i rfl)
    have HRN := hide hrn
    have HIV := hide hinv
    obtain ⟨Q, hQ⟩ : ∃ Q, Q = q.reverse := ⟨_, rfl⟩
    have hma : Mac w (w0.heap.size + 3) M vB b d p vo (Q ++ [x]) C K I L := by rw [hQ, ← List.reverse_cons]; exact hx.m
    obtain ⟨-, -, -, g, cap, hvo, hcap, hlg⟩ := hma.o.row
    subst hvo
    have hql : Q.length ≤ 4096 := by
      rw [hQ, List.length_reverse]
      have h1 : (x :: q).length ≤ d := hinv.d
      have h2 := HD.out
      rw [List.length_cons] at h1
      omega
    have HQ := hide hQ
    have HX := hide hx
    have HMA := hide hma
    have HQL := hide hql
    clear hx hma hinv hrn hl hcap hlg hQ
    go_wp2_with fail
    refine (top_any w M g (Q.length + 1) cap vB _ _ HMA.out.m (by omega) (by omega)).mono ?_
    rintro e w1 ⟨rfl, hb1, -⟩
    rw [Nat.add_sub_cancel]
    have HX1 := hide (HX.out.next hb1)
    have HM1 := hide (HMA.out.next hb1)
    have c13 : w1.cell? ⟨g, Q.length * 14 + 13, none⟩ = some (.int .u64 (x.n : Nat)) := HM1.out.o.cell.1 13 _ rfl
    clear hb1 HX HMA
    by_cases hn : x.n = 0
    · as_aux_lemma =>
      have gn : ((x.n : Int) == 0) = true := beq_iff_eq.2 (by omega)
      have HS : Hid (mstep b d ⟨.inside, p, x :: q⟩ = .inl ⟨.done x.val, p, q⟩) := by show _ = _; unfold mstep; dsimp only; rw [if_pos hn]
      clear hn
      go_wp2_with fail
      refine (end8_any w1 _ M vB b d p _ Q x C K I L HM1.out (by have := HQL.out; omega)).mono ?_
      rintro e w2 ⟨hk2, c, vo2, C2, K2, I2, L2, rfl, hM2, ht2⟩
      have HX2 := hide (HX1.out.call (lab := .plain) (p := p) (st := q) HM.out hk2 (fun _ h => by cases h) (by rw [← HQ.out]; exact hM2))
      have HT2 : Hid (Tio w2 (w0.heap.size + 3) (fun r => r < w0.heap.size + 3) vo2 q.reverse K2 I2 L2 x.val c) := by have h := HQ.out; rw [h] at ht2; exact ht2
      have HV2 := hide HX2.out.v
      have HIN : Hid ((Tryz.prog.info? 61).map (·.size) = some c.size) := by show _ = _; rw [HT2.out.1.tin.size13]; exact infoV
      have HZN : Hid (cv.size = c.size) := by show _ = _; rw [HT2.out.1.tin.size13]; exact HX2.out.vz
      have HAN := hide HT2.out.1.tin.all1
      clear hk2 hM2 ht2 c13
      go_wp2_with (refine wpList_storeRow rfl rfl (w0.heap.size + 2) cv c 61 rfl rfl HV2.out HIN.out HZN.out HAN.out ?_)
      go_step3
      show ∃ m', m' < m + 1 ∧ _
      refine ⟨m, by omega, RJ8.mk ⟨.done x.val, p, q⟩ trivial ?_ ⟨(HIV.out.step HND.out HS.out).1, _, _, _, _, _, _, _, HX2.out.put HM.out HBq.out HT2.out⟩ rfl⟩
      have h := HRN.out
      rw [mrun_next HS.out] at h
      exact h
    have gn : ((x.n : Int) == 0) = false := beq_eq_false_iff_ne.2 (by omega)
    go_wp2_with fail
    refine (top_any w1 M g (Q.length + 1) cap vB _ _ HM1.out.m (by omega) (by omega)).mono ?_
    rintro e w2 ⟨rfl, hb2, -⟩
    rw [Nat.add_sub_cancel]
    have HX2 := hide (HX1.out.next hb2)
    have HM2 := hide (HM1.out.next hb2)
    have c0 : w2.cell? ⟨g, Q.length * 14 + 0, none⟩ = some (.int .i64 x.k) := HM2.out.o.cell.1 0 _ rfl
    rw [Nat.add_zero] at c0
    clear hb2 HX1 HM1 c13
    by_cases h8 : x.k = 8
    · as_aux_lemma =>
      have g8 : (x.k == 8) = true := beq_iff_eq.2 h8
      have HS : Hid (mstep b d ⟨.inside, p, x :: q⟩ = .inl ⟨.plain, p, x :: q⟩) := by show _ = _; unfold mstep; dsimp only; rw [if_neg hn, if_pos h8]
      clear hn h8
      go_wp2_with fail
      go_step3
      show ∃ m', m' < m + 1 ∧ _
      refine ⟨m, by omega, RJ8.mk ⟨.plain, p, x :: q⟩ trivial ?_ ⟨(HIV.out.step HND.out HS.out).1, _, _, _, _, _, _, _, HX2.out.lab (fun _ h => by cases h)⟩ rfl⟩
      have h := HRN.out
      rw [mrun_next HS.out] at h
      exact h
    have g8 : (x.k == 8) = false := beq_eq_false_iff_ne.2 h8
    have HN0 := hide hn
    have HN8 := hide h8
    have hkx := HIV.out.k x (List.mem_cons_self ..)
    have hpl : p ≤ b.length := HIV.out.p
    have HWB : Hid (Below W.heap.size W w2) := HWW.out.trans (HX2.out.k.below HWW.out.size (fun q e => by have := HWM.out; omega))
    have HTK := hide (take8_any W HT.out w2 _ M vB b d p _ (Q ++ [x]) C K I L HM2.out HWB.out (by have := HBL.out; omega) hpl (by rw [List.length_append, List.length_singleton]; omega) 1 x.ks (fun _ => ⟨Q, x, rfl, rfl, by have h1 : x.ks.length ≤ p := hkx.1; have := HBL.out; omega⟩))
    clear hn h8 hkx hpl
    go_wp2_with fail
    clear c0
    refine HTK.out.mono ?_
    rintro e w3 ⟨hk3, c, hcz, hca, rfl, hbad, hgood⟩
    have hlen : (Q ++ [x]).length = (x :: q).length := by rw [HQ.out, ← List.reverse_cons, List.length_reverse]
    have hst : Q ++ [x] = (x :: q).reverse := by rw [HQ.out, ← List.reverse_cons]
    rw [hlen, hst] at hbad hgood
    rw [hlen]
    have HTO := hide (HX2.out.took HM.out HBq.out hk3 hbad hgood)
    have HSM : Hid (mstep b d ⟨.inside, p, x :: q⟩ = if rtake 1 (decide ((x :: q).length = d)) x.ks (b.drop p) ≠ 0 then .inr ⟨rtake 1 (decide ((x :: q).length = d)) x.ks (b.drop p), p, tz8 0⟩ else .inl ⟨.plain, p + rused (b.drop p), ⟨x.k, x.ks ++ [nstr (rbody (b.drop p))], x.is, x.n⟩ :: q⟩) := by show _ = _; unfold mstep; dsimp only; rw [if_neg HN0.out, if_neg HN8.out]
    have HRK : Hid (rtake 1 (decide ((x :: q).length = d)) x.ks (b.drop p) = 0 → rlook 1 (b.drop p) = 0) := fun h => (rtake_look h).1
    have HI3 := hide HTO.out.1
    have HIN : Hid ((Tryz.prog.info? 89).map (·.size) = some c.size) := by show _ = _; rw [hcz]; exact infoI
    have HZN : Hid (ci.size = c.size) := by show _ = _; rw [hcz]; exact HX2.out.iz
    have HCA := hide hca
    have HR3 := hide HTO.out.2.1
    have HIR : Hid ((Tryz.prog.info? 61).map (·.size) = some zv.size) := infoV
    have HZA := hide zv_all8
    clear hk3 hbad hgood hlen hst hcz hca HTK
    generalize hrt : rtake 1 (decide ((x :: q).length = d)) x.ks (b.drop p) = rt at *
    clear hrt
    by_cases h0 : rt = 0
    case neg => as_aux_lemma =>
      have gk : ((rt : Int) != 0) = true := by rw [bne_iff_ne]; omega
      have HMB := hide (HTO.out.2.2.2.1 h0)
      have HRE : Hid (R = ⟨rt, p, tz8 0⟩) := by
        have h := HRN.out
        have h2 := HSM.out
        rw [if_pos h0] at h2
        rw [mrun_end h2] at h
        injection h with h
        exact h.symm
      have HKF := hide HTO.out.2.2.1
      clear h0
      go_wp2_with (first
        | (refine wpList_storeRow rfl rfl (w0.heap.size + 1) ci c 89 rfl rfl HI3.out HIN.out HZN.out HCA.out ?_)
        | (refine wpList_storeRow rfl rfl w0.heap.size zv zv 61 rfl rfl HR3.out HIR.out rfl HZA.out ?_))
      rw [jumps_ret]
      exact bodyPost_ret (end_run rfl (row_same HR3.out) rfl rfl) rfl (Rex.bad HMB.out HM.out HKF.out HRE.out)
    as_aux_lemma =>
      have gk : ((rt : Int) != 0) = false := by rw [bne_eq_false_iff_eq]; omega
      obtain ⟨vb, hc, hvb, hx4⟩ := HTO.out.2.2.2.2 h0
      have HS : Hid (mstep b d ⟨.inside, p, x :: q⟩ = .inl ⟨.plain, p + rused (b.drop p), ⟨x.k, x.ks ++ [nstr (rbody (b.drop p))], x.is, x.n⟩ :: q⟩) := by show _ = _; rw [HSM.out, if_neg (fun h => h h0)]
      have HTX : Hid (rtext (hrd (b.drop p)) (rbody (b.drop p)) ⟨#[]⟩ = nstr (rbody (b.drop p))) := by
        show _ = _
        unfold rtext
        rw [if_pos (rlook_key (HRK.out h0) rfl)]
      have HX4 := hide hx4
      have HM4 : Hid (Mac (w3.setRow (w0.heap.size + 1) c) (w0.heap.size + 3) M vB b d (p + rused (b.drop p)) (.slice (some ⟨g, 0, none⟩) (Q.length + 1) cap) (Q ++ [x]) C K I L) := by
        have h := hx4.m
        simp only [List.reverse_cons] at h
        rw [← HQ.out] at h
        exact h
      have c6 : (w3.setRow (w0.heap.size + 1) c).cell? ⟨w0.heap.size + 1, 6, none⟩ = some (.string (nstr (rbody (b.drop p)))) := blk_cell (j := 6) hx4.i (by rw [hc, HTX.out]; rfl)
      have HBZ : Hid ((nstr (rbody (b.drop p))).size ≤ 140737488351232) := by
        show _ ≤ _
        have e : (nstr (rbody (b.drop p))).size = (rbody (b.drop p)).length := nstr_size hvb.byte
        rw [e]
        have h1 : (rbody (b.drop p)).length ≤ b.length := by
          unfold rbody
          split
          · rw [List.length_take, List.length_drop, List.length_drop]; omega
          · exact Nat.zero_le _
        have := HBL.out
        omega
      have hkx := HIV.out.k x (List.mem_cons_self ..)
      have HAK := hide (addkey8_any (w3.setRow (w0.heap.size + 1) c) _ M vB b d (p + rused (b.drop p)) _ Q x C K I L HM4.out (by have := HQL.out; omega) (nstr (rbody (b.drop p))) HBZ.out (by have h1 : x.ks.length ≤ p := hkx.1; have h2 : p ≤ b.length := HIV.out.p; have := HBL.out; omega))
      clear h0 hc hvb hx4 hkx HTO HX2 HM2 HWB
      go_wp2_with (refine wpList_storeRow rfl rfl (w0.heap.size + 1) ci c 89 rfl rfl HI3.out HIN.out HZN.out HCA.out ?_)
      refine HAK.out.mono ?_
      rintro e w5 ⟨rfl, hk5, C5, K5, I5, L5, hM5⟩
      clear c6
      go_wp2_with fail
      go_step3
      show ∃ m', m' < m + 1 ∧ _
      refine ⟨m, by omega, RJ8.mk ⟨.plain, p + rused (b.drop p), ⟨x.k, x.ks ++ [nstr (rbody (b.drop p))], x.is, x.n⟩ :: q⟩ trivial ?_ ⟨(HIV.out.step HND.out HS.out).1, _, _, _, _, _, _, _, HX4.out.call HM.out (kp_lo hk5) (fun _ h => by cases h) (by rw [List.reverse_cons, ← HQ.out]; exact hM5)⟩ rfl⟩
      have h := HRN.out
      rw [mrun_next HS.out] at h
      exact h
  · -- done
    intro HP2
    rintro n a w ⟨s, u1, u6, u7, u8, u9, u10, u11, u12, u13, u14, u15, u16, u17, u18, u19, u20, u21, u22, u23, u24, u25, u26, u27, u28, u29, u30, u31, u32, u33, u34, u35, u36, u37, u38, u39, u40, u41, u42, u43, u44, u45, u46, u47, u48, u49, u50, u51, u52, u53, u54, u55, u56, u57, u58, u59, u60, u61, u62, u63, u64, u65, u66, u67, u68, u69, u70, u71, u72, u73, u74, u75, u76, u77, u78, u79, u80, u81, u82, u83, u84, u85, hl, hrn, ⟨hinv, vo, C, K, I, L, ci, cv, hx⟩, rfl⟩
    obtain ⟨lab, p, st⟩ := s
    rcases lab with _ | _ | v | _
    · exact False.elim hl
    · exact False.elim hl
    case inside => exact False.elim hl
    obtain ⟨m, rfl⟩ := mrun_pos hrn
    have HTV := hide (hx.t v rfl)
    have HVC : Hid (∀ j u, cv[j]? = some u → w.cell? ⟨w0.heap.size + 2, 0 + j, none⟩ = some u) := fun j u hu => by rw [Nat.zero_add]; exact blk_cell hx.v hu
    have HVZ := hide hx.vz
    have HIN : Hid ((Tryz.prog.info? 61).map (·.size) = some cv.size) := by show _ = _; rw [HVZ.out]; exact infoV
    have HZN : Hid (zv.size = cv.size) := by show _ = _; rw [HVZ.out]; rfl
    have HAN := hide HTV.out.1.tin.all1
    have HRB := hide hx.r
    rcases st with _ | ⟨x, q⟩
    · as_aux_lemma =>
      obtain ⟨ao, co, hvo⟩ := own_slice8 hx.m.o.o
      subst hvo
      have c3 : w.cell? ⟨M, 3, none⟩ = some (.slice ao 0 co) := blk_cell (j := 3) hx.m.m rfl
      have HRE : Hid (R = ⟨0, p, v⟩) := by
        rw [mrun_end (r := ⟨0, p, v⟩) rfl] at hrn
        injection hrn with h
        exact h.symm
      have HX := hide hx
      clear hx hrn hinv hl HP2
      go_wp2_with (first
        | (refine wpList_exec rfl (exec_valAt (g := w0.heap.size + 2) (off := 0) (cs := cv) rfl rfl HVZ.out HVC.out) ?_)
        | (refine wpList_storeRow rfl rfl w0.heap.size zv cv 61 rfl rfl HRB.out HIN.out HZN.out HAN.out ?_))
      rw [jumps_ret]
      have hkr := row_kp w w0.heap.size cv
      have hMl := HM.out
      exact bodyPost_ret (end_run HVZ.out (row_same HRB.out) rfl rfl) rfl (RunP.mk (r := ⟨0, p, v⟩) HRE.out (HX.out.k.trans hkr (fun q hq e => by omega)) ((hkr.block _ (blk_lt HX.out.m.m) (by omega)).trans HX.out.m.m) ((HTV.out.1.kp (hkr.mono (fun r _ e => .inl (by show r < _; omega)))).mono (fun q hq => .inl (by show q < _; omega))) (by obtain ⟨_, mm, _, h3⟩ := HTV.out; exact (h3.kp hkr (fun q e e2 => e.2.2 (.inl (by show q < _; omega)))).mono (by omega) (fun q e => ⟨by have h9 : ¬ q < w0.heap.size + 3 := fun h8 => e.2.2 (.inl h8); omega, Nat.lt_of_lt_of_le e.2.1 hkr.size⟩)))
    as_aux_lemma =>
      obtain ⟨Q, hQ⟩ : ∃ Q, Q = q.reverse := ⟨_, rfl⟩
      have hma : Mac w (w0.heap.size + 3) M vB b d p vo (Q ++ [x]) C K I L := by rw [hQ, ← List.reverse_cons]; exact hx.m
      have HS : Hid (mstep b d ⟨.done v, p, x :: q⟩ = .inl ⟨.inside, p, ⟨x.k, x.ks, x.is ++ [v], x.n - 1⟩ :: q⟩) := rfl
      have hih := hinv.h x rfl
      have hxn : 0 < x.n := by
        rcases hih.2 with h | h
        · cases h
        · exact h
      have hxi : x.is.length ≤ 10000000 := by
        have h1 := hih.1
        have h2 : p ≤ b.length := hinv.p
        have := HBL.out
        simp only at h1
        omega
      obtain ⟨-, -, -, g, cap, hvo, hcap, hlg⟩ := hma.o.row
      subst hvo
      have hql : Q.length ≤ 4096 := by
        rw [hQ, List.length_reverse]
        have h1 : (x :: q).length ≤ d := hinv.d
        have h2 := HD.out
        rw [List.length_cons] at h1
        omega
      have c3 : w.cell? ⟨M, 3, none⟩ = some (.slice (some ⟨g, 0, none⟩) (Q.length + 1) cap) := blk_cell (j := 3) hma.m rfl
      have HAD := hide (add8_any w _ M vB b d p _ Q x C K I L hma (by omega) v cv (by have h := HTV.out; simp only [List.reverse_cons] at h; rw [← hQ] at h; exact h) hxi hxn)
      have HX := hide hx
      have HRN := hide hrn
      have HIV := hide hinv
      have HQ := hide hQ
      clear hx hrn hinv hl hma hih hxn hxi hcap hlg hql hQ
      go_wp2_with (refine wpList_exec rfl (exec_valAt (g := w0.heap.size + 2) (off := 0) (cs := cv) rfl rfl HVZ.out HVC.out) ?_)
      refine HAD.out.mono ?_
      rintro e w1 ⟨rfl, hk1, C1, K1, I1, L1, hM1⟩
      clear c3
      go_wp2_with fail
      go_step3
      go_step
      go_step
      refine Code.wp_mono (jumps_mono (fun l a w ⟨k, hk, hJ⟩ => ⟨k, by omega, hJ⟩)) (HP2.out m _ _ (RJ8.mk ⟨.inside, p, ⟨x.k, x.ks, x.is ++ [v], x.n - 1⟩ :: q⟩ trivial ?_ ⟨(HIV.out.step HND.out HS.out).1, _, _, _, _, _, _, _, HX.out.call HM.out (kp_lo hk1) (fun _ h => by cases h) (by rw [List.reverse_cons, ← HQ.out]; exact hM1)⟩ rfl))
      have h := HRN.out
      rw [mrun_next HS.out] at h
      exact h
  · -- name
    intro HP3
    rintro n a w ⟨s, u1, u6, u7, u8, u9, u10, u11, u12, u13, u14, u15, u16, u17, u18, u19, u20, u21, u22, u23, u24, u25, u26, u27, u28, u29, u30, u31, u32, u33, u34, u35, u36, u37, u38, u39, u40, u41, u42, u43, u44, u45, u46, u47, u48, u49, u50, u51, u52, u53, u54, u55, u56, u57, u58, u59, u60, u61, u62, u63, u64, u65, u66, u67, u68, u69, u70, u71, u72, u73, u74, u75, u76, u77, u78, u79, u80, u81, u82, u83, u84, u85, hl, hrn, ⟨hinv, vo, C, K, I, L, ci, cv, hx⟩, rfl⟩
    obtain ⟨lab, p, st⟩ := s
    rcases lab with _ | _ | v | _
    · exact False.elim hl
    case done => exact False.elim hl
    case inside => exact False.elim hl
    obtain ⟨m, rfl⟩ := mrun_pos hrn
    have hpl : p ≤ b.length := hinv.p
    have hsl : st.length ≤ d := hinv.d
    have HWB : Hid (Below W.heap.size W w) := HWW.out.trans (hx.k.below HWW.out.size (fun q e => by have := HWM.out; omega))
    have HTK := hide (take8_any W HT.out w _ M vB b d p _ st.reverse C K I L hx.m HWB.out (by have := HBL.out; omega) hpl (by rw [List.length_reverse]; have := HD.out; omega) 2 [] (fun h => by cases h))
    have HX := hide hx
    have HRN := hide hrn
    have HIV := hide hinv
    clear hx hrn hinv hl hpl hsl
    go_wp2_with fail
    refine HTK.out.mono ?_
    rintro e w3 ⟨hk3, c, hcz, hca, rfl, hbad, hgood⟩
    rw [List.length_reverse] at hbad hgood
    rw [List.length_reverse]
    have HTO := hide (HX.out.took HM.out HBq.out hk3 hbad hgood)
    have HSM : Hid (mstep b d ⟨.name, p, st⟩ = if rtake 2 (decide (st.length = d)) [] (b.drop p) ≠ 0 then .inr ⟨rtake 2 (decide (st.length = d)) [] (b.drop p), p, tz8 0⟩ else .inl ⟨.done (.mk 7 false false 0 0 ⟨#[]⟩ [] (lparse (rbody (b.drop p)).tail).1 [] []), p + rused (b.drop p), st⟩) := rfl
    have HRK : Hid (rtake 2 (decide (st.length = d)) [] (b.drop p) = 0 → rlook 2 (b.drop p) = 0) := fun h => (rtake_look h).1
    have HI3 := hide HTO.out.1
    have HIN : Hid ((Tryz.prog.info? 89).map (·.size) = some c.size) := by show _ = _; rw [hcz]; exact infoI
    have HZN : Hid (ci.size = c.size) := by show _ = _; rw [hcz]; exact HX.out.iz
    have HCA := hide hca
    have HR3 := hide HTO.out.2.1
    have HIR : Hid ((Tryz.prog.info? 61).map (·.size) = some zv.size) := infoV
    have HZA := hide zv_all8
    clear hk3 hbad hgood hcz hca HTK
    generalize hrt : rtake 2 (decide (st.length = d)) [] (b.drop p) = rt at *
    clear hrt
    by_cases h0 : rt = 0
    case neg => as_aux_lemma =>
      have gk : ((rt : Int) != 0) = true := by rw [bne_iff_ne]; omega
      have HMB := hide (HTO.out.2.2.2.1 h0)
      have HRE : Hid (R = ⟨rt, p, tz8 0⟩) := by
        have h := HRN.out
        have h2 := HSM.out
        rw [if_pos h0] at h2
        rw [mrun_end h2] at h
        injection h with h
        exact h.symm
      have HKF := hide HTO.out.2.2.1
      clear h0 HP3
      go_wp2_with (first
        | (refine wpList_storeRow rfl rfl (w0.heap.size + 1) ci c 89 rfl rfl HI3.out HIN.out HZN.out HCA.out ?_)
        | (refine wpList_storeRow rfl rfl w0.heap.size zv zv 61 rfl rfl HR3.out HIR.out rfl HZA.out ?_))
      rw [jumps_ret]
      exact bodyPost_ret (end_run rfl (row_same HR3.out) rfl rfl) rfl (Rex.bad HMB.out HM.out HKF.out HRE.out)
    as_aux_lemma =>
      have gk : ((rt : Int) != 0) = false := by rw [bne_eq_false_iff_eq]; omega
      obtain ⟨vb, hc, hvb, hx4⟩ := HTO.out.2.2.2.2 h0
      have HS : Hid (mstep b d ⟨.name, p, st⟩ = .inl ⟨.done (.mk 7 false false 0 0 ⟨#[]⟩ [] (lparse (rbody (b.drop p)).tail).1 [] []), p + rused (b.drop p), st⟩) := by show _ = _; rw [HSM.out, if_neg (fun h => h h0)]
      obtain ⟨n1, n2, n3⟩ := rlook_name (HRK.out h0)
      have hrl : rlink 2 (hrd (b.drop p)) (rbody (b.drop p)) ⟨0, 0, 0, []⟩ = (lparse (rbody (b.drop p)).tail).1 := by unfold rlink; rw [if_pos ⟨rfl, n1, n2⟩]
      have hbd := lnk_tbd (b := (rbody (b.drop p)).tail) (fun x hx => hvb.byte x (List.mem_of_mem_tail hx)) n3 7
      have HX4 := hide hx4
      rw [hrl] at hc
      generalize hlk : (lparse (rbody (b.drop p)).tail).1 = lk at *
      have HLC : Hid (∀ j u, (lcs lk)[j]? = some u → (w3.setRow (w0.heap.size + 1) c).cell? ⟨w0.heap.size + 1, 7 + j, none⟩ = some u) := fun j u hu => blk_cell (j := 7 + j) hx4.i (by
        rw [hc]
        have hj := (Array.getElem?_eq_some_iff.1 hu).1
        have hj2 : j < 4 := hj
        have : j = 0 ∨ j = 1 ∨ j = 2 ∨ j = 3 := by omega
        rcases this with rfl | rfl | rfl | rfl <;> exact hu)
      have HTT : Hid (Tio (w3.setRow (w0.heap.size + 1) c) (w0.heap.size + 3) (fun r => r < w0.heap.size + 3) vo st.reverse K I L (.mk 7 false false 0 0 ⟨#[]⟩ [] lk [] []) (vcs (.mk 7 false false 0 0 ⟨#[]⟩ [] lk [] []) (.slice none 0 0) (.slice none 0 0) (.slice none 0 0))) := tio_plain hx4.m hbd rfl rfl rfl
      have HV4 := hide hx4.v
      have HIV4 : Hid ((Tryz.prog.info? 61).map (·.size) = some (vcs (.mk 7 false false 0 0 ⟨#[]⟩ [] lk [] []) (.slice none 0 0) (.slice none 0 0) (.slice none 0 0)).size) := infoV
      have HZ4 : Hid (cv.size = (vcs (.mk 7 false false 0 0 ⟨#[]⟩ [] lk [] []) (.slice none 0 0) (.slice none 0 0) (.slice none 0 0)).size) := by show _ = _; rw [hx4.vz]; rfl
      have HA4 := hide HTT.out.1.tin.all1
      clear h0 hc hvb hx4 hrl hbd n1 n2 n3 hlk HTO HX HWB HRK
      go_wp2_with (first
        | (refine wpList_storeRow rfl rfl (w0.heap.size + 1) ci c 89 rfl rfl HI3.out HIN.out HZN.out HCA.out ?_)
        | (refine wpList_exec rfl (exec_lkAt (g := w0.heap.size + 1) (off := 7) (cs := #[.int .i64 lk.v, .int .u64 (lk.c : Nat), .int .u64 (lk.h : Nat), .string (nstr lk.d)]) rfl rfl rfl HLC.out) ?_)
        | (refine wpList_storeRow rfl rfl (w0.heap.size + 2) cv (vcs (.mk 7 false false 0 0 ⟨#[]⟩ [] lk [] []) (.slice none 0 0) (.slice none 0 0) (.slice none 0 0)) 61 rfl rfl HV4.out HIV4.out HZ4.out HA4.out ?_))
      go_step3
      go_step
      go_step
      refine Code.wp_mono (jumps_mono (fun l a w ⟨k, hk, hJ⟩ => ⟨k, by omega, hJ⟩)) (HP3.out m _ _ (RJ8.mk ⟨.done (.mk 7 false false 0 0 ⟨#[]⟩ [] lk [] []), p + rused (b.drop p), st⟩ trivial ?_ ⟨(HIV.out.step HND.out HS.out).1, _, _, _, _, _, _, _, HX4.out.put HM.out HBq.out HTT.out⟩ rfl))
      have h := HRN.out
      rw [mrun_next HS.out] at h
      exact h
  · -- plain
    rintro n a w ⟨s, u1, u6, u7, u8, u9, u10, u11, u12, u13, u14, u15, u16, u17, u18, u19, u20, u21, u22, u23, u24, u25, u26, u27, u28, u29, u30, u31, u32, u33, u34, u35, u36, u37, u38, u39, u40, u41, u42, u43, u44, u45, u46, u47, u48, u49, u50, u51, u52, u53, u54, u55, u56, u57, u58, u59, u60, u61, u62, u63, u64, u65, u66, u67, u68, u69, u70, u71, u72, u73, u74, u75, u76, u77, u78, u79, u80, u81, u82, u83, u84, u85, hl, hrn, ⟨hinv, vo, C, K, I, L, ci, cv, hx⟩, rfl⟩
    obtain ⟨lab, p, st⟩ := s
    rcases lab with _ | _ | v | _
    case name => exact False.elim hl
    case done => exact False.elim hl
    case inside => exact False.elim hl
    obtain ⟨m, rfl⟩ := mrun_pos hrn
    have hpl : p ≤ b.length := hinv.p
    have hsl : st.length ≤ d := hinv.d
    have HSL : Hid (st.reverse.length ≤ 100000) := by show _ ≤ _; rw [List.length_reverse]; have := HD.out; omega
    have HWB : Hid (Below W.heap.size W w) := HWW.out.trans (hx.k.below HWW.out.size (fun q e => by have := HWM.out; omega))
    have HTK := hide (take8_any W HT.out w _ M vB b d p _ st.reverse C K I L hx.m HWB.out (by have := HBL.out; omega) hpl HSL.out 0 [] (fun h => by cases h))
    have HX := hide hx
    have HRN := hide hrn
    have HIV := hide hinv
    clear hx hrn hinv hl hpl hsl
    go_wp2_with fail
    refine HTK.out.mono ?_
    rintro e w3 ⟨hk3, c, hcz, hca, rfl, hbad, hgood⟩
    rw [List.length_reverse] at hbad hgood
    rw [List.length_reverse]
    have HTO := hide (HX.out.took HM.out HBq.out hk3 hbad hgood)
    have HSM : Hid (mstep b d ⟨.plain, p, st⟩ = if rtake 0 (decide (st.length = d)) [] (b.drop p) ≠ 0 then .inr ⟨rtake 0 (decide (st.length = d)) [] (b.drop p), p, tz8 0⟩
      else if (hrd (b.drop p)).m = 6 then .inl ⟨.name, p + rused (b.drop p), st⟩
      else if (hrd (b.drop p)).m = 4 then .inl ⟨.inside, p + rused (b.drop p), ⟨8, [], [], (hrd (b.drop p)).n⟩ :: st⟩
      else if (hrd (b.drop p)).m = 5 then .inl ⟨.inside, p + rused (b.drop p), ⟨9, [], [], (hrd (b.drop p)).n⟩ :: st⟩
      else .inl ⟨.done (rleaf (hrd (b.drop p)) (rbody (b.drop p))), p + rused (b.drop p), st⟩) := rfl
    have HI3 := hide HTO.out.1
    have HIN : Hid ((Tryz.prog.info? 89).map (·.size) = some c.size) := by show _ = _; rw [hcz]; exact infoI
    have HZN : Hid (ci.size = c.size) := by show _ = _; rw [hcz]; exact HX.out.iz
    have HCA := hide hca
    have HR3 := hide HTO.out.2.1
    have HIR : Hid ((Tryz.prog.info? 61).map (·.size) = some zv.size) := infoV
    have HZA := hide zv_all8
    clear hk3 hbad hgood hcz hca HTK
    generalize hrt : rtake 0 (decide (st.length = d)) [] (b.drop p) = rt at *
    clear hrt
    by_cases h0 : rt = 0
    case neg => as_aux_lemma =>
      have gk : ((rt : Int) != 0) = true := by rw [bne_iff_ne]; omega
      have HMB := hide (HTO.out.2.2.2.1 h0)
      have HRE : Hid (R = ⟨rt, p, tz8 0⟩) := by
        have h := HRN.out
        have h2 := HSM.out
        rw [if_pos h0] at h2
        rw [mrun_end h2] at h
        injection h with h
        exact h.symm
      have HKF := hide HTO.out.2.2.1
      clear h0
      go_wp2_with (first
        | (refine wpList_storeRow rfl rfl (w0.heap.size + 1) ci c 89 rfl rfl HI3.out HIN.out HZN.out HCA.out ?_)
        | (refine wpList_storeRow rfl rfl w0.heap.size zv zv 61 rfl rfl HR3.out HIR.out rfl HZA.out ?_))
      rw [jumps_ret]
      exact bodyPost_ret (end_run rfl (row_same HR3.out) rfl rfl) rfl (Rex.bad HMB.out HM.out HKF.out HRE.out)
    have gk : ((rt : Int) != 0) = false := by rw [bne_eq_false_iff_eq]; omega
    obtain ⟨vb, hc, hvb, hx4⟩ := HTO.out.2.2.2.2 h0
    have HSN : Hid (mstep b d ⟨.plain, p, st⟩ = if (hrd (b.drop p)).m = 6 then .inl ⟨.name, p + rused (b.drop p), st⟩
      else if (hrd (b.drop p)).m = 4 then .inl ⟨.inside, p + rused (b.drop p), ⟨8, [], [], (hrd (b.drop p)).n⟩ :: st⟩
      else if (hrd (b.drop p)).m = 5 then .inl ⟨.inside, p + rused (b.drop p), ⟨9, [], [], (hrd (b.drop p)).n⟩ :: st⟩
      else .inl ⟨.done (rleaf (hrd (b.drop p)) (rbody (b.drop p))), p + rused (b.drop p), st⟩) := by show _ = _; rw [HSM.out, if_neg (fun h => h h0)]
    have HNN := hide (HND.out p)
    have HRB : Hid ((rbody (b.drop p)).length ≤ 140737488351232) := by
      show _ ≤ _
      have h1 : (rbody (b.drop p)).length ≤ b.length := by
        unfold rbody
        split
        · rw [List.length_take, List.length_drop, List.length_drop]; omega
        · exact Nat.zero_le _
      have := HBL.out
      omega
    have HX4 := hide hx4
    have HVB := hide hvb
    have HI4 : Hid ((w3.setRow (w0.heap.size + 1) c).heap[w0.heap.size + 1]? = some (.cells (ics (hrd (b.drop p)) vb (rtext (hrd (b.drop p)) (rbody (b.drop p)) ⟨#[]⟩) (rlink 0 (hrd (b.drop p)) (rbody (b.drop p)) ⟨0, 0, 0, []⟩)) 89 (0, 0))) := by have h := hx4.i; rw [hc] at h ⊢; exact h
    clear hc hvb hx4 h0 HSM HTO HX HWB
    generalize hrd (b.drop p) = h at *
    have k0 : (w3.setRow (w0.heap.size + 1) c).cell? ⟨w0.heap.size + 1, 0, none⟩ = some (.int .i64 (h.m : Nat)) := blk_cell (j := 0) HI4.out rfl
    have k2 : (w3.setRow (w0.heap.size + 1) c).cell? ⟨w0.heap.size + 1, 2, none⟩ = some (.int .u64 (h.n : Nat)) := blk_cell (j := 2) HI4.out rfl
    by_cases m6 : h.m = 6
    · as_aux_lemma =>
      have g6 : ((h.m : Int) == 6) = true := beq_iff_eq.2 (by omega)
      have HS : Hid (mstep b d ⟨.plain, p, st⟩ = .inl ⟨.name, p + rused (b.drop p), st⟩) := by show _ = _; rw [HSN.out, if_pos m6]
      clear m6
      go_wp2_with (refine wpList_storeRow rfl rfl (w0.heap.size + 1) ci c 89 rfl rfl HI3.out HIN.out HZN.out HCA.out ?_)
      go_step3
      show ∃ m', m' < m + 1 ∧ _
      refine ⟨m, by omega, RJ8.mk ⟨.name, p + rused (b.drop p), st⟩ trivial ?_ ⟨(HIV.out.step HND.out HS.out).1, _, _, _, _, _, _, _, HX4.out.lab (fun _ h => by cases h)⟩ rfl⟩
      have h := HRN.out
      rw [mrun_next HS.out] at h
      exact h
    have g6 : ((h.m : Int) == 6) = false := beq_eq_false_iff_ne.2 (by omega)
    by_cases m4 : h.m = 4
    · as_aux_lemma =>
      have g4 : ((h.m : Int) == 4) = true := beq_iff_eq.2 (by omega)
      have HS : Hid (mstep b d ⟨.plain, p, st⟩ = .inl ⟨.inside, p + rused (b.drop p), ⟨8, [], [], h.n⟩ :: st⟩) := by show _ = _; rw [HSN.out, if_neg m6, if_pos m4]
      have HBG := hide (begin8_any (w3.setRow (w0.heap.size + 1) c) _ M vB b d (p + rused (b.drop p)) _ st.reverse C K I L HX4.out.m HSL.out 8 h.n HNN.out)
      clear m6 m4
      go_wp2_with (refine wpList_storeRow rfl rfl (w0.heap.size + 1) ci c 89 rfl rfl HI3.out HIN.out HZN.out HCA.out ?_)
      refine HBG.out.mono ?_
      rintro e w5 ⟨rfl, hk5, v5, C5, K5, I5, L5, hM5⟩
      clear k0 k2
      go_wp2_with fail
      go_step3
      show ∃ m', m' < m + 1 ∧ _
      refine ⟨m, by omega, RJ8.mk ⟨.inside, p + rused (b.drop p), ⟨8, [], [], h.n⟩ :: st⟩ trivial ?_ ⟨(HIV.out.step HND.out HS.out).1, _, _, _, _, _, _, _, HX4.out.call HM.out hk5 (fun _ h => by cases h) (by rw [List.reverse_cons]; exact hM5)⟩ rfl⟩
      have h := HRN.out
      rw [mrun_next HS.out] at h
      exact h
    have g4 : ((h.m : Int) == 4) = false := beq_eq_false_iff_ne.2 (by omega)
    by_cases m5 : h.m = 5
    · as_aux_lemma =>
      have g5 : ((h.m : Int) == 5) = true := beq_iff_eq.2 (by omega)
      have HS : Hid (mstep b d ⟨.plain, p, st⟩ = .inl ⟨.inside, p + rused (b.drop p), ⟨9, [], [], h.n⟩ :: st⟩) := by show _ = _; rw [HSN.out, if_neg m6, if_neg m4, if_pos m5]
      have HBG := hide (begin8_any (w3.setRow (w0.heap.size + 1) c) _ M vB b d (p + rused (b.drop p)) _ st.reverse C K I L HX4.out.m HSL.out 9 h.n HNN.out)
      clear m6 m4 m5
      go_wp2_with (refine wpList_storeRow rfl rfl (w0.heap.size + 1) ci c 89 rfl rfl HI3.out HIN.out HZN.out HCA.out ?_)
      refine HBG.out.mono ?_
      rintro e w5 ⟨rfl, hk5, v5, C5, K5, I5, L5, hM5⟩
      clear k0 k2
      go_wp2_with fail
      go_step3
      show ∃ m', m' < m + 1 ∧ _
      refine ⟨m, by omega, RJ8.mk ⟨.inside, p + rused (b.drop p), ⟨9, [], [], h.n⟩ :: st⟩ trivial ?_ ⟨(HIV.out.step HND.out HS.out).1, _, _, _, _, _, _, _, HX4.out.call HM.out hk5 (fun _ h => by cases h) (by rw [List.reverse_cons]; exact hM5)⟩ rfl⟩
      have h := HRN.out
      rw [mrun_next HS.out] at h
      exact h
    as_aux_lemma =>
      have g5 : ((h.m : Int) == 5) = false := beq_eq_false_iff_ne.2 (by omega)
      have HS : Hid (mstep b d ⟨.plain, p, st⟩ = .inl ⟨.done (rleaf h (rbody (b.drop p))), p + rused (b.drop p), st⟩) := by show _ = _; rw [HSN.out, if_neg m6, if_neg m4, if_neg m5]
      have HLF := hide (leafO8_any (w3.setRow (w0.heap.size + 1) c) (w0.heap.size + 1) h vb (rbody (b.drop p)) _ _ HI4.out HVB.out HRB.out HNN.out (fun h3 => by unfold rtext; rw [if_pos h3]))
      clear m6 m4 m5
      go_wp2_with (refine wpList_storeRow rfl rfl (w0.heap.size + 1) ci c 89 rfl rfl HI3.out HIN.out HZN.out HCA.out ?_)
      refine HLF.out.mono ?_
      rintro e w5 ⟨cL, rfl, hTL, hb5, hNL⟩
      have HX5 := hide (HX4.out.next hb5)
      have HTT : Hid (Tio w5 (w0.heap.size + 3) (fun r => r < w0.heap.size + 3) vo st.reverse K I L (rleaf h (rbody (b.drop p))) cL) := tio_leaf HX4.out.m hb5 hTL hNL
      have HV5 := hide HX5.out.v
      have HI5 : Hid ((Tryz.prog.info? 61).map (·.size) = some cL.size) := by show _ = _; rw [hTL.tin.size13]; exact infoV
      have HZ5 : Hid (cv.size = cL.size) := by show _ = _; rw [hTL.tin.size13]; exact HX5.out.vz
      have HA5 := hide hTL.tin.all1
      clear k0 k2 hTL hb5 hNL
      go_wp2_with (refine wpList_storeRow rfl rfl (w0.heap.size + 2) cv cL 61 rfl rfl HV5.out HI5.out HZ5.out HA5.out ?_)
      go_step3
      show ∃ m', m' < m + 1 ∧ _
      refine ⟨m, by omega, RJ8.mk ⟨.done (rleaf h (rbody (b.drop p))), p + rused (b.drop p), st⟩ trivial ?_ ⟨(HIV.out.step HND.out HS.out).1, _, _, _, _, _, _, _, HX5.out.put HM.out HBq.out HTT.out⟩ rfl⟩
      have h := HRN.out
      rw [mrun_next HS.out] at h
      exact h
  · -- first
    intro HP0
    have hb0 := below_alloc4 w0 (.cells zv 61)
    have hb1 := below_alloc4 (w0.alloc (.cells zv 61)) (.cells zi 89)
    have hb2 := below_alloc4 ((w0.alloc (.cells zv 61)).alloc (.cells zi 89)) (.cells zv 61)
    have hba : Below w0.heap.size w0 (((w0.alloc (.cells zv 61)).alloc (.cells zi 89)).alloc (.cells zv 61)) := (hb0.trans (hb1.mono hb0.size)).trans (hb2.mono (Nat.le_trans hb0.size hb1.size))
    have hs1 : (w0.alloc (.cells zv 61)).heap.size = w0.heap.size + 1 := by simp
    have hs2 : ((w0.alloc (.cells zv 61)).alloc (.cells zi 89)).heap.size = w0.heap.size + 2 := by simp
    have hs3 : (((w0.alloc (.cells zv 61)).alloc (.cells zi 89)).alloc (.cells zv 61)).heap.size = w0.heap.size + 3 := by simp
    have HRX : Hid (Rex w0 M vB b d m0 (((w0.alloc (.cells zv 61)).alloc (.cells zi 89)).alloc (.cells zv 61)) (.slice none 0 0) [] (fun _ => .slice none 0 0) (fun _ => .slice none 0 0) (fun _ => []) zi zv) := by
      refine ⟨⟨(hba.block _ HM.out).trans HMM.out, HB.out.move (keep_below hba), fun q hq => ⟨by have := HBq.out q hq; omega, (HBq.out q hq).2⟩, ⟨World.ownsRow_nil _ _ _ _, rfl, fun i x hx => (by simp [m0] at hx), fun q _ h => (by cases h), fun q hq => (by rw [hs3]; exact hq), fun i x hx => (by simp [m0] at hx), fun i hi => (by simp [m0] at hi), fun i hi => (by simp [m0] at hi)⟩, by have := HM.out; omega, by rw [hs3]; exact Nat.le_refl _, _, Ow8.empty _ _ _ _ _ _ (Nat.le_refl _)⟩, ?_, rfl, zi_no, ?_, rfl, fun v hv => (by cases hv), ?_, Kp.of_below hba⟩
      · have h := heap_alloc_new (w0.alloc (.cells zv 61)) (.cells zi 89)
        rw [hs1] at h
        exact (hb2.block _ (blk_lt h)).trans h
      · have h := heap_alloc_new ((w0.alloc (.cells zv 61)).alloc (.cells zi 89)) (.cells zv 61)
        rw [hs2] at h
        exact h
      · have h := heap_alloc_new w0 (.cells zv 61)
        have h1 := (hb1.block _ (blk_lt h)).trans h
        exact (hb2.block _ (blk_lt h1)).trans h1
    clear hb0 hb1 hb2 hba hs1 hs2 hs3
    unfold zi zv at HRX
    go_wp2_with fail
    go_step3
    go_step
    go_step
    exact HP0.out N _ _ (RJ8.mk m0 trivial HRR.out ⟨Inv8.start b d, _, _, _, _, _, _, _, HRX.out⟩ rfl)
end
end Go.Proofs.YtdejcapbggjjgaaGreatDoor
