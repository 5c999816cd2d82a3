import Derived.Test.YtcmfgambfgebfaaGreatDoorJi
import Derived.Test.YtcmfgambfgebfaaGreatDoorJh
import Derived.Test.YtcmfgambfgebfaaGreatDoorJm
namespace Go.Proofs.YtcmfgambfgebfaaGreatDoor
section
open Go.RowKit Go
/-! ### alone, the reference's -/
theorem plc_le {t : Tp} : ∀ (l : List Tp) (i : Nat), l[i]? = some t → ∃ j, plc l t.n = some j ∧ j ≤ i
  | [], _, h => by cases h
  | u :: r, i, h => by
    unfold plc
    by_cases hu : u.n = t.n
    · rw [if_pos hu]
      exact ⟨0, rfl, Nat.zero_le _⟩
    · rw [if_neg hu]
      rcases i with _ | i
      · have e : u = t := by simpa using h
        exact absurd (by rw [e]) hu
      · obtain ⟨j, hj, hji⟩ := plc_le r i (by simpa using h)
        exact ⟨j + 1, by rw [hj]; rfl, by omega⟩
theorem Tbx.cl {w wx : World} {tc : Array Value} (h : Tbx w tc wx) : ∀ j u, tc[j]? = some u → wx.cell? ⟨w.heap.size, 0 + j, none⟩ = some u := fun j u hu => by
  rw [Nat.zero_add]
  exact blk_cell h.a hu
set_option maxRecDepth 1000000 in
set_option maxHeartbeats 8000000 in
theorem alone11_any (w : World) (v : Value) (l : List Tp) (hv : TSl w v l) (hS : Shrt l) (i : Nat) (t : Tp) (ht : l[i]? = some t) : Calls Tryz.prog 22 #[v, .int .i64 (i : Nat)] w fun e w' => e = .returned (.int .i64 (aln l i t : Nat)) ∧ Below w.heap.size w w' := by
  have hmax := hv.max
  have HV := hide hv
  have hil : i < l.length := (List.getElem?_eq_some_iff.1 ht).1
  obtain ⟨⟨a, cap, rfl, hn, hcl⟩, _⟩ := hv
  obtain ⟨b, off, rfl, hcc⟩ := hcl.resolve_left (fun h => by rw [h] at hil; simp at hil)
  obtain ⟨c, hc, hcell⟩ := hcc i t ht
  have HTI := hide hc
  obtain ⟨⟨vf, vc, vw, rfl, ⟨⟨af, cf, rfl, -, -⟩, -⟩, ⟨⟨ac, cc, rfl, -, -⟩, -⟩, ⟨⟨aw, cw, rfl, -, -⟩, -, -⟩⟩, -⟩ := hc
  unfold tpc at hcell HTI
  have HCL := hide hcell
  have HSH := hide (hS t (List.mem_of_getElem? ht))
  have HAL : Hid (aln l i t = if (!nbl t.n || (ownK t.n).isSome || decide ((plc l t.n).getD 0 < i)) = true then 111 else if (!tdy t) = true then 112 else if t.lo > t.hi ∨ (t.lo < 0 ∧ t.k ≠ 2) then 113 else if ((rfs t).any fun r => !(fnd l r.n).2) = true then 114 else if (!fft t) = true then 115 else if (!cft t) = true then 116 else 0) := rfl
  obtain ⟨p, hp, hpi⟩ := plc_le l i ht
  have HPE : Hid (pli l t.n = (p : Nat)) := by show _ = _; unfold pli; rw [hp]
  rw [hp] at HAL
  have gi : (i : Int) < (l.length : Int) := by omega
  have HIT := hide infoTp
  have HAT : Hid (∀ w, (isAgg 45).run Tryz.prog w = .ok true w) := aggTp
  have HX := hide (Tbx.start w #[.string t.n, .int .i64 t.k, .int .i64 t.lo, .int .i64 t.hi, .string t.r.n, .bool t.r.z, .slice af t.fs.length cf, .slice ac t.cs.length cc, .slice aw t.ws.length cw])
  clear hn hcc hcell hS ht hil hp hcl
  go_enter Tryz.func22, Tryz.ntmps22
  go_upto_region 2 with (refine wpList_aggAt rfl rfl HIT.out HAT.out b (off + i * 9) #[.string t.n, .int .i64 t.k, .int .i64 t.lo, .int .i64 t.hi, .string t.r.n, .bool t.r.z, .slice af t.fs.length cf, .slice ac t.cs.length cc, .slice aw t.ws.length cw] rfl rfl HCL.out ?_)
  (try simp only [Act.put]); (try simp only [List.setIfInBounds_toArray, List.set_cons_zero, List.set_cons_succ])
  generalize w.alloc (.cells #[.string t.n, .int .i64 t.k, .int .i64 t.lo, .int .i64 t.hi, .string t.r.n, .bool t.r.z, .slice af t.fs.length cf, .slice ac t.cs.length cc, .slice aw t.ws.length cw] 45) = w1 at *
  clear HCL
  cases hnb : nbl t.n with
  | false => as_aux_lemma =>
    have HR : Hid (aln l i t = 111) := by show _ = _; rw [HAL.out, hnb, if_pos (by rfl)]
    clear HAL
    have c0 : ∀ t' : Ext w1, t'.w'.cell? ⟨w.heap.size, 0, none⟩ = some (.string t.n) := fun t' => Ext.cell (blk_cell (j := 0) HX.out.a rfl) t'
    have HNM : Hid (∀ t' : Ext w1, Calls Tryz.prog 47 #[.string t.n] t'.w' fun e w'' => e = .returned (.bool false) ∧ ∃ t2 : Ext w1, w'' = t2.w') := fun t' => by
      have h := named11_any t'.w' t.n
      rw [hnb] at h
      exact Calls.ext_same h
    clear hnb
    refine region_ext (by kernel_rfl) (by kernel_rfl) ?_
    repeat (
      with_reducible refine wpQuiet_step (fun K hK => ?_)
      go_simp
      first
        | (with_reducible refine hK _ ?_; clear hK K)
        | (apply Exists.intro
           refine ⟨fun _ => ?_, hK _ ?_⟩
           (go_at_call 47; with_reducible exact HNM.out _)
           clear hK K))
    refine wpQuiet_nil ?_
    rintro _ ⟨tq, rfl⟩
    have HX2 := hide (HX.out.next tq.h)
    clear c0 HNM HX
    go_wp2_with fail
    go_ret
    exact ⟨by rw [HR.out] <;> rfl, HX2.out.b⟩
  | true =>
    rw [hnb] at HAL
    have HNM : Hid (∀ wy, Calls Tryz.prog 47 #[.string t.n] wy fun e w' => e = .returned (.bool true) ∧ w' = wy) := fun wy => by
      have h := named11_any wy t.n
      rw [hnb] at h
      exact h
    clear hnb
    have HPL : Hid (∀ wy, Below w.heap.size w wy → Calls Tryz.prog 50 #[.slice (some ⟨b, off, none⟩) l.length cap, .string t.n] wy fun e w' => e = .returned (.int .i64 (p : Nat)) ∧ w' = wy) := fun wy hy => by
      have h := place11_any wy _ l (TSl.mv HV.out (keep_below hy)) t.n
      rw [HPE.out] at h
      exact h
    refine heldStart (S := Tbx w #[.string t.n, .int .i64 t.k, .int .i64 t.lo, .int .i64 t.hi, .string t.r.n, .bool t.r.z, .slice af t.fs.length cf, .slice ac t.cs.length cc, .slice aw t.ws.length cw]) (by kernel_rfl) ?_
    have hS : Tbx w #[.string t.n, .int .i64 t.k, .int .i64 t.lo, .int .i64 t.hi, .string t.r.n, .bool t.r.z, .slice af t.fs.length cf, .slice ac t.cs.length cc, .slice aw t.ws.length cw] w1.drew := HX.out.next (Below.drew (Below.refl _ _))
    generalize w1.drew = w5 at *
    refine heldTake 0 _ rfl (by kernel_rfl) (by kernel_rfl) (by kernel_rfl) (fun _ _ _ h => h) rfl hS (fun wy hy => by first | (go_simp; done) | (go_simp; rfl) | rfl) ?_
    (try simp only [Act.put]); (try simp only [List.setIfInBounds_toArray, List.set_cons_zero, List.set_cons_succ])
    refine heldTake 1 _ rfl (by kernel_rfl) (by kernel_rfl) (by kernel_rfl) (fun _ _ _ h => h) rfl hS (fun wq hq => by have h0 := blk_cell (j := 0) hq.a rfl; first | (go_simp; done) | (go_simp; rfl) | rfl) ?_
    (try simp only [Act.put]); (try simp only [List.setIfInBounds_toArray, List.set_cons_zero, List.set_cons_succ])
    refine heldStep 2 rfl (by kernel_rfl) (fun K hK => ?_)
    go_simp
    refine (HNM.out _).mono ?_
    rintro e wq1 ⟨rfl, rfl⟩
    refine (Hid.out hK) _ _ hS (fun hS2 => ?_)
    clear hK K hS
    have hS := hS2
    clear hS2
    (try simp only [Act.put]); (try simp only [List.setIfInBounds_toArray, List.set_cons_zero, List.set_cons_succ])
    refine heldTake 3 _ rfl (by kernel_rfl) (by kernel_rfl) (by kernel_rfl) (fun _ _ _ h => h) rfl hS (fun wy hy => by first | (go_simp; done) | (go_simp; rfl) | rfl) ?_
    (try simp only [Act.put]); (try simp only [List.setIfInBounds_toArray, List.set_cons_zero, List.set_cons_succ])
    refine heldTake 4 _ rfl (by kernel_rfl) (by kernel_rfl) (by kernel_rfl) (fun _ _ _ h => h) rfl hS (fun wy hy => by first | (go_simp; done) | (go_simp; rfl) | rfl) ?_
    (try simp only [Act.put]); (try simp only [List.setIfInBounds_toArray, List.set_cons_zero, List.set_cons_succ])
    refine heldTake 6 _ rfl (by kernel_rfl) (by kernel_rfl) (by kernel_rfl) (fun _ _ _ h => h) rfl hS (fun wy hy => by first | (go_simp; done) | (go_simp; rfl) | rfl) ?_
    (try simp only [Act.put]); (try simp only [List.setIfInBounds_toArray, List.set_cons_zero, List.set_cons_succ])
    refine heldTake 7 _ rfl (by kernel_rfl) (by kernel_rfl) (by kernel_rfl) (fun _ _ _ h => h) rfl hS (fun wq hq => by have h0 := blk_cell (j := 0) hq.a rfl; first | (go_simp; done) | (go_simp; rfl) | rfl) ?_
    (try simp only [Act.put]); (try simp only [List.setIfInBounds_toArray, List.set_cons_zero, List.set_cons_succ])
    refine heldStep 5 rfl (by kernel_rfl) (fun K hK => ?_)
    go_simp
    refine (builtIn11_any _).mono ?_
    rintro e w6 ⟨vb, rfl, hsb, hb6⟩
    have hS6 : Tbx w #[.string t.n, .int .i64 t.k, .int .i64 t.lo, .int .i64 t.hi, .string t.r.n, .bool t.r.z, .slice af t.fs.length cf, .slice ac t.cs.length cc, .slice aw t.ws.length cw] w6 := hS.next hb6
    refine (Hid.out hK) _ _ hS6 (fun hS2 => ?_)
    clear hK K hS
    have hS := hS2
    clear hS2
    (try simp only [Act.put]); (try simp only [List.setIfInBounds_toArray, List.set_cons_zero, List.set_cons_succ])
    refine heldStep 8 rfl (by kernel_rfl) (fun K hK => ?_)
    go_simp
    refine (is11_any _ vb bltn hsb t.n).mono ?_
    rintro e wq2 ⟨rfl, hwq2⟩
    have hwq2 := hwq2.symm
    subst hwq2
    rw [memb_bltn]
    cases hok : (ownK t.n).isSome with
    | true =>
      rw [hok] at HAL
      have HR : Hid (aln l i t = 111) := by show _ = _; rw [HAL.out, if_pos (by rfl)]
      clear HAL hok HPL
      refine (Hid.out hK) _ _ hS6 (fun hS2 => ?_)
      clear hK K hS
      have hS := hS2
      clear hS2
      (try simp only [Act.put]); (try simp only [List.setIfInBounds_toArray, List.set_cons_zero, List.set_cons_succ])
      refine heldTake 9 _ rfl (by kernel_rfl) (by kernel_rfl) (by kernel_rfl) (fun _ _ _ h => h) rfl hS (fun wy hy => by first | (go_simp; done) | (go_simp; rfl) | rfl) ?_
      (try simp only [Act.put]); (try simp only [List.setIfInBounds_toArray, List.set_cons_zero, List.set_cons_succ])
      refine heldTake 10 _ rfl (by kernel_rfl) (by kernel_rfl) (by kernel_rfl) (fun _ _ _ h => h) rfl hS (fun wy hy => by first | (go_simp; done) | (go_simp; rfl) | rfl) ?_
      (try simp only [Act.put]); (try simp only [List.setIfInBounds_toArray, List.set_cons_zero, List.set_cons_succ])
      refine heldSkip 11 rfl (by kernel_rfl) (by kernel_rfl) (by kernel_rfl) (fun _ _ _ h => h) rfl hS ?_
      (try simp only [Act.put]); (try simp only [List.setIfInBounds_toArray, List.set_cons_zero, List.set_cons_succ])
      refine heldSkip 12 rfl (by kernel_rfl) (by kernel_rfl) (by kernel_rfl) (fun _ _ _ h => h) rfl hS ?_
      (try simp only [Act.put]); (try simp only [List.setIfInBounds_toArray, List.set_cons_zero, List.set_cons_succ])
      refine heldSkip 13 rfl (by kernel_rfl) (by kernel_rfl) (by kernel_rfl) (fun _ _ _ h => h) rfl hS ?_
      (try simp only [Act.put]); (try simp only [List.setIfInBounds_toArray, List.set_cons_zero, List.set_cons_succ])
      refine heldSkip 14 rfl (by kernel_rfl) (by kernel_rfl) (by kernel_rfl) (fun _ _ _ h => h) rfl hS ?_
      (try simp only [Act.put]); (try simp only [List.setIfInBounds_toArray, List.set_cons_zero, List.set_cons_succ])
      refine heldSkip 15 rfl (by kernel_rfl) (by kernel_rfl) (by kernel_rfl) (fun _ _ _ h => h) rfl hS ?_
      (try simp only [Act.put]); (try simp only [List.setIfInBounds_toArray, List.set_cons_zero, List.set_cons_succ])
      refine heldSkip 16 rfl (by kernel_rfl) (by kernel_rfl) (by kernel_rfl) (fun _ _ _ h => h) rfl hS ?_
      (try simp only [Act.put]); (try simp only [List.setIfInBounds_toArray, List.set_cons_zero, List.set_cons_succ])
      refine heldTake 17 _ rfl (by kernel_rfl) (by kernel_rfl) (by kernel_rfl) (fun _ _ _ h => h) rfl hS (fun wy hy => by first | (go_simp; done) | (go_simp; rfl) | rfl) ?_
      (try simp only [Act.put]); (try simp only [List.setIfInBounds_toArray, List.set_cons_zero, List.set_cons_succ])
      refine heldDone (by kernel_rfl) ?_
      have HX2 := hide hS
      clear hS hS6 hb6 hsb HX
      go_wp2_with fail
      go_ret
      exact ⟨by rw [HR.out] <;> rfl, HX2.out.b⟩
    | false =>
      rw [hok] at HAL
      clear hok
      refine (Hid.out hK) _ _ hS6 (fun hS2 => ?_)
      clear hK K hS
      have hS := hS2
      clear hS2
      (try simp only [Act.put]); (try simp only [List.setIfInBounds_toArray, List.set_cons_zero, List.set_cons_succ])
      refine heldTake 9 _ rfl (by kernel_rfl) (by kernel_rfl) (by kernel_rfl) (fun _ _ _ h => h) rfl hS (fun wy hy => by first | (go_simp; done) | (go_simp; rfl) | rfl) ?_
      (try simp only [Act.put]); (try simp only [List.setIfInBounds_toArray, List.set_cons_zero, List.set_cons_succ])
      refine heldTake 10 _ rfl (by kernel_rfl) (by kernel_rfl) (by kernel_rfl) (fun _ _ _ h => h) rfl hS (fun wy hy => by first | (go_simp; done) | (go_simp; rfl) | rfl) ?_
      (try simp only [Act.put]); (try simp only [List.setIfInBounds_toArray, List.set_cons_zero, List.set_cons_succ])
      refine heldTake 11 _ rfl (by kernel_rfl) (by kernel_rfl) (by kernel_rfl) (fun _ _ _ h => h) rfl hS (fun wy hy => by first | (go_simp; done) | (go_simp; rfl) | rfl) ?_
      (try simp only [Act.put]); (try simp only [List.setIfInBounds_toArray, List.set_cons_zero, List.set_cons_succ])
      refine heldTake 12 _ rfl (by kernel_rfl) (by kernel_rfl) (by kernel_rfl) (fun _ _ _ h => h) rfl hS (fun wy hy => by first | (go_simp; done) | (go_simp; rfl) | rfl) ?_
      (try simp only [Act.put]); (try simp only [List.setIfInBounds_toArray, List.set_cons_zero, List.set_cons_succ])
      refine heldTake 13 _ rfl (by kernel_rfl) (by kernel_rfl) (by kernel_rfl) (fun _ _ _ h => h) rfl hS (fun wq hq => by have h0 := blk_cell (j := 0) hq.a rfl; first | (go_simp; done) | (go_simp; rfl) | rfl) ?_
      (try simp only [Act.put]); (try simp only [List.setIfInBounds_toArray, List.set_cons_zero, List.set_cons_succ])
      refine heldTake 15 _ rfl (by kernel_rfl) (by kernel_rfl) (by kernel_rfl) (fun _ _ _ h => h) rfl hS (fun wy hy => by first | (go_simp; done) | (go_simp; rfl) | rfl) ?_
      (try simp only [Act.put]); (try simp only [List.setIfInBounds_toArray, List.set_cons_zero, List.set_cons_succ])
      refine heldStep 14 rfl (by kernel_rfl) (fun K hK => ?_)
      go_simp
      refine (HPL.out _ hS.b).mono ?_
      rintro e wq3 ⟨rfl, hwq3⟩
      have hwq3 := hwq3.symm
      subst hwq3
      refine (Hid.out hK) _ _ hS6 (fun hS2 => ?_)
      clear hK K hS
      have hS := hS2
      clear hS2
      (try simp only [Act.put]); (try simp only [List.setIfInBounds_toArray, List.set_cons_zero, List.set_cons_succ])
      clear HPL
      by_cases hpl : p < i
      · have gp : (p : Int) < (i : Int) := by omega
        have HR : Hid (aln l i t = 111) := by show _ = _; rw [HAL.out, if_pos (by rw [Option.getD_some, decide_eq_true hpl]; rfl)]
        clear HAL hpl
        refine heldTake 16 _ rfl (by kernel_rfl) (by kernel_rfl) (by kernel_rfl) (fun _ _ _ h => h) rfl hS (fun wy hy => by first | (go_simp; done) | (go_simp; rfl) | rfl) ?_
        (try simp only [Act.put]); (try simp only [List.setIfInBounds_toArray, List.set_cons_zero, List.set_cons_succ])
        refine heldTake 17 _ rfl (by kernel_rfl) (by kernel_rfl) (by kernel_rfl) (fun _ _ _ h => h) rfl hS (fun wy hy => by first | (go_simp; done) | (go_simp; rfl) | rfl) ?_
        (try simp only [Act.put]); (try simp only [List.setIfInBounds_toArray, List.set_cons_zero, List.set_cons_succ])
        refine heldDone (by kernel_rfl) ?_
        have HX2 := hide hS
        clear hS hS6 hb6 hsb HX
        go_wp2_with fail
        go_ret
        exact ⟨by rw [HR.out] <;> rfl, HX2.out.b⟩
      have gp : ¬ (p : Int) < (i : Int) := by omega
      replace HAL : Hid (aln l i t = if (!tdy t) = true then 112 else if t.lo > t.hi ∨ (t.lo < 0 ∧ t.k ≠ 2) then 113 else if ((rfs t).any fun r => !(fnd l r.n).2) = true then 114 else if (!fft t) = true then 115 else if (!cft t) = true then 116 else 0) := by
        show _ = _
        rw [HAL.out, if_neg (by rw [Option.getD_some, decide_eq_false hpl]; decide)]
      refine heldTake 16 _ rfl (by kernel_rfl) (by kernel_rfl) (by kernel_rfl) (fun _ _ _ h => h) rfl hS (fun wy hy => by first | (go_simp; done) | (go_simp; rfl) | rfl) ?_
      (try simp only [Act.put]); (try simp only [List.setIfInBounds_toArray, List.set_cons_zero, List.set_cons_succ])
      refine heldTake 17 _ rfl (by kernel_rfl) (by kernel_rfl) (by kernel_rfl) (fun _ _ _ h => h) rfl hS (fun wy hy => by first | (go_simp; done) | (go_simp; rfl) | rfl) ?_
      (try simp only [Act.put]); (try simp only [List.setIfInBounds_toArray, List.set_cons_zero, List.set_cons_succ])
      refine heldDone (by kernel_rfl) ?_
      have HX2 := hide hS
      clear hS hS6 hb6 hsb HX gp hpl hpi HPE HNM
      have q1 : w6.cell? ⟨w.heap.size, 1, none⟩ = some (.int .i64 t.k) := blk_cell (j := 1) HX2.out.a rfl
      have HTD := hide (tdy_len t)
      have HCL2 := hide HX2.out.cl
      have HLE := hide (lean11_any w6 t af ac aw cf cc cw)
      by_cases k1 : t.k < 1
      · as_aux_lemma =>
        have HR : Hid (aln l i t = 112) := by show _ = _; rw [HAL.out, HTD.out, decide_eq_false (by omega), if_pos (by rfl)]
        clear HAL
        go_wp2_with fail
        go_ret
        exact ⟨by rw [HR.out] <;> rfl, HX2.out.b⟩
      by_cases k9 : 9 < t.k
      · as_aux_lemma =>
        have HR : Hid (aln l i t = 112) := by show _ = _; rw [HAL.out, HTD.out, decide_eq_false (by omega), if_pos (by rfl)]
        clear HAL
        go_wp2_with fail
        go_ret
        exact ⟨by rw [HR.out] <;> rfl, HX2.out.b⟩
      cases hle : len11 t with
      | false => as_aux_lemma =>
        have HR : Hid (aln l i t = 112) := by show _ = _; rw [HAL.out, HTD.out, hle, Bool.and_false, if_pos (by rfl)]
        rw [hle] at HLE
        clear HAL HTD hle
        go_wp2_with (first
          | (refine wpList_aggAt rfl rfl HIT.out HAT.out w.heap.size 0 #[.string t.n, .int .i64 t.k, .int .i64 t.lo, .int .i64 t.hi, .string t.r.n, .bool t.r.z, .slice af t.fs.length cf, .slice ac t.cs.length cc, .slice aw t.ws.length cw] rfl rfl HCL2.out ?_)
          | (go_at_call 51; refine HLE.out.mono ?_; rintro e w7 ⟨rfl, hb7⟩))
        go_ret
        exact ⟨by rw [HR.out] <;> rfl, (HX2.out.next hb7).b⟩
      | true =>
        have HTT : Hid (tdy t = true) := by show _ = _; rw [HTD.out, hle, decide_eq_true (by omega)]; rfl
        replace HAL : Hid (aln l i t = if rgb t = true then 113 else if ((rfs t).any fun r => !(fnd l r.n).2) = true then 114 else if (!fft t) = true then 115 else if (!cft t) = true then 116 else 0) := by
          show _ = _
          rw [HAL.out, HTT.out, if_neg (by decide), rgb_eq HTT.out]
          simp only [decide_eq_true_eq]
        rw [hle] at HLE
        have hk19 : 1 ≤ t.k ∧ t.k ≤ 9 := by omega
        clear HTD hle
        go_upto_region 6 with (first
          | (refine wpList_aggAt rfl rfl HIT.out HAT.out w.heap.size 0 #[.string t.n, .int .i64 t.k, .int .i64 t.lo, .int .i64 t.hi, .string t.r.n, .bool t.r.z, .slice af t.fs.length cf, .slice ac t.cs.length cc, .slice aw t.ws.length cw] rfl rfl HCL2.out ?_)
          | (go_at_call 51; refine HLE.out.mono ?_; rintro e w7 ⟨rfl, hb7⟩))
        have HX3 := hide (HX2.out.next hb7)
        clear hb7 HX2 HCL2 HLE q1 k1 k9
        have q1 : w7.cell? ⟨w.heap.size, 1, none⟩ = some (.int .i64 t.k) := blk_cell (j := 1) HX3.out.a rfl
        have q2 : w7.cell? ⟨w.heap.size, 2, none⟩ = some (.int .i64 t.lo) := blk_cell (j := 2) HX3.out.a rfl
        have q3 : w7.cell? ⟨w.heap.size, 3, none⟩ = some (.int .i64 t.hi) := blk_cell (j := 3) HX3.out.a rfl
        have HRB : Hid (rgb t = ((decide (t.k = 2) && decide (t.hi < t.lo)) || ((decide (t.k = 3) || decide (t.k = 4)) && (decide (t.lo < 0) || decide (t.hi < t.lo))))) := rfl
        go_cut [74] from 43 to 75 (fun v wx => v = .bool (rgb t) ∧ wx = w7)
        case first =>
          by_cases h2 : t.k = 2
          · have g2 : (t.k == 2) = true := beq_iff_eq.2 h2
            have g3 : (t.k == 3) = false := beq_eq_false_iff_ne.2 (by omega)
            have g4 : (t.k == 4) = false := beq_eq_false_iff_ne.2 (by omega)
            by_cases hl : t.hi < t.lo
            · as_aux_lemma =>
              have HR : Hid (rgb t = true) := by show _ = _; rw [HRB.out, decide_eq_true h2, decide_eq_true hl]; rfl
              clear h2 HRB HAL hk19
              go_wp2_with fail
              go_meet
              case rel => exact ⟨by rw [HR.out] <;> rfl, rfl⟩
            · as_aux_lemma =>
              have HR : Hid (rgb t = false) := by show _ = _; rw [HRB.out, decide_eq_false hl, decide_eq_false (show ¬ t.k = 3 by omega), decide_eq_false (show ¬ t.k = 4 by omega)]; simp
              clear h2 HRB HAL hk19
              go_wp2_with fail
              go_meet
              case rel => exact ⟨by rw [HR.out] <;> rfl, rfl⟩
          have g2 : (t.k == 2) = false := beq_eq_false_iff_ne.2 h2
          by_cases h3 : t.k = 3
          · have g3 : (t.k == 3) = true := beq_iff_eq.2 h3
            by_cases h0 : t.lo < 0
            · as_aux_lemma =>
              have HR : Hid (rgb t = true) := by show _ = _; rw [HRB.out, decide_eq_true h3, decide_eq_true h0]; simp
              clear h2 h3 HRB HAL hk19
              go_wp2_with fail
              go_meet
              case rel => exact ⟨by rw [HR.out] <;> rfl, rfl⟩
            by_cases hl : t.hi < t.lo
            · as_aux_lemma =>
              have HR : Hid (rgb t = true) := by show _ = _; rw [HRB.out, decide_eq_true h3, decide_eq_true hl]; simp
              clear h2 h3 HRB HAL hk19
              go_wp2_with fail
              go_meet
              case rel => exact ⟨by rw [HR.out] <;> rfl, rfl⟩
            · as_aux_lemma =>
              have HR : Hid (rgb t = false) := by show _ = _; rw [HRB.out, decide_eq_false h0, decide_eq_false hl]; simp
              clear h2 h3 HRB HAL hk19
              go_wp2_with fail
              go_meet
              case rel => exact ⟨by rw [HR.out] <;> rfl, rfl⟩
          have g3 : (t.k == 3) = false := beq_eq_false_iff_ne.2 h3
          by_cases h4 : t.k = 4
          · have g4 : (t.k == 4) = true := beq_iff_eq.2 h4
            by_cases h0 : t.lo < 0
            · as_aux_lemma =>
              have HR : Hid (rgb t = true) := by show _ = _; rw [HRB.out, decide_eq_true h4, decide_eq_true h0]; simp
              clear h2 h3 h4 HRB HAL hk19
              go_wp2_with fail
              go_meet
              case rel => exact ⟨by rw [HR.out] <;> rfl, rfl⟩
            by_cases hl : t.hi < t.lo
            · as_aux_lemma =>
              have HR : Hid (rgb t = true) := by show _ = _; rw [HRB.out, decide_eq_true h4, decide_eq_true hl]; simp
              clear h2 h3 h4 HRB HAL hk19
              go_wp2_with fail
              go_meet
              case rel => exact ⟨by rw [HR.out] <;> rfl, rfl⟩
            · as_aux_lemma =>
              have HR : Hid (rgb t = false) := by show _ = _; rw [HRB.out, decide_eq_false h0, decide_eq_false hl]; simp
              clear h2 h3 h4 HRB HAL hk19
              go_wp2_with fail
              go_meet
              case rel => exact ⟨by rw [HR.out] <;> rfl, rfl⟩
          as_aux_lemma =>
            have g4 : (t.k == 4) = false := beq_eq_false_iff_ne.2 h4
            have HR : Hid (rgb t = false) := by show _ = _; rw [HRB.out, decide_eq_false h2, decide_eq_false h3, decide_eq_false h4]; rfl
            clear h2 h3 h4 HRB HAL hk19
            go_wp2_with fail
            go_meet
            case rel => exact ⟨by rw [HR.out] <;> rfl, rfl⟩
        obtain ⟨rfl, hww⟩ := hcut
        have hww := hww.symm
        subst hww
        clear HRB q1 q2 q3
        cases hrg : rgb t with
        | true => as_aux_lemma =>
          have HR : Hid (aln l i t = 113) := by show _ = _; rw [HAL.out, hrg, if_pos rfl]
          clear HAL hrg
          go_wp2_with fail
          go_ret
          exact ⟨by rw [HR.out] <;> rfl, HX3.out.b⟩
        | false =>
          rw [hrg, if_neg (by decide)] at HAL
          have HCL3 := hide HX3.out.cl
          clear hrg
          go_wp2_with (refine wpList_aggAt rfl rfl HIT.out HAT.out w.heap.size 0 #[.string t.n, .int .i64 t.k, .int .i64 t.lo, .int .i64 t.hi, .string t.r.n, .bool t.r.z, .slice af t.fs.length cf, .slice ac t.cs.length cc, .slice aw t.ws.length cw] rfl rfl HCL3.out ?_)
          refine (refs11_any w7 t _ (HTI.out.move (keep_below HX3.out.b)) HSH.out.1 HSH.out.2.1).mono ?_
          rintro e w8 ⟨vr, rfl, hP⟩
          have HX4 := hide (HX3.out.next hP.out.2)
          have hR := hP.out.1
          clear hP HX3 HCL3
          obtain ⟨⟨ar, cr, rfl, _, hrf⟩, hrm⟩ := hR
          have HRF := hide hrf
          clear hrf
          go_wp2_with fail
          go_loopw [7] (fun vi wx => ∃ (m : Nat), m ≤ (rfs t).length ∧ vi = .int .i64 (m : Nat) ∧ Hid (∀ j r, j < m → (rfs t)[j]? = some r → (fnd l r.n).2 = true) ∧ Hid (Below w8.heap.size w8 wx)) (fun vi _ => (rfs t).length - (intOf vi).toNat)
          case atStart => exact ⟨0, by omega, rfl, fun j _ hj => absurd hj (by omega), Below.refl _ _⟩
          case round =>
            obtain ⟨m, hm, rfl, HN, HBz1⟩ := hrel
            by_cases hlt : m < (rfs t).length
            · have g1 : (m : Int) < ((rfs t).length : Int) := by omega
              obtain ⟨r, hr⟩ : ∃ r, (rfs t)[m]? = some r := ⟨(rfs t)[m], List.getElem?_eq_getElem hlt⟩
              obtain ⟨b2, off2, rfl, hcc⟩ := HRF.out.resolve_left (fun h => by rw [h] at hlt; simp at hlt)
              obtain ⟨c, ⟨rfl, _⟩, hcell⟩ := hcc m r hr
              have HQ0 : Hid (∀ wy, Below wr.heap.size wr wy → wy.cell? ⟨b2, off2 + m * 2, none⟩ = some (.string r.n)) := fun wy hy => by
                have h := hcell 0 (.string r.n) rfl
                rw [Nat.add_zero] at h
                exact keep_below hy _ _ (keep_below HBz1.out _ _ h)
              have HTS : Hid (∀ wy, Below wr.heap.size wr wy → TSl wy (.slice (some ⟨b, off, none⟩) l.length cap) l) := fun wy hy => TSl.mv HV.out (fun p u hu => keep_below hy _ _ (keep_below HBz1.out _ _ (keep_below HX4.out.b _ _ hu)))
              have HFP := hide (fnd_pli l r.n)
              have HNX : Hid ((fnd l r.n).2 = true → ∀ j r, j < m + 1 → (rfs t)[j]? = some r → (fnd l r.n).2 = true) := fun h j r' hj hr' => by
                by_cases e : j = m
                · subst e
                  rw [hr] at hr'
                  rw [← Option.some.inj hr']
                  exact h
                · exact HN.out j r' (by omega) hr'
              have HBA : Hid ((fnd l r.n).2 = false → aln l i t = 114) := fun h => by
                rw [HAL.out, if_pos]
                rw [List.any_eq_true]
                exact ⟨r, List.mem_of_getElem? hr, by rw [h]; rfl⟩
              clear hcc hcell hr HN HRF HAL
              by_cases hpn : pli l r.n < 0
              · have HPL : Hid (∀ wy, Below wr.heap.size wr wy → Calls Tryz.prog 50 #[.slice (some ⟨b, off, none⟩) l.length cap, .string r.n] wy fun e w' => e = .returned (.int .i64 (pli l r.n)) ∧ w' = wy) := fun wy hy => place11_any wy _ l (HTS.out wy hy) r.n
                rw [decide_eq_true hpn, Bool.true_and] at HFP
                obtain ⟨P, hP⟩ : ∃ P, pli l r.n = P := ⟨_, rfl⟩
                rw [hP] at HPL hpn
                obtain ⟨M, hM⟩ : ∃ M, memb bltn r.n = M := ⟨_, rfl⟩
                rw [hM] at HFP
                have HMM := hide hM
                clear hP hM
                have hM2 : (fnd l r.n).2 = M := by have h := HFP.out; revert h; cases (fnd l r.n).2 <;> cases M <;> decide
                rw [hM2] at HNX HBA
                clear hM2 HFP
                go_wp2_with fail
                refine heldStart (S := Below wr.heap.size wr) (by kernel_rfl) ?_
                have hS : Below wr.heap.size wr wr.drew := Below.drew (Below.refl _ _)
                generalize wr.drew = w9 at *
                refine heldTake 0 _ rfl (by kernel_rfl) (by kernel_rfl) (by kernel_rfl) (fun _ _ _ h => h) rfl hS (fun wy hy => by first | (go_simp; done) | (go_simp; rfl) | rfl) ?_
                (try simp only [Act.put]); (try simp only [List.setIfInBounds_toArray, List.set_cons_zero, List.set_cons_succ])
                refine heldTake 1 _ rfl (by kernel_rfl) (by kernel_rfl) (by kernel_rfl) (fun _ _ _ h => h) rfl hS (fun wy hy => by first | (go_simp; done) | (go_simp; rfl) | rfl) ?_
                (try simp only [Act.put]); (try simp only [List.setIfInBounds_toArray, List.set_cons_zero, List.set_cons_succ])
                refine heldTake 2 _ rfl (by kernel_rfl) (by kernel_rfl) (by kernel_rfl) (fun _ _ _ h => h) rfl hS (fun wy hy => by first | (go_simp; done) | (go_simp; rfl) | rfl) ?_
                (try simp only [Act.put]); (try simp only [List.setIfInBounds_toArray, List.set_cons_zero, List.set_cons_succ])
                refine heldTake 3 _ rfl (by kernel_rfl) (by kernel_rfl) (by kernel_rfl) (fun _ _ _ h => h) rfl hS (fun wy hy => by first | (go_simp; done) | (go_simp; rfl) | rfl) ?_
                (try simp only [Act.put]); (try simp only [List.setIfInBounds_toArray, List.set_cons_zero, List.set_cons_succ])
                refine heldTake 4 _ rfl (by kernel_rfl) (by kernel_rfl) (by kernel_rfl) (fun _ _ _ h => h) rfl hS (fun wy hy => by first | (go_simp; done) | (go_simp; rfl) | rfl) ?_
                (try simp only [Act.put]); (try simp only [List.setIfInBounds_toArray, List.set_cons_zero, List.set_cons_succ])
                refine heldTake 5 _ rfl (by kernel_rfl) (by kernel_rfl) (by kernel_rfl) (fun _ _ _ h => h) rfl hS (fun wq hq => by have h0 := HQ0.out wq hq; first | (go_simp; done) | (go_simp; rfl) | rfl) ?_
                (try simp only [Act.put]); (try simp only [List.setIfInBounds_toArray, List.set_cons_zero, List.set_cons_succ])
                refine heldStep 6 rfl (by kernel_rfl) (fun K hK => ?_)
                go_simp
                refine (HPL.out _ hS).mono ?_
                rintro e wq1 ⟨rfl, hwq1⟩
                have hwq1 := hwq1.symm
                subst hwq1
                refine (Hid.out hK) _ _ hS (fun hS2 => ?_)
                clear hK K hS
                have hS := hS2
                clear hS2
                (try simp only [Act.put]); (try simp only [List.setIfInBounds_toArray, List.set_cons_zero, List.set_cons_succ])
                refine heldTake 7 _ rfl (by kernel_rfl) (by kernel_rfl) (by kernel_rfl) (fun _ _ _ h => h) rfl hS (fun wy hy => by first | (go_simp; done) | (go_simp; rfl) | rfl) ?_
                (try simp only [Act.put]); (try simp only [List.setIfInBounds_toArray, List.set_cons_zero, List.set_cons_succ])
                refine heldTake 8 _ rfl (by kernel_rfl) (by kernel_rfl) (by kernel_rfl) (fun _ _ _ h => h) rfl hS (fun wy hy => by first | (go_simp; done) | (go_simp; rfl) | rfl) ?_
                (try simp only [Act.put]); (try simp only [List.setIfInBounds_toArray, List.set_cons_zero, List.set_cons_succ])
                refine heldTake 10 _ rfl (by kernel_rfl) (by kernel_rfl) (by kernel_rfl) (fun _ _ _ h => h) rfl hS (fun wy hy => by first | (go_simp; done) | (go_simp; rfl) | rfl) ?_
                (try simp only [Act.put]); (try simp only [List.setIfInBounds_toArray, List.set_cons_zero, List.set_cons_succ])
                refine heldTake 11 _ rfl (by kernel_rfl) (by kernel_rfl) (by kernel_rfl) (fun _ _ _ h => h) rfl hS (fun wy hy => by first | (go_simp; done) | (go_simp; rfl) | rfl) ?_
                (try simp only [Act.put]); (try simp only [List.setIfInBounds_toArray, List.set_cons_zero, List.set_cons_succ])
                refine heldTake 12 _ rfl (by kernel_rfl) (by kernel_rfl) (by kernel_rfl) (fun _ _ _ h => h) rfl hS (fun wy hy => by first | (go_simp; done) | (go_simp; rfl) | rfl) ?_
                (try simp only [Act.put]); (try simp only [List.setIfInBounds_toArray, List.set_cons_zero, List.set_cons_succ])
                refine heldTake 13 _ rfl (by kernel_rfl) (by kernel_rfl) (by kernel_rfl) (fun _ _ _ h => h) rfl hS (fun wy hy => by first | (go_simp; done) | (go_simp; rfl) | rfl) ?_
                (try simp only [Act.put]); (try simp only [List.setIfInBounds_toArray, List.set_cons_zero, List.set_cons_succ])
                refine heldTake 14 _ rfl (by kernel_rfl) (by kernel_rfl) (by kernel_rfl) (fun _ _ _ h => h) rfl hS (fun wq hq => by have h0 := HQ0.out wq hq; first | (go_simp; done) | (go_simp; rfl) | rfl) ?_
                (try simp only [Act.put]); (try simp only [List.setIfInBounds_toArray, List.set_cons_zero, List.set_cons_succ])
                refine heldStep 9 rfl (by kernel_rfl) (fun K hK => ?_)
                go_simp
                refine (builtIn11_any _).mono ?_
                rintro e w10 ⟨vb, rfl, hsb, hb10⟩
                have hS10 : Below wr.heap.size wr w10 := hS.trans (hb10.mono hS.size)
                refine (Hid.out hK) _ _ hS10 (fun hS2 => ?_)
                clear hK K hS
                have hS := hS2
                clear hS2
                (try simp only [Act.put]); (try simp only [List.setIfInBounds_toArray, List.set_cons_zero, List.set_cons_succ])
                refine heldStep 15 rfl (by kernel_rfl) (fun K hK => ?_)
                go_simp
                refine (is11_any _ vb bltn hsb r.n).mono ?_
                rintro e wq2 ⟨rfl, hwq2⟩
                have hwq2 := hwq2.symm
                subst hwq2
                rw [HMM.out]
                refine (Hid.out hK) _ _ hS10 (fun hS2 => ?_)
                clear hK K hS
                have hS := hS2
                clear hS2
                (try simp only [Act.put]); (try simp only [List.setIfInBounds_toArray, List.set_cons_zero, List.set_cons_succ])
                have HB2 : Hid (Below w8.heap.size w8 w10) := HBz1.out.trans (hS10.mono HBz1.out.size)
                cases M with
                | true =>
                  refine heldTake 16 _ rfl (by kernel_rfl) (by kernel_rfl) (by kernel_rfl) (fun _ _ _ h => h) rfl hS (fun wy hy => by first | (go_simp; done) | (go_simp; rfl) | rfl) ?_
                  (try simp only [Act.put]); (try simp only [List.setIfInBounds_toArray, List.set_cons_zero, List.set_cons_succ])
                  refine heldTake 17 _ rfl (by kernel_rfl) (by kernel_rfl) (by kernel_rfl) (fun _ _ _ h => h) rfl hS (fun wy hy => by first | (go_simp; done) | (go_simp; rfl) | rfl) ?_
                  (try simp only [Act.put]); (try simp only [List.setIfInBounds_toArray, List.set_cons_zero, List.set_cons_succ])
                  refine heldDone (by kernel_rfl) ?_
                  have HN2 := hide (HNX.out rfl)
                  clear HQ0 HTS HPL hS hS10 hsb hb10 HNX HBA HMM
                  go_wp2_with fail
                  go_roundw
                  case rel => exact ⟨m + 1, by omega, by go_num, HN2, HB2⟩
                  case measure => simp [intOf]; omega
                | false =>
                  refine heldTake 16 _ rfl (by kernel_rfl) (by kernel_rfl) (by kernel_rfl) (fun _ _ _ h => h) rfl hS (fun wy hy => by first | (go_simp; done) | (go_simp; rfl) | rfl) ?_
                  (try simp only [Act.put]); (try simp only [List.setIfInBounds_toArray, List.set_cons_zero, List.set_cons_succ])
                  refine heldTake 17 _ rfl (by kernel_rfl) (by kernel_rfl) (by kernel_rfl) (fun _ _ _ h => h) rfl hS (fun wy hy => by first | (go_simp; done) | (go_simp; rfl) | rfl) ?_
                  (try simp only [Act.put]); (try simp only [List.setIfInBounds_toArray, List.set_cons_zero, List.set_cons_succ])
                  refine heldDone (by kernel_rfl) ?_
                  have HR := hide (HBA.out rfl)
                  clear HQ0 HTS HPL hS hS10 hsb hb10 HNX HBA HMM
                  go_wp2_with fail
                  go_ret
                  exact ⟨by rw [HR.out] <;> rfl, (HX4.out.next HB2.out).b⟩
              · as_aux_lemma =>
                have HPL : Hid (∀ t' : Ext wr, Calls Tryz.prog 50 #[.slice (some ⟨b, off, none⟩) l.length cap, .string r.n] t'.w' fun e w'' => e = .returned (.int .i64 (pli l r.n)) ∧ ∃ t2 : Ext wr, w'' = t2.w') := fun t' => Calls.ext_same (place11_any t'.w' _ l (HTS.out _ t'.h) r.n)
                rw [decide_eq_false hpn, Bool.false_and] at HFP
                have HN2 := hide (HNX.out (by simpa using HFP.out))
                have c0 : ∀ t' : Ext wr, t'.w'.cell? ⟨b2, off2 + m * 2, none⟩ = some (.string r.n) := fun t' => HQ0.out _ t'.h
                obtain ⟨P, hP⟩ : ∃ P, pli l r.n = P := ⟨_, rfl⟩
                rw [hP] at HPL hpn
                have hpd : decide (P < 0) = false := decide_eq_false hpn
                clear hP HNX HBA HFP HQ0 HTS
                go_wp2_with fail
                refine region_ext (by kernel_rfl) (by kernel_rfl) ?_
                repeat (
                  with_reducible refine wpQuiet_step (fun K hK => ?_)
                  go_simp
                  first
                    | (with_reducible refine hK _ ?_; clear hK K)
                    | (apply Exists.intro
                       refine ⟨fun _ => ?_, hK _ ?_⟩
                       (go_at_call 50; with_reducible exact HPL.out _)
                       clear hK K))
                refine wpQuiet_nil ?_
                rintro _ ⟨tq, rfl⟩
                have HB2 : Hid (Below w8.heap.size w8 tq.w') := HBz1.out.trans (tq.h.mono HBz1.out.size)
                clear c0 HPL
                go_wp2_with fail
                go_roundw
                case rel => exact ⟨m + 1, by omega, by go_num, HN2, HB2⟩
                case measure => simp [intOf]; omega
            · have g1 : ¬ (m : Int) < ((rfs t).length : Int) := by omega
              replace HAL : Hid (aln l i t = if (!fft t) = true then 115 else if (!cft t) = true then 116 else 0) := by
                show _ = _
                rw [HAL.out, if_neg]
                rw [Bool.not_eq_true, List.any_eq_false]
                intro r hr
                obtain ⟨j, hj, e⟩ := List.getElem_of_mem hr
                rw [HN.out j r (by omega) (by rw [List.getElem?_eq_getElem hj, e])]
                decide
              have HX5 := hide (HX4.out.next HBz1.out)
              clear HN HRF HX4
              have q1 : wr.cell? ⟨w.heap.size, 1, none⟩ = some (.int .i64 t.k) := blk_cell (j := 1) HX5.out.a rfl
              have HCL5 := hide HX5.out.cl
              have HFI := hide (fields11_any wr t _ (HTI.out.move (keep_below HX5.out.b)))
              go_upto_region 14 with fail
              go_cut [113] from 101 to 114 (fun v wx => v = .bool (!fft t) ∧ Hid (Tbx w #[.string t.n, .int .i64 t.k, .int .i64 t.lo, .int .i64 t.hi, .string t.r.n, .bool t.r.z, .slice af t.fs.length cf, .slice ac t.cs.length cc, .slice aw t.ws.length cw] wx))
              case first =>
                by_cases h5 : t.k = 5 ∨ t.k = 6
                · generalize fft t = FF at *
                  by_cases h55 : t.k = 5
                  · as_aux_lemma =>
                    have g5 : (t.k == 5) = true := beq_iff_eq.2 h55
                    clear h5 h55 hk19
                    cases FF <;> (
                      go_wp2_with (first
                        | (refine wpList_aggAt rfl rfl HIT.out HAT.out w.heap.size 0 #[.string t.n, .int .i64 t.k, .int .i64 t.lo, .int .i64 t.hi, .string t.r.n, .bool t.r.z, .slice af t.fs.length cf, .slice ac t.cs.length cc, .slice aw t.ws.length cw] rfl rfl HCL5.out ?_)
                        | (go_at_call 53; refine HFI.out.mono ?_; rintro e w11 ⟨rfl, hb11⟩))
                      go_meet
                      case rel => exact ⟨rfl, HX5.out.next hb11⟩)
                  · as_aux_lemma =>
                    have g5 : (t.k == 5) = false := beq_eq_false_iff_ne.2 h55
                    have g6 : (t.k == 6) = true := beq_iff_eq.2 (h5.resolve_left h55)
                    clear h5 h55 hk19
                    cases FF <;> (
                      go_wp2_with (first
                        | (refine wpList_aggAt rfl rfl HIT.out HAT.out w.heap.size 0 #[.string t.n, .int .i64 t.k, .int .i64 t.lo, .int .i64 t.hi, .string t.r.n, .bool t.r.z, .slice af t.fs.length cf, .slice ac t.cs.length cc, .slice aw t.ws.length cw] rfl rfl HCL5.out ?_)
                        | (go_at_call 53; refine HFI.out.mono ?_; rintro e w11 ⟨rfl, hb11⟩))
                      go_meet
                      case rel => exact ⟨rfl, HX5.out.next hb11⟩)
                · as_aux_lemma =>
                  have g5 : (t.k == 5) = false := beq_eq_false_iff_ne.2 (fun e => h5 (.inl e))
                  have g6 : (t.k == 6) = false := beq_eq_false_iff_ne.2 (fun e => h5 (.inr e))
                  have HR := hide (fft_other HTT.out h5)
                  clear h5 hk19 HFI
                  go_wp2_with fail
                  go_meet
                  case rel => exact ⟨by rw [HR.out] <;> rfl, HX5.out⟩
              obtain ⟨rfl, HX6⟩ := hcut
              clear HFI HCL5 q1 HX5
              rename World => w12
              cases hff : fft t with
              | false => as_aux_lemma =>
                have HR : Hid (aln l i t = 115) := by show _ = _; rw [HAL.out, hff, if_pos (by rfl)]
                clear HAL hff
                go_wp2_with fail
                go_ret
                exact ⟨by rw [HR.out] <;> rfl, HX6.out.b⟩
              | true =>
                rw [hff, if_neg (by decide)] at HAL
                clear hff
                have q1 : w12.cell? ⟨w.heap.size, 1, none⟩ = some (.int .i64 t.k) := blk_cell (j := 1) HX6.out.a rfl
                have HCL6 := hide HX6.out.cl
                by_cases h7 : 7 ≤ t.k
                · as_aux_lemma =>
                  have g7 : (7 : Int) ≤ t.k := h7
                  have HCA := hide (cases11_any w12 t _ (HTI.out.move (keep_below HX6.out.b)) ⟨h7, hk19.2⟩ HSH.out.2.1)
                  generalize cft t = CF at *
                  clear h7 hk19
                  cases CF with
                  | true =>
                    have HR : Hid (aln l i t = 0) := by show _ = _; rw [HAL.out, if_neg (by decide)]
                    go_wp2_with (first
                      | (refine wpList_aggAt rfl rfl HIT.out HAT.out w.heap.size 0 #[.string t.n, .int .i64 t.k, .int .i64 t.lo, .int .i64 t.hi, .string t.r.n, .bool t.r.z, .slice af t.fs.length cf, .slice ac t.cs.length cc, .slice aw t.ws.length cw] rfl rfl HCL6.out ?_)
                      | (go_at_call 54; refine HCA.out.mono ?_; rintro e w13 ⟨rfl, hb13⟩))
                    go_ret
                    exact ⟨by rw [HR.out] <;> rfl, (HX6.out.next hb13).b⟩
                  | false =>
                    have HR : Hid (aln l i t = 116) := by show _ = _; rw [HAL.out, if_pos (by rfl)]
                    go_wp2_with (first
                      | (refine wpList_aggAt rfl rfl HIT.out HAT.out w.heap.size 0 #[.string t.n, .int .i64 t.k, .int .i64 t.lo, .int .i64 t.hi, .string t.r.n, .bool t.r.z, .slice af t.fs.length cf, .slice ac t.cs.length cc, .slice aw t.ws.length cw] rfl rfl HCL6.out ?_)
                      | (go_at_call 54; refine HCA.out.mono ?_; rintro e w13 ⟨rfl, hb13⟩))
                    go_ret
                    exact ⟨by rw [HR.out] <;> rfl, (HX6.out.next hb13).b⟩
                · as_aux_lemma =>
                  have g7 : ¬ (7 : Int) ≤ t.k := h7
                  have HR : Hid (aln l i t = 0) := by show _ = _; rw [HAL.out, cft_other (by omega), if_neg (by decide)]
                  clear h7 hk19
                  go_wp2_with fail
                  go_ret
                  exact ⟨by rw [HR.out] <;> rfl, HX6.out.b⟩
end
end Go.Proofs.YtcmfgambfgebfaaGreatDoor
