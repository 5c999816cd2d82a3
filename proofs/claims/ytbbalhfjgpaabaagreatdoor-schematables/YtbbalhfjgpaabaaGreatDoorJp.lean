import Derived.Test.YtbbalhfjgpaabaaGreatDoorJo
import Derived.Test.YtbbalhfjgpaabaaGreatDoorJi
import Derived.Test.YtbbalhfjgpaabaaGreatDoorJd
import Derived.Test.YtbbalhfjgpaabaaGreatDoorJl
import Derived.Test.YtbbalhfjgpaabaaGreatDoorJn
import Derived.Test.YtbbalhfjgpaabaaGreatDoorJj
import Derived.Test.YtbbalhfjgpaabaaGreatDoorJb
import Derived.Test.YtbbalhfjgpaabaaGreatDoorJa
import Derived.Test.YtbbalhfjgpaabaaGreatDoorRows
import Derived.Lib.LaidU8T
import Derived.Lib.LaidIn
namespace Go.Proofs.YtbbalhfjgpaabaaGreatDoor
section
open Go.RowKit Go
theorem plc_le {t : Tp} : ∀ (l : List Tp) (i : Nat), l[i]? = some t → ∃ j, plc l t.n = some j ∧ j ≤ i
  | [], _, h => by cases h
  | u :: r, i, h => by
    unfold plc
    by_cases hu : u.n = t.n
    · rw [if_pos hu]
      exact ⟨0, rfl, Nat.zero_le _⟩
    · rw [if_neg hu]
      rcases i with _ | i
      · have e : u = t := by simpa using h
        exact absurd (by rw [e]) hu
      · obtain ⟨j, hj, hji⟩ := plc_le r i (by simpa using h)
        exact ⟨j + 1, by rw [hj]; rfl, by omega⟩
theorem Tbx.cl {w wx : World} {tc : Array Value} (h : Tbx w tc wx) : ∀ j u, tc[j]? = some u → wx.cell? ⟨w.heap.size, 0 + j, none⟩ = some u := fun j u hu => by
  rw [Nat.zero_add]
  exact blk_cell h.a hu
set_option maxRecDepth 1000000 in
set_option maxHeartbeats 8000000 in
theorem alone11_any (w : World) (v : Value) (l : List Tp) (hv : TSl w v l) (hS : Shrt l) (i : Nat) (t : Tp) (ht : l[i]? = some t) : Calls Tryz.prog 22 #[v, .int .i64 (i : Nat)] w fun e w' => e = .returned (.int .i64 (aln l i t : Nat)) ∧ Below w.heap.size w w' := by
  have hmax := hv.max
  have HV := hide hv
  have hil : i < l.length := (List.getElem?_eq_some_iff.1 ht).1
  obtain ⟨⟨a, cap, rfl, hn, hcl⟩, _⟩ := hv
  obtain ⟨b, off, rfl, hcc⟩ := hcl.resolve_left (fun h => by rw [h] at hil; simp at hil)
  obtain ⟨c, hc, hcell⟩ := hcc i t ht
  have HTI := hide hc
  obtain ⟨⟨vf, vc, vw, rfl, ⟨⟨af, cf, rfl, -, -⟩, -⟩, ⟨⟨ac, cc, rfl, -, -⟩, -⟩, ⟨⟨aw, cw, rfl, -, -⟩, -, -⟩⟩, -⟩ := hc
  unfold tpc at hcell HTI
  have HCL := hide hcell
  have HSH := hide (hS t (List.mem_of_getElem? ht))
  have HAL : Hid (aln l i t = if (!nbl t.n || (ownK t.n).isSome || decide ((plc l t.n).getD 0 < i)) = true then 111 else if (!tdy t) = true then 112 else if t.lo > t.hi ∨ (t.lo < 0 ∧ t.k ≠ 2) then 113 else if ((rfs t).any fun r => !(fnd l r.n).2) = true then 114 else if (!fft t) = true then 115 else if (!cft t) = true then 116 else 0) := rfl
  obtain ⟨p, hp, hpi⟩ := plc_le l i ht
  have HPE : Hid (pli l t.n = (p : Nat)) := by show _ = _; unfold pli; rw [hp]
  rw [hp] at HAL
  have gi : (i : Int) < (l.length : Int) := by omega
  have HIT := hide infoTp
  have HAT : Hid (∀ w, (isAgg 69).run Tryz.prog w = .ok true w) := aggTp
  have HX := hide (Tbx.start w #[.string t.n, .int .i64 t.k, .int .i64 t.lo, .int .i64 t.hi, .string t.r.n, .bool t.r.z, .slice af t.fs.length cf, .slice ac t.cs.length cc, .slice aw t.ws.length cw])
  clear hn hcc hcell hS ht hil hp hcl
  go_enter Tryz.func22, Tryz.ntmps22
  go_upto_region 2 with (refine wpList_aggAt rfl rfl HIT.out HAT.out b (off + i * 9) #[.string t.n, .int .i64 t.k, .int .i64 t.lo, .int .i64 t.hi, .string t.r.n, .bool t.r.z, .slice af t.fs.length cf, .slice ac t.cs.length cc, .slice aw t.ws.length cw] rfl rfl HCL.out ?_)
  (try simp only [Act.put]); (try simp only [LsA, Ls0, LsS])
  generalize w.alloc (.cells #[.string t.n, .int .i64 t.k, .int .i64 t.lo, .int .i64 t.hi, .string t.r.n, .bool t.r.z, .slice af t.fs.length cf, .slice ac t.cs.length cc, .slice aw t.ws.length cw] 69) = w1 at *
  clear HCL
  cases hnb : nbl t.n with
  | false => as_aux_lemma =>
    have HR : Hid (aln l i t = 111) := by show _ = _; rw [HAL.out, hnb, if_pos (by rfl)]
    clear HAL
    have c0 : ∀ t' : Ext w1, t'.w'.cell? ⟨w.heap.size, 0, none⟩ = some (.string t.n) := fun t' => Ext.cell (blk_cell (j := 0) HX.out.a rfl) t'
    have HNM : Hid (∀ t' : Ext w1, Calls Tryz.prog 54 #[.string t.n] t'.w' fun e w'' => e = .returned (.bool false) ∧ ∃ t2 : Ext w1, w'' = t2.w') := fun t' => by
      have h := named11_any t'.w' t.n
      rw [hnb] at h
      exact Calls.ext_same h
    clear hnb
    refine region_ext (by kernel_rfl) (by kernel_rfl) ?_
    repeat (
      with_reducible refine wpQuiet_step (fun K hK => ?_)
      go_simp
      first
        | (with_reducible refine hK _ ?_; clear hK K)
        | (apply Exists.intro
           refine ⟨fun _ => ?_, hK _ ?_⟩
           (go_at_call 54; with_reducible exact HNM.out _)
           clear hK K))
    refine wpQuiet_nil ?_
    rintro _ ⟨tq, rfl⟩
    have HX2 := hide (HX.out.next tq.h)
    clear c0 HNM HX
    go_wp2_with fail
    go_ret
    exact ⟨by rw [HR.out] <;> rfl, HX2.out.b⟩
  | true =>
    rw [hnb] at HAL
    have HNM : Hid (∀ wy, Calls Tryz.prog 54 #[.string t.n] wy fun e w' => e = .returned (.bool true) ∧ w' = wy) := fun wy => by
      have h := named11_any wy t.n
      rw [hnb] at h
      exact h
    clear hnb
    have HPL : Hid (∀ wy, Below w.heap.size w wy → Calls Tryz.prog 56 #[.slice (some ⟨b, off, none⟩) l.length cap, .string t.n] wy fun e w' => e = .returned (.int .i64 (p : Nat)) ∧ w' = wy) := fun wy hy => by
      have h := place11_any wy _ l (TSl.mv HV.out (keep_below hy)) t.n
      rw [HPE.out] at h
      exact h
    refine heldStart (S := Tbx w #[.string t.n, .int .i64 t.k, .int .i64 t.lo, .int .i64 t.hi, .string t.r.n, .bool t.r.z, .slice af t.fs.length cf, .slice ac t.cs.length cc, .slice aw t.ws.length cw]) (by kernel_rfl) ?_
    have hS : Tbx w #[.string t.n, .int .i64 t.k, .int .i64 t.lo, .int .i64 t.hi, .string t.r.n, .bool t.r.z, .slice af t.fs.length cf, .slice ac t.cs.length cc, .slice aw t.ws.length cw] w1.drew := HX.out.next (Below.drew (Below.refl _ _))
    generalize w1.drew = w5 at *
    refine heldTake 0 _ rfl (by kernel_rfl) (by kernel_rfl) (by kernel_rfl) (fun _ _ _ h => h) rfl hS (fun wy hy => by first | (go_simp; done) | (go_simp; rfl) | rfl) ?_
    (try simp only [Act.put]); (try simp only [LsA, Ls0, LsS])
    refine heldTake 1 _ rfl (by kernel_rfl) (by kernel_rfl) (by kernel_rfl) (fun _ _ _ h => h) rfl hS (fun wq hq => by have h0 := blk_cell (j := 0) hq.a rfl; first | (go_simp; done) | (go_simp; rfl) | rfl) ?_
    (try simp only [Act.put]); (try simp only [LsA, Ls0, LsS])
    refine heldStep 2 rfl (by kernel_rfl) (fun K hK => ?_)
    go_simp
    refine (HNM.out _).mono ?_
    rintro e wq1 ⟨rfl, rfl⟩
    refine (Hid.out hK) _ _ hS (fun hS2 => ?_)
    clear hK K hS
    have hS := hS2
    clear hS2
    (try simp only [Act.put]); (try simp only [LsA, Ls0, LsS])
    refine heldTake 3 _ rfl (by kernel_rfl) (by kernel_rfl) (by kernel_rfl) (fun _ _ _ h => h) rfl hS (fun wy hy => by first | (go_simp; done) | (go_simp; rfl) | rfl) ?_
    (try simp only [Act.put]); (try simp only [LsA, Ls0, LsS])
    refine heldTake 4 _ rfl (by kernel_rfl) (by kernel_rfl) (by kernel_rfl) (fun _ _ _ h => h) rfl hS (fun wy hy => by first | (go_simp; done) | (go_simp; rfl) | rfl) ?_
    (try simp only [Act.put]); (try simp only [LsA, Ls0, LsS])
    refine heldTake 6 _ rfl (by kernel_rfl) (by kernel_rfl) (by kernel_rfl) (fun _ _ _ h => h) rfl hS (fun wy hy => by first | (go_simp; done) | (go_simp; rfl) | rfl) ?_
    (try simp only [Act.put]); (try simp only [LsA, Ls0, LsS])
    refine heldTake 7 _ rfl (by kernel_rfl) (by kernel_rfl) (by kernel_rfl) (fun _ _ _ h => h) rfl hS (fun wq hq => by have h0 := blk_cell (j := 0) hq.a rfl; first | (go_simp; done) | (go_simp; rfl) | rfl) ?_
    (try simp only [Act.put]); (try simp only [LsA, Ls0, LsS])
    refine heldStep 5 rfl (by kernel_rfl) (fun K hK => ?_)
    go_simp
    refine (builtIn11_any _).mono ?_
    rintro e w6 ⟨vb, rfl, hsb, hb6⟩
    have hS6 : Tbx w #[.string t.n, .int .i64 t.k, .int .i64 t.lo, .int .i64 t.hi, .string t.r.n, .bool t.r.z, .slice af t.fs.length cf, .slice ac t.cs.length cc, .slice aw t.ws.length cw] w6 := hS.next hb6
    refine (Hid.out hK) _ _ hS6 (fun hS2 => ?_)
    clear hK K hS
    have hS := hS2
    clear hS2
    (try simp only [Act.put]); (try simp only [LsA, Ls0, LsS])
    refine heldStep 8 rfl (by kernel_rfl) (fun K hK => ?_)
    go_simp
    refine (is11_any _ vb bltn hsb t.n).mono ?_
    rintro e wq2 ⟨rfl, hwq2⟩
    have hwq2 := hwq2.symm
    subst hwq2
    rw [memb_bltn]
    cases hok : (ownK t.n).isSome with
    | true =>
      rw [hok] at HAL
      have HR : Hid (aln l i t = 111) := by show _ = _; rw [HAL.out, if_pos (by rfl)]
      clear HAL hok HPL
      refine (Hid.out hK) _ _ hS6 (fun hS2 => ?_)
      clear hK K hS
      have hS := hS2
      clear hS2
      (try simp only [Act.put]); (try simp only [LsA, Ls0, LsS])
      refine heldTake 9 _ rfl (by kernel_rfl) (by kernel_rfl) (by kernel_rfl) (fun _ _ _ h => h) rfl hS (fun wy hy => by first | (go_simp; done) | (go_simp; rfl) | rfl) ?_
      (try simp only [Act.put]); (try simp only [LsA, Ls0, LsS])
      refine heldTake 10 _ rfl (by kernel_rfl) (by kernel_rfl) (by kernel_rfl) (fun _ _ _ h => h) rfl hS (fun wy hy => by first | (go_simp; done) | (go_simp; rfl) | rfl) ?_
      (try simp only [Act.put]); (try simp only [LsA, Ls0, LsS])
      refine heldSkip 11 rfl (by kernel_rfl) (by kernel_rfl) (by kernel_rfl) (fun _ _ _ h => h) rfl hS ?_
      (try simp only [Act.put]); (try simp only [LsA, Ls0, LsS])
      refine heldSkip 12 rfl (by kernel_rfl) (by kernel_rfl) (by kernel_rfl) (fun _ _ _ h => h) rfl hS ?_
      (try simp only [Act.put]); (try simp only [LsA, Ls0, LsS])
      refine heldSkip 13 rfl (by kernel_rfl) (by kernel_rfl) (by kernel_rfl) (fun _ _ _ h => h) rfl hS ?_
      (try simp only [Act.put]); (try simp only [LsA, Ls0, LsS])
      refine heldSkip 14 rfl (by kernel_rfl) (by kernel_rfl) (by kernel_rfl) (fun _ _ _ h => h) rfl hS ?_
      (try simp only [Act.put]); (try simp only [LsA, Ls0, LsS])
      refine heldSkip 15 rfl (by kernel_rfl) (by kernel_rfl) (by kernel_rfl) (fun _ _ _ h => h) rfl hS ?_
      (try simp only [Act.put]); (try simp only [LsA, Ls0, LsS])
      refine heldSkip 16 rfl (by kernel_rfl) (by kernel_rfl) (by kernel_rfl) (fun _ _ _ h => h) rfl hS ?_
      (try simp only [Act.put]); (try simp only [LsA, Ls0, LsS])
      refine heldTake 17 _ rfl (by kernel_rfl) (by kernel_rfl) (by kernel_rfl) (fun _ _ _ h => h) rfl hS (fun wy hy => by first | (go_simp; done) | (go_simp; rfl) | rfl) ?_
      (try simp only [Act.put]); (try simp only [LsA, Ls0, LsS])
      refine heldDone (by kernel_rfl) ?_
      have HX2 := hide hS
      clear hS hS6 hb6 hsb HX
      go_wp2_with fail
      go_ret
      exact ⟨by rw [HR.out] <;> rfl, HX2.out.b⟩
    | false =>
      rw [hok] at HAL
      clear hok
      refine (Hid.out hK) _ _ hS6 (fun hS2 => ?_)
      clear hK K hS
      have hS := hS2
      clear hS2
      (try simp only [Act.put]); (try simp only [LsA, Ls0, LsS])
      refine heldTake 9 _ rfl (by kernel_rfl) (by kernel_rfl) (by kernel_rfl) (fun _ _ _ h => h) rfl hS (fun wy hy => by first | (go_simp; done) | (go_simp; rfl) | rfl) ?_
      (try simp only [Act.put]); (try simp only [LsA, Ls0, LsS])
      refine heldTake 10 _ rfl (by kernel_rfl) (by kernel_rfl) (by kernel_rfl) (fun _ _ _ h => h) rfl hS (fun wy hy => by first | (go_simp; done) | (go_simp; rfl) | rfl) ?_
      (try simp only [Act.put]); (try simp only [LsA, Ls0, LsS])
      refine heldTake 11 _ rfl (by kernel_rfl) (by kernel_rfl) (by kernel_rfl) (fun _ _ _ h => h) rfl hS (fun wy hy => by first | (go_simp; done) | (go_simp; rfl) | rfl) ?_
      (try simp only [Act.put]); (try simp only [LsA, Ls0, LsS])
      refine heldTake 12 _ rfl (by kernel_rfl) (by kernel_rfl) (by kernel_rfl) (fun _ _ _ h => h) rfl hS (fun wy hy => by first | (go_simp; done) | (go_simp; rfl) | rfl) ?_
      (try simp only [Act.put]); (try simp only [LsA, Ls0, LsS])
      refine heldTake 13 _ rfl (by kernel_rfl) (by kernel_rfl) (by kernel_rfl) (fun _ _ _ h => h) rfl hS (fun wq hq => by have h0 := blk_cell (j := 0) hq.a rfl; first | (go_simp; done) | (go_simp; rfl) | rfl) ?_
      (try simp only [Act.put]); (try simp only [LsA, Ls0, LsS])
      refine heldTake 15 _ rfl (by kernel_rfl) (by kernel_rfl) (by kernel_rfl) (fun _ _ _ h => h) rfl hS (fun wy hy => by first | (go_simp; done) | (go_simp; rfl) | rfl) ?_
      (try simp only [Act.put]); (try simp only [LsA, Ls0, LsS])
      refine heldStep 14 rfl (by kernel_rfl) (fun K hK => ?_)
      go_simp
      refine (HPL.out _ hS.b).mono ?_
      rintro e wq3 ⟨rfl, hwq3⟩
      have hwq3 := hwq3.symm
      subst hwq3
      refine (Hid.out hK) _ _ hS6 (fun hS2 => ?_)
      clear hK K hS
      have hS := hS2
      clear hS2
      (try simp only [Act.put]); (try simp only [LsA, Ls0, LsS])
      clear HPL
      by_cases hpl : p < i
      · have gp : (p : Int) < (i : Int) := by omega
        have HR : Hid (aln l i t = 111) := by show _ = _; rw [HAL.out, if_pos (by rw [Option.getD_some, decide_eq_true hpl]; rfl)]
        clear HAL hpl
        refine heldTake 16 _ rfl (by kernel_rfl) (by kernel_rfl) (by kernel_rfl) (fun _ _ _ h => h) rfl hS (fun wy hy => by first | (go_simp; done) | (go_simp; rfl) | rfl) ?_
        (try simp only [Act.put]); (try simp only [LsA, Ls0, LsS])
        refine heldTake 17 _ rfl (by kernel_rfl) (by kernel_rfl) (by kernel_rfl) (fun _ _ _ h => h) rfl hS (fun wy hy => by first | (go_simp; done) | (go_simp; rfl) | rfl) ?_
        (try simp only [Act.put]); (try simp only [LsA, Ls0, LsS])
        refine heldDone (by kernel_rfl) ?_
        have HX2 := hide hS
        clear hS hS6 hb6 hsb HX
        go_wp2_with fail
        go_ret
        exact ⟨by rw [HR.out] <;> rfl, HX2.out.b⟩
      have gp : ¬ (p : Int) < (i : Int) := by omega
      replace HAL : Hid (aln l i t = if (!tdy t) = true then 112 else if t.lo > t.hi ∨ (t.lo < 0 ∧ t.k ≠ 2) then 113 else if ((rfs t).any fun r => !(fnd l r.n).2) = true then 114 else if (!fft t) = true then 115 else if (!cft t) = true then 116 else 0) := by
        show _ = _
        rw [HAL.out, if_neg (by rw [Option.getD_some, decide_eq_false hpl]; decide)]
      refine heldTake 16 _ rfl (by kernel_rfl) (by kernel_rfl) (by kernel_rfl) (fun _ _ _ h => h) rfl hS (fun wy hy => by first | (go_simp; done) | (go_simp; rfl) | rfl) ?_
      (try simp only [Act.put]); (try simp only [LsA, Ls0, LsS])
      refine heldTake 17 _ rfl (by kernel_rfl) (by kernel_rfl) (by kernel_rfl) (fun _ _ _ h => h) rfl hS (fun wy hy => by first | (go_simp; done) | (go_simp; rfl) | rfl) ?_
      (try simp only [Act.put]); (try simp only [LsA, Ls0, LsS])
      refine heldDone (by kernel_rfl) ?_
      have HX2 := hide hS
      clear hS hS6 hb6 hsb HX gp hpl hpi HPE HNM
      have q1 : w6.cell? ⟨w.heap.size, 1, none⟩ = some (.int .i64 t.k) := blk_cell (j := 1) HX2.out.a rfl
      have HTD := hide (tdy_len t)
      have HCL2 := hide HX2.out.cl
      have HLE := hide (lean11_any w6 t af ac aw cf cc cw)
      by_cases k1 : t.k < 1
      · as_aux_lemma =>
        have HR : Hid (aln l i t = 112) := by show _ = _; rw [HAL.out, HTD.out, decide_eq_false (by omega), if_pos (by rfl)]
        clear HAL
        go_wp2_with fail
        go_ret
        exact ⟨by rw [HR.out] <;> rfl, HX2.out.b⟩
      by_cases k9 : 9 < t.k
      · as_aux_lemma =>
        have HR : Hid (aln l i t = 112) := by show _ = _; rw [HAL.out, HTD.out, decide_eq_false (by omega), if_pos (by rfl)]
        clear HAL
        go_wp2_with fail
        go_ret
        exact ⟨by rw [HR.out] <;> rfl, HX2.out.b⟩
      cases hle : len11 t with
      | false => as_aux_lemma =>
        have HR : Hid (aln l i t = 112) := by show _ = _; rw [HAL.out, HTD.out, hle, Bool.and_false, if_pos (by rfl)]
        rw [hle] at HLE
        clear HAL HTD hle
        go_wp2_with (first
          | (refine wpList_aggAt rfl rfl HIT.out HAT.out w.heap.size 0 #[.string t.n, .int .i64 t.k, .int .i64 t.lo, .int .i64 t.hi, .string t.r.n, .bool t.r.z, .slice af t.fs.length cf, .slice ac t.cs.length cc, .slice aw t.ws.length cw] rfl rfl HCL2.out ?_)
          | (go_at_call 57; refine HLE.out.mono ?_; rintro e w7 ⟨rfl, hb7⟩))
        go_ret
        exact ⟨by rw [HR.out] <;> rfl, (HX2.out.next hb7).b⟩
      | true =>
        have HTT : Hid (tdy t = true) := by show _ = _; rw [HTD.out, hle, decide_eq_true (by omega)]; rfl
        replace HAL : Hid (aln l i t = if rgb t = true then 113 else if ((rfs t).any fun r => !(fnd l r.n).2) = true then 114 else if (!fft t) = true then 115 else if (!cft t) = true then 116 else 0) := by
          show _ = _
          rw [HAL.out, HTT.out, if_neg (by decide), rgb_eq HTT.out]
          simp only [decide_eq_true_eq]
        rw [hle] at HLE
        have hk19 : 1 ≤ t.k ∧ t.k ≤ 9 := by omega
        clear HTD hle
        go_upto_region 6 with (first
          | (refine wpList_aggAt rfl rfl HIT.out HAT.out w.heap.size 0 #[.string t.n, .int .i64 t.k, .int .i64 t.lo, .int .i64 t.hi, .string t.r.n, .bool t.r.z, .slice af t.fs.length cf, .slice ac t.cs.length cc, .slice aw t.ws.length cw] rfl rfl HCL2.out ?_)
          | (go_at_call 57; refine HLE.out.mono ?_; rintro e w7 ⟨rfl, hb7⟩))
        have HX3 := hide (HX2.out.next hb7)
        clear hb7 HX2 HCL2 HLE q1 k1 k9
        have q1 : w7.cell? ⟨w.heap.size, 1, none⟩ = some (.int .i64 t.k) := blk_cell (j := 1) HX3.out.a rfl
        have q2 : w7.cell? ⟨w.heap.size, 2, none⟩ = some (.int .i64 t.lo) := blk_cell (j := 2) HX3.out.a rfl
        have q3 : w7.cell? ⟨w.heap.size, 3, none⟩ = some (.int .i64 t.hi) := blk_cell (j := 3) HX3.out.a rfl
        have HRB : Hid (rgb t = ((decide (t.k = 2) && decide (t.hi < t.lo)) || ((decide (t.k = 3) || decide (t.k = 4)) && (decide (t.lo < 0) || decide (t.hi < t.lo))))) := rfl
        go_cut [74] from 43 to 75 (fun v wx => v = .bool (rgb t) ∧ wx = w7)
        case first =>
          by_cases h2 : t.k = 2
          · have g2 : (t.k == 2) = true := beq_iff_eq.2 h2
            have g3 : (t.k == 3) = false := beq_eq_false_iff_ne.2 (by omega)
            have g4 : (t.k == 4) = false := beq_eq_false_iff_ne.2 (by omega)
            by_cases hl : t.hi < t.lo
            · as_aux_lemma =>
              have HR : Hid (rgb t = true) := by show _ = _; rw [HRB.out, decide_eq_true h2, decide_eq_true hl]; rfl
              clear h2 HRB HAL hk19
              go_wp2_with fail
              go_meet
              case rel => exact ⟨by rw [HR.out] <;> rfl, rfl⟩
            · as_aux_lemma =>
              have HR : Hid (rgb t = false) := by show _ = _; rw [HRB.out, decide_eq_false hl, decide_eq_false (show ¬ t.k = 3 by omega), decide_eq_false (show ¬ t.k = 4 by omega)]; simp
              clear h2 HRB HAL hk19
              go_wp2_with fail
              go_meet
              case rel => exact ⟨by rw [HR.out] <;> rfl, rfl⟩
          have g2 : (t.k == 2) = false := beq_eq_false_iff_ne.2 h2
          by_cases h3 : t.k = 3
          · have g3 : (t.k == 3) = true := beq_iff_eq.2 h3
            by_cases h0 : t.lo < 0
            · as_aux_lemma =>
              have HR : Hid (rgb t = true) := by show _ = _; rw [HRB.out, decide_eq_true h3, decide_eq_true h0]; simp
              clear h2 h3 HRB HAL hk19
              go_wp2_with fail
              go_meet
              case rel => exact ⟨by rw [HR.out] <;> rfl, rfl⟩
            by_cases hl : t.hi < t.lo
            · as_aux_lemma =>
              have HR : Hid (rgb t = true) := by show _ = _; rw [HRB.out, decide_eq_true h3, decide_eq_true hl]; simp
              clear h2 h3 HRB HAL hk19
              go_wp2_with fail
              go_meet
              case rel => exact ⟨by rw [HR.out] <;> rfl, rfl⟩
            · as_aux_lemma =>
              have HR : Hid (rgb t = false) := by show _ = _; rw [HRB.out, decide_eq_false h0, decide_eq_false hl]; simp
              clear h2 h3 HRB HAL hk19
              go_wp2_with fail
              go_meet
              case rel => exact ⟨by rw [HR.out] <;> rfl, rfl⟩
          have g3 : (t.k == 3) = false := beq_eq_false_iff_ne.2 h3
          by_cases h4 : t.k = 4
          · have g4 : (t.k == 4) = true := beq_iff_eq.2 h4
            by_cases h0 : t.lo < 0
            · as_aux_lemma =>
              have HR : Hid (rgb t = true) := by show _ = _; rw [HRB.out, decide_eq_true h4, decide_eq_true h0]; simp
              clear h2 h3 h4 HRB HAL hk19
              go_wp2_with fail
              go_meet
              case rel => exact ⟨by rw [HR.out] <;> rfl, rfl⟩
            by_cases hl : t.hi < t.lo
            · as_aux_lemma =>
              have HR : Hid (rgb t = true) := by show _ = _; rw [HRB.out, decide_eq_true h4, decide_eq_true hl]; simp
              clear h2 h3 h4 HRB HAL hk19
              go_wp2_with fail
              go_meet
              case rel => exact ⟨by rw [HR.out] <;> rfl, rfl⟩
            · as_aux_lemma =>
              have HR : Hid (rgb t = false) := by show _ = _; rw [HRB.out, decide_eq_false h0, decide_eq_false hl]; simp
              clear h2 h3 h4 HRB HAL hk19
              go_wp2_with fail
              go_meet
              case rel => exact ⟨by rw [HR.out] <;> rfl, rfl⟩
          as_aux_lemma =>
            have g4 : (t.k == 4) = false := beq_eq_false_iff_ne.2 h4
            have HR : Hid (rgb t = false) := by show _ = _; rw [HRB.out, decide_eq_false h2, decide_eq_false h3, decide_eq_false h4]; rfl
            clear h2 h3 h4 HRB HAL hk19
            go_wp2_with fail
            go_meet
            case rel => exact ⟨by rw [HR.out] <;> rfl, rfl⟩
        obtain ⟨rfl, hww⟩ := hcut
        have hww := hww.symm
        subst hww
        clear HRB q1 q2 q3
        cases hrg : rgb t with
        | true => as_aux_lemma =>
          have HR : Hid (aln l i t = 113) := by show _ = _; rw [HAL.out, hrg, if_pos rfl]
          clear HAL hrg
          go_wp2_with fail
          go_ret
          exact ⟨by rw [HR.out] <;> rfl, HX3.out.b⟩
        | false =>
          rw [hrg, if_neg (by decide)] at HAL
          have HCL3 := hide HX3.out.cl
          clear hrg
          go_wp2_with (refine wpList_aggAt rfl rfl HIT.out HAT.out w.heap.size 0 #[.string t.n, .int .i64 t.k, .int .i64 t.lo, .int .i64 t.hi, .string t.r.n, .bool t.r.z, .slice af t.fs.length cf, .slice ac t.cs.length cc, .slice aw t.ws.length cw] rfl rfl HCL3.out ?_)
          refine (refs11_any w7 t _ (HTI.out.move (keep_below HX3.out.b)) HSH.out.1 HSH.out.2.1).mono ?_
          rintro e w8 ⟨vr, rfl, hP⟩
          have HX4 := hide (HX3.out.next hP.out.2)
          have hR := hP.out.1
          clear hP HX3 HCL3
          obtain ⟨⟨ar, cr, rfl, _, hrf⟩, hrm⟩ := hR
          have HRF := hide hrf
          clear hrf
          go_wp2_with fail
          go_loopw [7] (fun vi wx => ∃ (m : Nat), m ≤ (rfs t).length ∧ vi = .int .i64 (m : Nat) ∧ Hid (∀ j r, j < m → (rfs t)[j]? = some r → (fnd l r.n).2 = true) ∧ Hid (Below w8.heap.size w8 wx)) (fun vi _ => (rfs t).length - (intOf vi).toNat)
          case atStart => exact ⟨0, by omega, rfl, fun j _ hj => absurd hj (by omega), Below.refl _ _⟩
          case round =>
            obtain ⟨m, hm, rfl, HN, HBz1⟩ := hrel
            by_cases hlt : m < (rfs t).length
            · have g1 : (m : Int) < ((rfs t).length : Int) := by omega
              obtain ⟨r, hr⟩ : ∃ r, (rfs t)[m]? = some r := ⟨(rfs t)[m], List.getElem?_eq_getElem hlt⟩
              obtain ⟨b2, off2, rfl, hcc⟩ := HRF.out.resolve_left (fun h => by rw [h] at hlt; simp at hlt)
              obtain ⟨c, ⟨rfl, _⟩, hcell⟩ := hcc m r hr
              have HQ0 : Hid (∀ wy, Below wr.heap.size wr wy → wy.cell? ⟨b2, off2 + m * 2, none⟩ = some (.string r.n)) := fun wy hy => by
                have h := hcell 0 (.string r.n) rfl
                rw [Nat.add_zero] at h
                exact keep_below hy _ _ (keep_below HBz1.out _ _ h)
              have HTS : Hid (∀ wy, Below wr.heap.size wr wy → TSl wy (.slice (some ⟨b, off, none⟩) l.length cap) l) := fun wy hy => TSl.mv HV.out (fun p u hu => keep_below hy _ _ (keep_below HBz1.out _ _ (keep_below HX4.out.b _ _ hu)))
              have HFP := hide (fnd_pli l r.n)
              have HNX : Hid ((fnd l r.n).2 = true → ∀ j r, j < m + 1 → (rfs t)[j]? = some r → (fnd l r.n).2 = true) := fun h j r' hj hr' => by
                by_cases e : j = m
                · subst e
                  rw [hr] at hr'
                  rw [← Option.some.inj hr']
                  exact h
                · exact HN.out j r' (by omega) hr'
              have HBA : Hid ((fnd l r.n).2 = false → aln l i t = 114) := fun h => by
                rw [HAL.out, if_pos]
                rw [List.any_eq_true]
                exact ⟨r, List.mem_of_getElem? hr, by rw [h]; rfl⟩
              clear hcc hcell hr HN HRF HAL
              by_cases hpn : pli l r.n < 0
              · have HPL : Hid (∀ wy, Below wr.heap.size wr wy → Calls Tryz.prog 56 #[.slice (some ⟨b, off, none⟩) l.length cap, .string r.n] wy fun e w' => e = .returned (.int .i64 (pli l r.n)) ∧ w' = wy) := fun wy hy => place11_any wy _ l (HTS.out wy hy) r.n
                rw [decide_eq_true hpn, Bool.true_and] at HFP
                obtain ⟨P, hP⟩ : ∃ P, pli l r.n = P := ⟨_, rfl⟩
                rw [hP] at HPL hpn
                obtain ⟨M, hM⟩ : ∃ M, memb bltn r.n = M := ⟨_, rfl⟩
                rw [hM] at HFP
                have HMM := hide hM
                clear hP hM
                have hM2 : (fnd l r.n).2 = M := by have h := HFP.out; revert h; cases (fnd l r.n).2 <;> cases M <;> decide
                rw [hM2] at HNX HBA
                clear hM2 HFP
                go_wp2_with fail
                refine heldStart (S := Below wr.heap.size wr) (by kernel_rfl) ?_
                have hS : Below wr.heap.size wr wr.drew := Below.drew (Below.refl _ _)
                generalize wr.drew = w9 at *
                refine heldTake 0 _ rfl (by kernel_rfl) (by kernel_rfl) (by kernel_rfl) (fun _ _ _ h => h) rfl hS (fun wy hy => by first | (go_simp; done) | (go_simp; rfl) | rfl) ?_
                (try simp only [Act.put]); (try simp only [LsA, Ls0, LsS])
                refine heldTake 1 _ rfl (by kernel_rfl) (by kernel_rfl) (by kernel_rfl) (fun _ _ _ h => h) rfl hS (fun wy hy => by first | (go_simp; done) | (go_simp; rfl) | rfl) ?_
                (try simp only [Act.put]); (try simp only [LsA, Ls0, LsS])
                refine heldTake 2 _ rfl (by kernel_rfl) (by kernel_rfl) (by kernel_rfl) (fun _ _ _ h => h) rfl hS (fun wy hy => by first | (go_simp; done) | (go_simp; rfl) | rfl) ?_
                (try simp only [Act.put]); (try simp only [LsA, Ls0, LsS])
                refine heldTake 3 _ rfl (by kernel_rfl) (by kernel_rfl) (by kernel_rfl) (fun _ _ _ h => h) rfl hS (fun wy hy => by first | (go_simp; done) | (go_simp; rfl) | rfl) ?_
                (try simp only [Act.put]); (try simp only [LsA, Ls0, LsS])
                refine heldTake 4 _ rfl (by kernel_rfl) (by kernel_rfl) (by kernel_rfl) (fun _ _ _ h => h) rfl hS (fun wy hy => by first | (go_simp; done) | (go_simp; rfl) | rfl) ?_
                (try simp only [Act.put]); (try simp only [LsA, Ls0, LsS])
                refine heldTake 5 _ rfl (by kernel_rfl) (by kernel_rfl) (by kernel_rfl) (fun _ _ _ h => h) rfl hS (fun wq hq => by have h0 := HQ0.out wq hq; first | (go_simp; done) | (go_simp; rfl) | rfl) ?_
                (try simp only [Act.put]); (try simp only [LsA, Ls0, LsS])
                refine heldStep 6 rfl (by kernel_rfl) (fun K hK => ?_)
                go_simp
                refine (HPL.out _ hS).mono ?_
                rintro e wq1 ⟨rfl, hwq1⟩
                have hwq1 := hwq1.symm
                subst hwq1
                refine (Hid.out hK) _ _ hS (fun hS2 => ?_)
                clear hK K hS
                have hS := hS2
                clear hS2
                (try simp only [Act.put]); (try simp only [LsA, Ls0, LsS])
                refine heldTake 7 _ rfl (by kernel_rfl) (by kernel_rfl) (by kernel_rfl) (fun _ _ _ h => h) rfl hS (fun wy hy => by first | (go_simp; done) | (go_simp; rfl) | rfl) ?_
                (try simp only [Act.put]); (try simp only [LsA, Ls0, LsS])
                refine heldTake 8 _ rfl (by kernel_rfl) (by kernel_rfl) (by kernel_rfl) (fun _ _ _ h => h) rfl hS (fun wy hy => by first | (go_simp; done) | (go_simp; rfl) | rfl) ?_
                (try simp only [Act.put]); (try simp only [LsA, Ls0, LsS])
                refine heldTake 10 _ rfl (by kernel_rfl) (by kernel_rfl) (by kernel_rfl) (fun _ _ _ h => h) rfl hS (fun wy hy => by first | (go_simp; done) | (go_simp; rfl) | rfl) ?_
                (try simp only [Act.put]); (try simp only [LsA, Ls0, LsS])
                refine heldTake 11 _ rfl (by kernel_rfl) (by kernel_rfl) (by kernel_rfl) (fun _ _ _ h => h) rfl hS (fun wy hy => by first | (go_simp; done) | (go_simp; rfl) | rfl) ?_
                (try simp only [Act.put]); (try simp only [LsA, Ls0, LsS])
                refine heldTake 12 _ rfl (by kernel_rfl) (by kernel_rfl) (by kernel_rfl) (fun _ _ _ h => h) rfl hS (fun wy hy => by first | (go_simp; done) | (go_simp; rfl) | rfl) ?_
                (try simp only [Act.put]); (try simp only [LsA, Ls0, LsS])
                refine heldTake 13 _ rfl (by kernel_rfl) (by kernel_rfl) (by kernel_rfl) (fun _ _ _ h => h) rfl hS (fun wy hy => by first | (go_simp; done) | (go_simp; rfl) | rfl) ?_
                (try simp only [Act.put]); (try simp only [LsA, Ls0, LsS])
                refine heldTake 14 _ rfl (by kernel_rfl) (by kernel_rfl) (by kernel_rfl) (fun _ _ _ h => h) rfl hS (fun wq hq => by have h0 := HQ0.out wq hq; first | (go_simp; done) | (go_simp; rfl) | rfl) ?_
                (try simp only [Act.put]); (try simp only [LsA, Ls0, LsS])
                refine heldStep 9 rfl (by kernel_rfl) (fun K hK => ?_)
                go_simp
                refine (builtIn11_any _).mono ?_
                rintro e w10 ⟨vb, rfl, hsb, hb10⟩
                have hS10 : Below wr.heap.size wr w10 := hS.trans (hb10.mono hS.size)
                refine (Hid.out hK) _ _ hS10 (fun hS2 => ?_)
                clear hK K hS
                have hS := hS2
                clear hS2
                (try simp only [Act.put]); (try simp only [LsA, Ls0, LsS])
                refine heldStep 15 rfl (by kernel_rfl) (fun K hK => ?_)
                go_simp
                refine (is11_any _ vb bltn hsb r.n).mono ?_
                rintro e wq2 ⟨rfl, hwq2⟩
                have hwq2 := hwq2.symm
                subst hwq2
                rw [HMM.out]
                refine (Hid.out hK) _ _ hS10 (fun hS2 => ?_)
                clear hK K hS
                have hS := hS2
                clear hS2
                (try simp only [Act.put]); (try simp only [LsA, Ls0, LsS])
                have HB2 : Hid (Below w8.heap.size w8 w10) := HBz1.out.trans (hS10.mono HBz1.out.size)
                cases M with
                | true =>
                  refine heldTake 16 _ rfl (by kernel_rfl) (by kernel_rfl) (by kernel_rfl) (fun _ _ _ h => h) rfl hS (fun wy hy => by first | (go_simp; done) | (go_simp; rfl) | rfl) ?_
                  (try simp only [Act.put]); (try simp only [LsA, Ls0, LsS])
                  refine heldTake 17 _ rfl (by kernel_rfl) (by kernel_rfl) (by kernel_rfl) (fun _ _ _ h => h) rfl hS (fun wy hy => by first | (go_simp; done) | (go_simp; rfl) | rfl) ?_
                  (try simp only [Act.put]); (try simp only [LsA, Ls0, LsS])
                  refine heldDone (by kernel_rfl) ?_
                  have HN2 := hide (HNX.out rfl)
                  clear HQ0 HTS HPL hS hS10 hsb hb10 HNX HBA HMM
                  go_wp2_with fail
                  go_roundw
                  case rel => exact ⟨m + 1, by omega, by go_num, HN2, HB2⟩
                  case measure => simp [intOf]; omega
                | false =>
                  refine heldTake 16 _ rfl (by kernel_rfl) (by kernel_rfl) (by kernel_rfl) (fun _ _ _ h => h) rfl hS (fun wy hy => by first | (go_simp; done) | (go_simp; rfl) | rfl) ?_
                  (try simp only [Act.put]); (try simp only [LsA, Ls0, LsS])
                  refine heldTake 17 _ rfl (by kernel_rfl) (by kernel_rfl) (by kernel_rfl) (fun _ _ _ h => h) rfl hS (fun wy hy => by first | (go_simp; done) | (go_simp; rfl) | rfl) ?_
                  (try simp only [Act.put]); (try simp only [LsA, Ls0, LsS])
                  refine heldDone (by kernel_rfl) ?_
                  have HR := hide (HBA.out rfl)
                  clear HQ0 HTS HPL hS hS10 hsb hb10 HNX HBA HMM
                  go_wp2_with fail
                  go_ret
                  exact ⟨by rw [HR.out] <;> rfl, (HX4.out.next HB2.out).b⟩
              · as_aux_lemma =>
                have HPL : Hid (∀ t' : Ext wr, Calls Tryz.prog 56 #[.slice (some ⟨b, off, none⟩) l.length cap, .string r.n] t'.w' fun e w'' => e = .returned (.int .i64 (pli l r.n)) ∧ ∃ t2 : Ext wr, w'' = t2.w') := fun t' => Calls.ext_same (place11_any t'.w' _ l (HTS.out _ t'.h) r.n)
                rw [decide_eq_false hpn, Bool.false_and] at HFP
                have HN2 := hide (HNX.out (by simpa using HFP.out))
                have c0 : ∀ t' : Ext wr, t'.w'.cell? ⟨b2, off2 + m * 2, none⟩ = some (.string r.n) := fun t' => HQ0.out _ t'.h
                obtain ⟨P, hP⟩ : ∃ P, pli l r.n = P := ⟨_, rfl⟩
                rw [hP] at HPL hpn
                have hpd : decide (P < 0) = false := decide_eq_false hpn
                clear hP HNX HBA HFP HQ0 HTS
                go_wp2_with fail
                refine region_ext (by kernel_rfl) (by kernel_rfl) ?_
                repeat (
                  with_reducible refine wpQuiet_step (fun K hK => ?_)
                  go_simp
                  first
                    | (with_reducible refine hK _ ?_; clear hK K)
                    | (apply Exists.intro
                       refine ⟨fun _ => ?_, hK _ ?_⟩
                       (go_at_call 56; with_reducible exact HPL.out _)
                       clear hK K))
                refine wpQuiet_nil ?_
                rintro _ ⟨tq, rfl⟩
                have HB2 : Hid (Below w8.heap.size w8 tq.w') := HBz1.out.trans (tq.h.mono HBz1.out.size)
                clear c0 HPL
                go_wp2_with fail
                go_roundw
                case rel => exact ⟨m + 1, by omega, by go_num, HN2, HB2⟩
                case measure => simp [intOf]; omega
            · have g1 : ¬ (m : Int) < ((rfs t).length : Int) := by omega
              replace HAL : Hid (aln l i t = if (!fft t) = true then 115 else if (!cft t) = true then 116 else 0) := by
                show _ = _
                rw [HAL.out, if_neg]
                rw [Bool.not_eq_true, List.any_eq_false]
                intro r hr
                obtain ⟨j, hj, e⟩ := List.getElem_of_mem hr
                rw [HN.out j r (by omega) (by rw [List.getElem?_eq_getElem hj, e])]
                decide
              have HX5 := hide (HX4.out.next HBz1.out)
              clear HN HRF HX4
              have q1 : wr.cell? ⟨w.heap.size, 1, none⟩ = some (.int .i64 t.k) := blk_cell (j := 1) HX5.out.a rfl
              have HCL5 := hide HX5.out.cl
              have HFI := hide (fields11_any wr t _ (HTI.out.move (keep_below HX5.out.b)))
              go_upto_region 14 with fail
              go_cut [113] from 101 to 114 (fun v wx => v = .bool (!fft t) ∧ Hid (Tbx w #[.string t.n, .int .i64 t.k, .int .i64 t.lo, .int .i64 t.hi, .string t.r.n, .bool t.r.z, .slice af t.fs.length cf, .slice ac t.cs.length cc, .slice aw t.ws.length cw] wx))
              case first =>
                by_cases h5 : t.k = 5 ∨ t.k = 6
                · generalize fft t = FF at *
                  by_cases h55 : t.k = 5
                  · as_aux_lemma =>
                    have g5 : (t.k == 5) = true := beq_iff_eq.2 h55
                    clear h5 h55 hk19
                    cases FF <;> (
                      go_wp2_with (first
                        | (refine wpList_aggAt rfl rfl HIT.out HAT.out w.heap.size 0 #[.string t.n, .int .i64 t.k, .int .i64 t.lo, .int .i64 t.hi, .string t.r.n, .bool t.r.z, .slice af t.fs.length cf, .slice ac t.cs.length cc, .slice aw t.ws.length cw] rfl rfl HCL5.out ?_)
                        | (go_at_call 59; refine HFI.out.mono ?_; rintro e w11 ⟨rfl, hb11⟩))
                      go_meet
                      case rel => exact ⟨rfl, HX5.out.next hb11⟩)
                  · as_aux_lemma =>
                    have g5 : (t.k == 5) = false := beq_eq_false_iff_ne.2 h55
                    have g6 : (t.k == 6) = true := beq_iff_eq.2 (h5.resolve_left h55)
                    clear h5 h55 hk19
                    cases FF <;> (
                      go_wp2_with (first
                        | (refine wpList_aggAt rfl rfl HIT.out HAT.out w.heap.size 0 #[.string t.n, .int .i64 t.k, .int .i64 t.lo, .int .i64 t.hi, .string t.r.n, .bool t.r.z, .slice af t.fs.length cf, .slice ac t.cs.length cc, .slice aw t.ws.length cw] rfl rfl HCL5.out ?_)
                        | (go_at_call 59; refine HFI.out.mono ?_; rintro e w11 ⟨rfl, hb11⟩))
                      go_meet
                      case rel => exact ⟨rfl, HX5.out.next hb11⟩)
                · as_aux_lemma =>
                  have g5 : (t.k == 5) = false := beq_eq_false_iff_ne.2 (fun e => h5 (.inl e))
                  have g6 : (t.k == 6) = false := beq_eq_false_iff_ne.2 (fun e => h5 (.inr e))
                  have HR := hide (fft_other HTT.out h5)
                  clear h5 hk19 HFI
                  go_wp2_with fail
                  go_meet
                  case rel => exact ⟨by rw [HR.out] <;> rfl, HX5.out⟩
              obtain ⟨rfl, HX6⟩ := hcut
              clear HFI HCL5 q1 HX5
              rename World => w12
              cases hff : fft t with
              | false => as_aux_lemma =>
                have HR : Hid (aln l i t = 115) := by show _ = _; rw [HAL.out, hff, if_pos (by rfl)]
                clear HAL hff
                go_wp2_with fail
                go_ret
                exact ⟨by rw [HR.out] <;> rfl, HX6.out.b⟩
              | true =>
                rw [hff, if_neg (by decide)] at HAL
                clear hff
                have q1 : w12.cell? ⟨w.heap.size, 1, none⟩ = some (.int .i64 t.k) := blk_cell (j := 1) HX6.out.a rfl
                have HCL6 := hide HX6.out.cl
                by_cases h7 : 7 ≤ t.k
                · as_aux_lemma =>
                  have g7 : (7 : Int) ≤ t.k := h7
                  have HCA := hide (cases11_any w12 t _ (HTI.out.move (keep_below HX6.out.b)) ⟨h7, hk19.2⟩ HSH.out.2.1)
                  generalize cft t = CF at *
                  clear h7 hk19
                  cases CF with
                  | true =>
                    have HR : Hid (aln l i t = 0) := by show _ = _; rw [HAL.out, if_neg (by decide)]
                    go_wp2_with (first
                      | (refine wpList_aggAt rfl rfl HIT.out HAT.out w.heap.size 0 #[.string t.n, .int .i64 t.k, .int .i64 t.lo, .int .i64 t.hi, .string t.r.n, .bool t.r.z, .slice af t.fs.length cf, .slice ac t.cs.length cc, .slice aw t.ws.length cw] rfl rfl HCL6.out ?_)
                      | (go_at_call 60; refine HCA.out.mono ?_; rintro e w13 ⟨rfl, hb13⟩))
                    go_ret
                    exact ⟨by rw [HR.out] <;> rfl, (HX6.out.next hb13).b⟩
                  | false =>
                    have HR : Hid (aln l i t = 116) := by show _ = _; rw [HAL.out, if_pos (by rfl)]
                    go_wp2_with (first
                      | (refine wpList_aggAt rfl rfl HIT.out HAT.out w.heap.size 0 #[.string t.n, .int .i64 t.k, .int .i64 t.lo, .int .i64 t.hi, .string t.r.n, .bool t.r.z, .slice af t.fs.length cf, .slice ac t.cs.length cc, .slice aw t.ws.length cw] rfl rfl HCL6.out ?_)
                      | (go_at_call 60; refine HCA.out.mono ?_; rintro e w13 ⟨rfl, hb13⟩))
                    go_ret
                    exact ⟨by rw [HR.out] <;> rfl, (HX6.out.next hb13).b⟩
                · as_aux_lemma =>
                  have g7 : ¬ (7 : Int) ≤ t.k := h7
                  have HR : Hid (aln l i t = 0) := by show _ = _; rw [HAL.out, cft_other (by omega), if_neg (by decide)]
                  clear h7 hk19
                  go_wp2_with fail
                  go_ret
                  exact ⟨by rw [HR.out] <;> rfl, HX6.out.b⟩
end
section
open Go.RowKit Go
def Ends (l : List Tp) : Prop := ∀ s, (fnd l s).2 = true → (flr l s).2.2 = true
theorem flr_none {l : List Tp} {s : ByteArray} (hp : plc l s = none) : (flr l s).2.2 = true := by
  unfold flr
  rw [fwr_none hp]
theorem ends_of {l : List Tp} (h : ∀ (i : Nat) (t : Tp), l[i]? = some t → (flr l t.n).2.2 = true) : Ends l := fun s _ => by
  cases hp : plc l s with
  | none => exact flr_none hp
  | some i =>
    obtain ⟨t, ht, hn⟩ := plc_lt hp
    rw [← hn]
    exact h i t ht
set_option maxRecDepth 1000000 in
set_option maxHeartbeats 2000000 in
theorem together11_any (w : World) (v : Value) (l : List Tp) (hv : TSl w v l) (hS : Shrt l) (F : Fst l) (hE : Ends l) (i : Nat) (t : Tp) (ht : l[i]? = some t) : Calls Tryz.prog 24 #[v, .int .i64 (i : Nat)] w fun e w' => e = .returned (.int .i64 (tgt l t : Nat)) ∧ Below w.heap.size w w' := by
  have hmax := hv.max
  have HV := hide hv
  have hil : i < l.length := (List.getElem?_eq_some_iff.1 ht).1
  obtain ⟨⟨a, cap, rfl, hn, hcl⟩, _⟩ := hv
  obtain ⟨b, off, rfl, hcc⟩ := hcl.resolve_left (fun h => by rw [h] at hil; simp at hil)
  obtain ⟨c, hc, hcell⟩ := hcc i t ht
  have HTI := hide hc
  obtain ⟨⟨vf, vc, vw, rfl, ⟨⟨af, cf, rfl, -, -⟩, -⟩, ⟨⟨ac, cc, rfl, -, -⟩, -⟩, ⟨⟨aw, cw, rfl, -, -⟩, -, -⟩⟩, -⟩ := hc
  unfold tpc at hcell HTI
  have HCL := hide hcell
  have HF := hide F
  have HEN := hide hE
  have HSH := hide (hS t (List.mem_of_getElem? ht))
  have HRK : Hid (∀ r ∈ rfs t, (fnd l r.n).2 = true) := F.ref t (List.mem_of_getElem? ht)
  have HTG : Hid (tgt l t = if (rfs t).any (fun r => r.z && (flo l r.n).2) then 118 else if t.k = 8 ∧ kap l [] t.cs = false then 116 else 0) := rfl
  have gi : (i : Int) < (l.length : Int) := by omega
  have HIT := hide infoTp
  have HAT : Hid (∀ w, (isAgg 69).run Tryz.prog w = .ok true w) := aggTp
  have HCE : Hid (∀ x ∈ t.cs, (flr l x.n).2.2 = true ∧ (fnd l x.n).2 = true) := fun x hx => by
    have h1 := HRK.out ⟨x.n, false⟩ (by
      unfold rfs
      rw [List.mem_append]
      exact .inr (List.mem_map.2 ⟨x, hx, rfl⟩))
    exact ⟨HEN.out _ h1, h1⟩
  clear hn hcc hcell F hE hS ht hil
  go_enter Tryz.func24, Tryz.ntmps24
  go_wp2_with (refine wpList_aggAt rfl rfl HIT.out HAT.out b (off + i * 9) #[.string t.n, .int .i64 t.k, .int .i64 t.lo, .int .i64 t.hi, .string t.r.n, .bool t.r.z, .slice af t.fs.length cf, .slice ac t.cs.length cc, .slice aw t.ws.length cw] rfl rfl HCL.out ?_)
  refine (refs11_any w t _ HTI.out HSH.out.1 HSH.out.2.1).mono ?_
  rintro e w1 ⟨vr, rfl, hP⟩
  have HB1 := hide hP.out.2
  have hR := hP.out.1
  clear hP
  obtain ⟨⟨ar, cr, rfl, _, hrf⟩, hrm⟩ := hR
  have HRF := hide hrf
  clear hrf
  have HV1 : Hid (TSl w1 (.slice (some ⟨b, off, none⟩) l.length cap) l) := TSl.mv HV.out (keep_below HB1.out)
  have HTI1 := hide (HTI.out.move (keep_below HB1.out))
  have HCL1 : Hid (∀ j u, (#[.string t.n, .int .i64 t.k, .int .i64 t.lo, .int .i64 t.hi, .string t.r.n, .bool t.r.z, .slice af t.fs.length cf, .slice ac t.cs.length cc, .slice aw t.ws.length cw] : Array Value)[j]? = some u → w1.cell? ⟨b, off + i * 9 + j, none⟩ = some u) := fun j u hj => keep_below HB1.out _ _ (HCL.out j u hj)
  clear HV HTI HCL
  go_wp2_with fail
  go_loopw [6] (fun vi wx => ∃ (m : Nat), m ≤ (rfs t).length ∧ vi = .int .i64 (m : Nat) ∧ wx = w1 ∧ Hid (∀ j r, j < m → (rfs t)[j]? = some r → (r.z && (flo l r.n).2) = false)) (fun vi _ => (rfs t).length - (intOf vi).toNat)
  case atStart => exact ⟨0, by omega, rfl, rfl, fun j _ hj => absurd hj (by omega)⟩
  case round =>
    obtain ⟨m, hm, rfl, hww, HN⟩ := hrel
    have hww := hww.symm
    subst hww
    by_cases hlt : m < (rfs t).length
    · have g1 : (m : Int) < ((rfs t).length : Int) := by omega
      obtain ⟨r, hr⟩ : ∃ r, (rfs t)[m]? = some r := ⟨(rfs t)[m], List.getElem?_eq_getElem hlt⟩
      obtain ⟨b2, off2, rfl, hcc⟩ := HRF.out.resolve_left (fun h => by rw [h] at hlt; simp at hlt)
      obtain ⟨c, ⟨rfl, _⟩, hcell⟩ := hcc m r hr
      have q0 := hcell 0 (.string r.n) rfl
      have q1 := hcell 1 (.bool r.z) rfl
      rw [Nat.add_zero] at q0
      have HFO := hide (follow11_any w1 _ l HV1.out r.n)
      have HFF := hide (flo_flr HF.out r.n)
      rw [HEN.out r.n (HRK.out r (List.mem_of_getElem? hr))] at HFO
      have HY : Hid ((r.z && (flo l r.n).2) = true → tgt l t = 118) := fun h => by
        rw [HTG.out, if_pos]
        rw [List.any_eq_true]
        exact ⟨r, List.mem_of_getElem? hr, h⟩
      have HNX : Hid ((r.z && (flo l r.n).2) = false → ∀ j r, j < m + 1 → (rfs t)[j]? = some r → (r.z && (flo l r.n).2) = false) := fun h j r' hj hr' => by
        by_cases e : j = m
        · subst e
          rw [hr] at hr'
          rw [← Option.some.inj hr']
          exact h
        · exact HN.out j r' (by omega) hr'
      rw [HFF.out] at HY HNX
      clear hcc hcell hr HN HFF
      simp only at HY
      generalize r.z = rz at *
      generalize (flr l r.n).2.1 = Z at *
      generalize (flr l r.n).1 = E at *
      cases rz with
      | false => as_aux_lemma =>
        have HN2 := hide (HNX.out rfl)
        clear HNX HY
        go_wp2_with (go_at_call 23; refine HFO.out.mono ?_; rintro e wq ⟨rfl, hwq⟩; have hwq := hwq.symm; subst hwq)
        go_roundw
        case rel => exact ⟨m + 1, by omega, by go_num, trivial, HN2⟩
        case measure => simp [intOf]; omega
      | true =>
        cases Z with
        | false => as_aux_lemma =>
          have HN2 := hide (HNX.out rfl)
          clear HNX HY
          go_wp2_with (go_at_call 23; refine HFO.out.mono ?_; rintro e wq ⟨rfl, hwq⟩; have hwq := hwq.symm; subst hwq)
          go_roundw
          case rel => exact ⟨m + 1, by omega, by go_num, trivial, HN2⟩
          case measure => simp [intOf]; omega
        | true => as_aux_lemma =>
          have HR := hide (HY.out rfl)
          clear HNX HY
          go_wp2_with (go_at_call 23; refine HFO.out.mono ?_; rintro e wq ⟨rfl, hwq⟩; have hwq := hwq.symm; subst hwq)
          go_ret
          exact ⟨by rw [HR.out] <;> rfl, HB1.out⟩
    · have g1 : ¬ (m : Int) < ((rfs t).length : Int) := by omega
      have HNA : Hid (((rfs t).any (fun r => r.z && (flo l r.n).2)) = false) := by
        show _ = _
        rw [List.any_eq_false]
        intro r hr
        obtain ⟨j, hj, e⟩ := List.getElem_of_mem hr
        rw [HN.out j r (by omega) (by rw [List.getElem?_eq_getElem hj, e])]
        decide
      rw [HNA.out, if_neg (by decide)] at HTG
      have qk := HCL1.out 1 (.int .i64 t.k) rfl
      clear HN HNA HRF
      by_cases h8 : t.k = 8
      · have g8 : (t.k == 8) = true := beq_iff_eq.2 h8
        have HKI := hide (kinded11_any w1 _ l HV1.out HF.out t _ HTI1.out HCE.out)
        cases hk : kap l [] t.cs with
        | true => as_aux_lemma =>
          have HR : Hid (tgt l t = 0) := by show _ = _; rw [HTG.out, if_neg (fun h => by rw [hk] at h; exact absurd h.2 (by decide))]
          rw [hk] at HKI
          clear h8 hk HTG
          go_wp2_with (first
            | (refine wpList_aggAt rfl rfl HIT.out HAT.out b (off + i * 9) #[.string t.n, .int .i64 t.k, .int .i64 t.lo, .int .i64 t.hi, .string t.r.n, .bool t.r.z, .slice af t.fs.length cf, .slice ac t.cs.length cc, .slice aw t.ws.length cw] rfl rfl HCL1.out ?_)
            | (go_at_call 61; refine HKI.out.mono ?_; rintro e w2 ⟨rfl, hb2⟩))
          go_ret
          exact ⟨by rw [HR.out] <;> rfl, HB1.out.trans (hb2.mono HB1.out.size)⟩
        | false => as_aux_lemma =>
          have HR : Hid (tgt l t = 116) := by show _ = _; rw [HTG.out, if_pos ⟨h8, hk⟩]
          rw [hk] at HKI
          clear h8 hk HTG
          go_wp2_with (first
            | (refine wpList_aggAt rfl rfl HIT.out HAT.out b (off + i * 9) #[.string t.n, .int .i64 t.k, .int .i64 t.lo, .int .i64 t.hi, .string t.r.n, .bool t.r.z, .slice af t.fs.length cf, .slice ac t.cs.length cc, .slice aw t.ws.length cw] rfl rfl HCL1.out ?_)
            | (go_at_call 61; refine HKI.out.mono ?_; rintro e w2 ⟨rfl, hb2⟩))
          go_ret
          exact ⟨by rw [HR.out] <;> rfl, HB1.out.trans (hb2.mono HB1.out.size)⟩
      · as_aux_lemma =>
        have g8 : (t.k == 8) = false := beq_eq_false_iff_ne.2 h8
        have HR : Hid (tgt l t = 0) := by show _ = _; rw [HTG.out, if_neg (fun h => h8 h.1)]
        clear h8 HTG
        go_wp2_with fail
        go_ret
        exact ⟨by rw [HR.out] <;> rfl, HB1.out⟩
set_option maxRecDepth 1000000 in
set_option maxHeartbeats 2000000 in
theorem rcheck11_any (w : World) (v : Value) (l : List Tp) (hv : TSl w v l) (hS : Shrt l) : Calls Tryz.prog 9 #[v] w fun e w' => e = .returned (.tuple #[.int .i64 ((chk11 l).1 : Nat), .int .i64 ((chk11 l).2 : Nat)]) ∧ Below w.heap.size w w' := by
  have hmax := hv.max
  have HV := hide hv
  have HSH := hide hS
  obtain ⟨⟨a, cap, rfl, hn, hcl⟩, _⟩ := hv
  have HNM : Hid (∀ (j : Nat) (u : Tp) (wy : World), l[j]? = some u → Below w.heap.size w wy → ∃ b off, a = some ⟨b, off, none⟩ ∧ wy.cell? ⟨b, off + j * 9, none⟩ = some (.string u.n)) := fun j u wy hu hb => by
    rcases hcl with h | ⟨b, off, ea, h⟩
    · rw [h] at hu; cases hu
    · obtain ⟨c, ⟨⟨vf, vc, vw, rfl, _⟩, _⟩, hcell⟩ := h j u hu
      exact ⟨b, off, ea, keep_below hb _ _ (by have := hcell 0 (.string u.n) rfl; rw [Nat.add_zero] at this; exact this)⟩
  clear hn hcl hS
  go_enter Tryz.func9, Tryz.ntmps9
  by_cases h64 : 64 < l.length
  · as_aux_lemma =>
    have g0 : (64 : Int) < (l.length : Int) := by omega
    have HR := hide (chk_many h64)
    clear h64
    go_wp2_with fail
    go_ret2
    exact ⟨by rw [HR.out] <;> rfl, Below.refl _ _⟩
  have g0 : ¬ (64 : Int) < (l.length : Int) := by omega
  have H64 : Hid (¬ 64 < l.length) := h64
  clear h64
  go_wp2_with fail
  clear g0
  go_loopw [4] (fun vi wx => ∃ (i : Nat), i ≤ l.length ∧ vi = .int .i64 (i : Nat) ∧ Hid (Below w.heap.size w wx) ∧ Hid (∀ j u, j < i → l[j]? = some u → aln l j u = 0)) (fun vi _ => l.length - (intOf vi).toNat)
  case atStart => exact ⟨0, by omega, rfl, Below.refl _ _, fun j _ hj => absurd hj (by omega)⟩
  case round =>
    obtain ⟨i, hi, rfl, HBz1, HN⟩ := hrel
    by_cases hlt : i < l.length
    · have g1 : (i : Int) < (l.length : Int) := by omega
      obtain ⟨t, ht⟩ : ∃ t, l[i]? = some t := ⟨l[i], List.getElem?_eq_getElem hlt⟩
      have HA := hide (alone11_any wr _ l (TSl.mv HV.out (keep_below HBz1.out)) HSH.out i t ht)
      by_cases h0 : aln l i t = 0
      · as_aux_lemma =>
        have HN2 : Hid (∀ j u, j < i + 1 → l[j]? = some u → aln l j u = 0) := fun j u hj hu => by
          by_cases e : j = i
          · subst e
            rw [ht] at hu
            rw [← Option.some.inj hu]
            exact h0
          · exact HN.out j u (by omega) hu
        rw [h0] at HA
        clear h0 ht HN
        go_wp2_with (go_at_call 22; refine HA.out.mono ?_; rintro e w2 ⟨rfl, hb2⟩)
        have HB2 : Hid (Below w.heap.size w w2) := HBz1.out.trans (hb2.mono HBz1.out.size)
        clear hb2 HBz1
        go_roundw
        case rel => exact ⟨i + 1, by omega, by go_num, HB2, HN2⟩
        case measure => simp [intOf]; omega
      · as_aux_lemma =>
        have HR := hide (chk_hit H64.out (k := 0) (by omega) ht h0 (fun k' _ _ hk => absurd hk (by omega)) HN.out)
        have HR2 : Hid (chk11 l = (aln l i t, i)) := HR.out
        obtain ⟨E, hE⟩ : ∃ E, aln l i t = E := ⟨_, rfl⟩
        rw [hE] at HA HR2 h0
        have gE : ((E : Int) != 0) = true := by rw [bne_iff_ne]; omega
        clear h0 ht HN hE HR
        go_wp2_with (go_at_call 22; refine HA.out.mono ?_; rintro e w2 ⟨rfl, hb2⟩)
        go_ret2
        exact ⟨by rw [HR2.out] <;> rfl, HBz1.out.trans (hb2.mono HBz1.out.size)⟩
    · have g1 : ¬ (i : Int) < (l.length : Int) := by omega
      have HAL : Hid (∀ j u, l[j]? = some u → aln l j u = 0) := fun j u hu => HN.out j u (by have := (List.getElem?_eq_some_iff.1 hu).1; omega) hu
      have HF := hide (aln_fst HAL.out)
      clear HN
      go_wp2_with fail
      go_loopw [6] (fun vi wx => ∃ (m : Nat), m ≤ l.length ∧ vi = .int .i64 (m : Nat) ∧ Hid (Below w.heap.size w wx) ∧ Hid (∀ j u, j < m → l[j]? = some u → rng l u = 0)) (fun vi _ => l.length - (intOf vi).toNat)
      case atStart => exact ⟨0, by omega, rfl, HBz1, fun j _ hj => absurd hj (by omega)⟩
      case round =>
        rename World => wq
        obtain ⟨m, hm, rfl, HB3, HN⟩ := hrel
        clear HBz1
        by_cases hlt2 : m < l.length
        · have g2 : (m : Int) < (l.length : Int) := by omega
          obtain ⟨t, ht⟩ : ∃ t, l[m]? = some t := ⟨l[m], List.getElem?_eq_getElem hlt2⟩
          obtain ⟨b, off, rfl, qn⟩ := HNM.out m t wq ht HB3.out
          have HFO := hide (follow11_any wq _ l (TSl.mv HV.out (keep_below HB3.out)) t.n)
          have HRG := hide (rng_flr HF.out ht)
          obtain ⟨z, hz⟩ : ∃ z, (flr l t.n).2.2 = z := ⟨_, rfl⟩
          rw [hz] at HFO HRG
          clear hz
          cases z with
          | true => as_aux_lemma =>
            have HN2 : Hid (∀ j u, j < m + 1 → l[j]? = some u → rng l u = 0) := fun j u hj hu => by
              by_cases e : j = m
              · subst e
                rw [ht] at hu
                rw [← Option.some.inj hu]
                exact HRG.out
              · exact HN.out j u (by omega) hu
            clear ht HN HRG
            go_wp2_with (go_at_call 23; refine HFO.out.mono ?_; rintro e w2 ⟨rfl, hwq⟩; have hwq := hwq.symm; subst hwq)
            go_roundw
            case rel => exact ⟨m + 1, by omega, by go_num, HB3, HN2⟩
            case measure => simp [intOf]; omega
          | false => as_aux_lemma =>
            have h1 : rng l t = 117 := HRG.out
            have HR : Hid (chk11 l = (117, m)) := by
              have h := chk_hit H64.out (k := 1) (by omega) ht (show rng l t ≠ 0 by rw [h1]; decide) (fun k' j u hk hu => by
                have e : k' = 0 := by omega
                subst e
                exact HAL.out j u hu) HN.out
              show _ = _
              rw [h]
              show (rng l t, m) = _
              rw [h1]
            clear ht HN HRG h1
            go_wp2_with (go_at_call 23; refine HFO.out.mono ?_; rintro e w2 ⟨rfl, hwq⟩; have hwq := hwq.symm; subst hwq)
            go_ret2
            exact ⟨by rw [HR.out] <;> rfl, HB3.out⟩
        · have g2 : ¬ (m : Int) < (l.length : Int) := by omega
          have HRL : Hid (∀ j u, l[j]? = some u → rng l u = 0) := fun j u hu => HN.out j u (by have := (List.getElem?_eq_some_iff.1 hu).1; omega) hu
          have HEN : Hid (Ends l) := ends_of (fun j u hu => by
            have h1 := HRL.out j u hu
            rw [rng_flr HF.out hu] at h1
            cases hz : (flr l u.n).2.2 with
            | true => rfl
            | false => rw [hz] at h1; exact absurd h1 (by decide))
          clear HN
          go_wp2_with fail
          go_loopw [10] (fun vi wx => ∃ (n : Nat), n ≤ l.length ∧ vi = .int .i64 (n : Nat) ∧ Hid (Below w.heap.size w wx) ∧ Hid (∀ j u, j < n → l[j]? = some u → tgt l u = 0)) (fun vi _ => l.length - (intOf vi).toNat)
          case atStart => exact ⟨0, by omega, rfl, HB3, fun j _ hj => absurd hj (by omega)⟩
          case round =>
            rename World => ws
            obtain ⟨n, hnl, rfl, HB4, HN⟩ := hrel
            clear HB3
            by_cases hlt3 : n < l.length
            · have g3 : (n : Int) < (l.length : Int) := by omega
              obtain ⟨t, ht⟩ : ∃ t, l[n]? = some t := ⟨l[n], List.getElem?_eq_getElem hlt3⟩
              have HA := hide (together11_any ws _ l (TSl.mv HV.out (keep_below HB4.out)) HSH.out HF.out HEN.out n t ht)
              by_cases h0 : tgt l t = 0
              · as_aux_lemma =>
                have HN2 : Hid (∀ j u, j < n + 1 → l[j]? = some u → tgt l u = 0) := fun j u hj hu => by
                  by_cases e : j = n
                  · subst e
                    rw [ht] at hu
                    rw [← Option.some.inj hu]
                    exact h0
                  · exact HN.out j u (by omega) hu
                rw [h0] at HA
                clear h0 ht HN
                go_wp2_with (go_at_call 24; refine HA.out.mono ?_; rintro e w2 ⟨rfl, hb2⟩)
                have HB2 : Hid (Below w.heap.size w w2) := HB4.out.trans (hb2.mono HB4.out.size)
                clear hb2 HB4
                go_roundw
                case rel => exact ⟨n + 1, by omega, by go_num, HB2, HN2⟩
                case measure => simp [intOf]; omega
              · as_aux_lemma =>
                have HR : Hid (chk11 l = (tgt l t, n)) := chk_hit H64.out (k := 2) (by omega) ht h0 (fun k' j u hk hu => by
                  rcases (show k' = 0 ∨ k' = 1 by omega) with rfl | rfl
                  · exact HAL.out j u hu
                  · exact HRL.out j u hu) HN.out
                obtain ⟨E, hE⟩ : ∃ E, tgt l t = E := ⟨_, rfl⟩
                rw [hE] at HA HR h0
                have gE : ((E : Int) != 0) = true := by rw [bne_iff_ne]; omega
                clear h0 ht HN hE
                go_wp2_with (go_at_call 24; refine HA.out.mono ?_; rintro e w2 ⟨rfl, hb2⟩)
                go_ret2
                exact ⟨by rw [HR.out] <;> rfl, HB4.out.trans (hb2.mono HB4.out.size)⟩
            · as_aux_lemma =>
              have g3 : ¬ (n : Int) < (l.length : Int) := by omega
              have HTL : Hid (∀ j u, l[j]? = some u → tgt l u = 0) := fun j u hu => HN.out j u (by have := (List.getElem?_eq_some_iff.1 hu).1; omega) hu
              have HR := hide (chk_ok H64.out (fun k' j u hk hu => by
                rcases (show k' = 0 ∨ k' = 1 ∨ k' = 2 by omega) with rfl | rfl | rfl
                · exact HAL.out j u hu
                · exact HRL.out j u hu
                · exact HTL.out j u hu))
              clear HN
              go_wp2_with fail
              go_ret2
              exact ⟨by rw [HR.out] <;> rfl, HB4.out⟩
end
section
open Go.RowKit Go
theorem cut_shrt (l : List Tp) : Shrt (cutL l) := fun t ht => by
  unfold cutL at ht
  obtain ⟨u, _, rfl⟩ := List.mem_map.1 ht
  unfold cutT
  simp only [List.length_take]
  omega
theorem cut_len (l : List Tp) : (cutL l).length ≤ 80 := by
  unfold cutL
  rw [List.length_map, List.length_take]
  omega
end
section
open Go.RowKit Go
def Tts (w : World) (l : List Tp) (c : Array Value) : Prop := ∃ v, c = #[v] ∧ TSl w v l
theorem bkq_new (w : World) : ∃ C f d u, Bkq (w.alloc (.cells (bookCells (.slice none 0 0) (.slice none 0 0) 0 0 0 0) 47)) w.heap.size w.heap.size C f 0 d u := by
  refine ⟨_, fun _ => ⟨.slice none 0 0, .slice none 0 0, [], 0⟩, 0, 0, ⟨heap_alloc_new w _, rfl, rfl, rfl, rfl, fun i => ?_, fun k hk => ?_, fun i => Ko.none _ _ _ _ _, (fun _ _ _ _ h => by cases h), Nat.le_refl _, by decide, by decide⟩⟩
  · match i with
    | 0 => exact ⟨rfl, rfl, rfl⟩
    | 1 => exact ⟨rfl, rfl, rfl⟩
    | 2 => exact ⟨rfl, rfl, rfl⟩
    | 3 => exact ⟨rfl, rfl, rfl⟩
  · rcases hk with rfl | rfl | rfl | rfl | rfl | rfl | rfl | rfl | rfl | rfl | rfl | rfl | rfl | rfl <;> exact ⟨rfl, rfl⟩
structure Lst (W wx : World) (B : Nat) (f : Fin 4 → Fs) (N top g : Nat) (l : List Tp) (v : Value) : Prop where
  t : Tst wx N top g l
  n : W.heap.size ≤ N
  o : Okl l
  s : Shrt l
  vw : Wsl W wx v l
  q : ∀ q, v.ownBlock = some q → q < N ∧ ¬ Ft4 B f q
  f : ∀ q, Ft4 B f q → q < N ∨ top ≤ q
theorem Lst.next {W wx wy : World} {B : Nat} {f : Fin 4 → Fs} {N top g : Nat} {l : List Tp} {v : Value} (h : Lst W wx B f N top g l v) (hb : Below wx.heap.size wx wy) : Lst W wy B f N top g l v := ⟨h.t.next hb, h.n, h.o, h.s, h.vw.next hb, h.q, h.f⟩
theorem Lst.size {W wx : World} {B : Nat} {f : Fin 4 → Fs} {N top g : Nat} {l : List Tp} {v : Value} (h : Lst W wx B f N top g l v) : N ≤ g ∧ g < top ∧ top ≤ wx.heap.size := ⟨h.t.g.1, h.t.g.2, h.t.top_le⟩
theorem Lst.oth {W w w' : World} {base B : Nat} {C : Array Value} {f f' : Fin 4 → Fs} {t d u : Nat} {N top g g' : Nat} {l : List Tp} {v : Value} (h : Lst W w B f N top g l v) (hB : Bkq w base B C f t d u) (hk : Kp (fun q => q = g' ∨ Ft4 B f q) w w') (hf : ∀ q, Ft4 B f' q → Ft4 B f q ∨ w.heap.size ≤ q) (hg : g' < N ∨ top ≤ g') (hc : ∃ c T, w.heap[g']? = some (.cells c T (0, 0))) (hv : ∀ q, v.ownBlock = some q → q ≠ g') : Lst W w' B f' N top g l v := by
  have hz := h.size
  refine ⟨h.t.kps hk (fun q e => ?_) (fun q e => ?_), h.n, h.o, h.s, h.vw.kps hk (fun q e s => ?_), fun q e => ⟨(h.q q e).1, fun s => ?_⟩, fun q e => ?_⟩
  · rcases e with rfl | e
    · exact hg
    · exact h.f q e
  · rcases e with rfl | e
    · exact hc
    · exact hB.cel q e
  · rcases s with s | s
    · exact hv q e s
    · exact (h.q q e).2 s
  · rcases hf q s with s | s
    · exact (h.q q e).2 s
    · have := (h.q q e).1
      omega
  · rcases hf q e with e | e
    · exact h.f q e
    · exact .inr (by omega)
structure Nm3 (w : World) (B : Nat) (f : Fin 4 → Fs) (lo : Nat) (v : Value) (ns : List ByteArray) : Prop where
  s : SSl w v ns
  m : ns.length ≤ 129
  q : ∀ q, v.ownBlock = some q → lo ≤ q ∧ q < w.heap.size ∧ ¬ Ft4 B f q
theorem Nm3.step {w w' : World} {B : Nat} {f f' : Fin 4 → Fs} {lo g' : Nat} {v : Value} {ns : List ByteArray} (h : Nm3 w B f lo v ns) (hk : Kp (fun q => q = g' ∨ Ft4 B f q) w w') (hf : ∀ q, Ft4 B f' q → Ft4 B f q ∨ w.heap.size ≤ q) (hg : g' < lo) : Nm3 w' B f' lo v ns := by
  refine ⟨h.s.kps hk (fun q e s => ?_), h.m, fun q e => ?_⟩
  · have h1 := h.q q e
    rcases s with s | s
    · omega
    · exact h1.2.2 s
  · have h1 := h.q q e
    refine ⟨h1.1, Nat.lt_of_lt_of_le h1.2.1 hk.size, fun s => ?_⟩
    rcases hf q s with s | s
    · exact h1.2.2 s
    · omega
structure Tdl (W w w' : World) (base B d : Nat) (f f' : Fin 4 → Fs) (t N top g : Nat) (l : List Tp) (v : Value) : Prop where
  b : ∃ C' t' u', Bkq w' base B C' f' t' d u' ∧ t' ≤ t + 1551
  l : Lst W w' B f' N top g l v
  bw : Below W.heap.size W w'
  k : Kp (fun q => q = g ∨ Ft4 B f q) w w'
  f : ∀ q, Ft4 B f' q → Ft4 B f q ∨ w.heap.size ≤ q
  c : ∃ c T, w.heap[g]? = some (.cells c T (0, 0))
theorem told_lst {W w : World} {base B : Nat} {C : Array Value} {f : Fin 4 → Fs} {t d u : Nat} {N top g lo : Nat} {l : List Tp} {v vn : Value} {ns : List ByteArray} (hL : Lst W w B f N top g l v) (hO : Otb W) (hbW : Below W.heap.size W w) (hWb : W.heap.size ≤ base) (hn : Nm3 w B f lo vn ns) (hlo : top ≤ lo) (hk : Bkq w base B C f t d u) (ht : t ≤ 1000000) :
    Calls Tryz.prog 12 #[.pointer (some ⟨g, 0, none⟩), v, vn, .pointer (some ⟨B, 0, none⟩)] w fun e w' => e = .returned (.bool true) ∧ Hid (∃ f', Tdl W w w' base B d f f' t N top g l v) := by
  have hz := hL.size
  have hm := hn.m
  refine (told11_any hL.t hO hbW hL.n hWb hL.o hL.s (by have := hL.o.m; omega) v hL.vw (fun q e => by have := (hL.q q e).1; omega) vn ns hn.s (fun q e => by have := (hn.q q e).1; omega) (by omega) hk hL.f (by omega)).mono ?_
  rintro e w' ⟨rfl, hP⟩
  obtain ⟨hT, n, C', f', u', h1, h2, h3, h4⟩ := hP.out
  refine ⟨rfl, f', ⟨⟨C', t + n, u', h2, by omega⟩, ⟨hT, hL.n, hL.o, hL.s, hL.vw.kps h3 (fun q e s => ?_), fun q e => ⟨(hL.q q e).1, fun s => ?_⟩, fun q e => ?_⟩, hbW.trans (h3.below hbW.size (fun q e => ?_)), h3, h4, ?_⟩⟩
  · have h5 := hL.q q e
    rcases s with s | s
    · omega
    · exact h5.2 s
  · have h5 := hL.q q e
    rcases h4 q s with s | s
    · exact h5.2 s
    · omega
  · rcases h4 q e with e | e
    · exact hL.f q e
    · exact .inr (by omega)
  · rcases e with e | e
    · have := hL.n
      omega
    · have := (hk.lt q e).1
      omega
  · obtain ⟨c, hc⟩ := hL.t.cells
    exact ⟨c, _, hc⟩
structure Tlv (W : World) (base B d : Nat) (vp vb : Value) (i : Nat) (wx : World) : Prop where
  b : Below W.heap.size W wx
  e : ∃ C f t u, Bkq wx base B C f t d u ∧ t ≤ 5000 * i ∧ (vp = .pointer none ∨ ∃ N top g l, vp = .pointer (some ⟨g, 0, none⟩) ∧ Lst W wx B f N top g l vb)
theorem Tlv.next {W : World} {base B d : Nat} {vp vb : Value} {i j : Nat} {wx wy : World} (h : Tlv W base B d vp vb i wx) (hb : Below wx.heap.size wx wy) (hj : i ≤ j) : Tlv W base B d vp vb j wy := by
  obtain ⟨C, f, t, u, h1, h2, h3⟩ := h.e
  refine ⟨h.b.trans (hb.mono h.b.size), C, f, t, u, h1.next hb, by omega, ?_⟩
  rcases h3 with h3 | ⟨N, top, g, l, e, h3⟩
  · exact .inl h3
  · exact .inr ⟨N, top, g, l, e, h3.next hb⟩
theorem infoTbs : (Tryz.prog.info? 25).map (·.size) = some 2 := by kernel_rfl
theorem aggTbs (w : World) : (isAgg 25).run Tryz.prog w = .ok true w := by
  unfold isAgg
  rw [Sem.run_bind, run_underlying Tryz.underlying25 w]
  simp
theorem int_ne11 (n : Nat) : (((n : Nat) : Int) != ((n : Nat) : Int)) = false := by simp
set_option maxRecDepth 1000000 in
set_option maxHeartbeats 8000000 in
theorem stables_any (w : World) (hT : Tabs w) (hO : Otb w) (aL : Option Addr) (cL : Nat) (ls : List (List Tp)) (hv : GSl 1 Tts w (.slice aL ls.length cL) ls) (an : Option Addr) (cn : Nat) (ks : List ByteArray) (hN : SSl w (.slice an ks.length cn) ks) : Calls Tryz.prog 3 #[.agg #[.slice aL ls.length cL, .slice an ks.length cn]] w fun e w' => e = .returned (.bool true) ∧ Below w.heap.size w w' := by
  have hmax := hv.max
  have hb0 := below_alloc4 w (.cells #[.slice aL ls.length cL, .slice an ks.length cn] 25)
  have HB0 := hide hb0
  have HR0 := hide (heap_alloc_new w (.cells #[.slice aL ls.length cL, .slice an ks.length cn] 25))
  have HTW := hide (hT.next hb0)
  have HOW := hide (hO.next (keep_below hb0))
  have HVW : Hid (GSl 1 Tts (w.alloc (.cells #[.slice aL ls.length cL, .slice an ks.length cn] 25)) (.slice aL ls.length cL) ls) := GSl.move hv (fun l c ⟨v, e, h⟩ => ⟨v, e, TSl.mv h (keep_below hb0)⟩) (keep_below hb0)
  have HNW : Hid (SSl (w.alloc (.cells #[.slice aL ls.length cL, .slice an ks.length cn] 25)) (.slice an ks.length cn) ks) := hN.move (keep_below hb0)
  have HNU := hide (fun n W => num11_any n W)
  have HI := hide infoTbs
  have HAG : Hid (∀ w, (isAgg 25).run Tryz.prog w = .ok true w) := aggTbs
  clear hT hO hv hN hb0
  go_enter Tryz.func3, Tryz.ntmps3
  go_wp2_with fail
  generalize w.alloc (.cells #[.slice aL ls.length cL, .slice an ks.length cn] 25) = W at *
  have HT : Hid (∀ wy, Below W.heap.size W wy → Tabs wy) := fun wy hb => HTW.out.next hb
  have HO : Hid (∀ wy, Below W.heap.size W wy → Otb wy) := fun wy hb => HOW.out.next (keep_below hb)
  have HBG : Hid (∀ wy, Below W.heap.size W wy → Calls Tryz.prog 4 #[] wy fun e w' => e = .returned (.bool true) ∧ Below wy.heap.size wy w') := fun wy hb => begun11_any wy (HT.out wy hb) (HO.out wy hb)
  have HBX : Hid (∀ wy, Below W.heap.size W wy → wy.cell? ⟨w.heap.size, 0, none⟩ = some (.slice aL ls.length cL) ∧ ∀ j u, (#[.slice aL ls.length cL, .slice an ks.length cn] : Array Value)[j]? = some u → wy.cell? ⟨w.heap.size, 0 + j, none⟩ = some u) := fun wy hb => ⟨keep_below hb _ _ (blk_cell (j := 0) HR0.out rfl), fun j u hj => by rw [Nat.zero_add]; exact keep_below hb _ _ (blk_cell HR0.out hj)⟩
  refine (HBG.out W (Below.refl _ _)).mono ?_
  rintro e w0 ⟨rfl, hb⟩
  have HBg := hide hb
  clear hb
  obtain ⟨C0, f0, d, u0, hbk⟩ := bkq_new w0
  have hb1 := below_alloc4 w0 (.cells (bookCells (.slice none 0 0) (.slice none 0 0) 0 0 0 0) 47)
  have HX0 : Hid (Tlv W w0.heap.size w0.heap.size d (.pointer none) (.slice none 0 0) 0 (w0.alloc (.cells (bookCells (.slice none 0 0) (.slice none 0 0) 0 0 0 0) 47))) := ⟨HBg.out.trans (hb1.mono HBg.out.size), C0, f0, 0, u0, hbk, Nat.zero_le _, .inl rfl⟩
  have HWB : Hid (W.heap.size ≤ w0.heap.size) := HBg.out.size
  clear hbk hb1 HBg
  go_wp2_with (refine wpList_buildBook rfl rfl ?_)
  generalize w0.alloc (.cells (bookCells (.slice none 0 0) (.slice none 0 0) 0 0 0 0) 47) = wk at *
  generalize w0.heap.size = B at *
  go_loopw [4, 5, 6] (fun vp vb vi wx => ∃ (i : Nat) (vq : Value) (ab : Option Addr) (nb cb : Nat), i ≤ 20 ∧ vq = vp ∧ vb = .slice ab nb cb ∧ vi = .int .i64 (i : Nat) ∧ Hid (Tlv W B B d vq (.slice ab nb cb) i wx)) (fun _ _ vi _ => 20 - (intOf vi).toNat)
  case atStart => exact ⟨0, _, _, _, _, by omega, rfl, rfl, rfl, HX0⟩
  case round =>
    obtain ⟨i, vp, ab, nb, cb, hi, rfl, rfl, rfl, HX⟩ := hrel
    clear HX0
    have q0 : wr.cell? ⟨w.heap.size, 0, none⟩ = some (.slice aL ls.length cL) := (HBX.out wr HX.out.b).1
    by_cases hgo : i < ls.length ∧ i < 20
    · obtain ⟨hlt, h20⟩ := hgo
      have g1 : (i : Int) < (ls.length : Int) := by omega
      have g2 : (i : Int) < 20 := by omega
      obtain ⟨l0, hl0⟩ : ∃ l0, ls[i]? = some l0 := ⟨ls[i], List.getElem?_eq_getElem hlt⟩
      obtain ⟨a9, c9, e9, _, hform⟩ := HVW.out.form
      injection e9 with e91 e92 e93
      subst e91
      obtain ⟨b, off, rfl, hcc⟩ := hform.resolve_left (fun h => by rw [h] at hlt; simp at hlt)
      obtain ⟨c, ⟨v0, rfl, hv0⟩, hcell⟩ := hcc i l0 hl0
      have q1 := keep_below HX.out.b _ _ (hcell 0 v0 rfl)
      rw [Nat.mul_one, Nat.add_zero] at q1
      have HV0 := hide hv0
      obtain ⟨⟨a0, c0, hvv, _, _⟩, _⟩ := hv0
      subst hvv
      clear hcc hcell hl0 hform e92 e93
      go_wp2_with fail
      refine (cut11o_any W wr HX.out.b _ l0 HV0.out).mono ?_
      rintro e w1 ⟨a1, n1, c1, L, rfl, hP⟩
      have HSH := hide (cut_shrt l0)
      have hcl := cut_len l0
      generalize cutL l0 = T at *
      have hws := hP.out.wsl (by omega)
      obtain ⟨a1', c1', e1, _⟩ := hws.form
      injection e1 with e11 e12 e13
      subst e12
      have HW1 := hide hws
      have HQ1 : Hid (∀ q, (Value.slice a1 T.length c1).ownBlock = some q → wr.heap.size ≤ q ∧ q < w1.heap.size) := fun q e => hP.out.o.lt q e
      have HB01 := hide hP.out.b
      have HBW1 : Hid (Below W.heap.size W w1) := HX.out.b.trans (hP.out.b.mono HX.out.b.size)
      have HCLn := hide hcl
      clear hP q0 q1 HV0 hws e11 e13 hcl
      go_wp2_with fail
      refine (lendTso_any w1 _ T (HW1.out.tsl HBW1.out) HSH.out (by have := HCLn.out; omega)).mono ?_
      rintro e w2 ⟨g2, gc, L2, A, E, rfl, hP⟩
      have HL2 := hide hP.out.1
      have HB12 := hide hP.out.2.1
      have HE2 : Hid (g2 < w2.heap.size ∧ ∀ i, i < T.length → E i ≤ w2.heap.size) := hP.out.2.2
      have HBW2 : Hid (Below W.heap.size W w2) := HBW1.out.trans (hP.out.2.1.mono HBW1.out.size)
      clear hP
      obtain ⟨e1, hE1⟩ : ∃ e1, (chk11 T).1 = e1 := ⟨_, rfl⟩
      obtain ⟨p1, hP1⟩ : ∃ p1, (chk11 T).2 = p1 := ⟨_, rfl⟩
      have HC3 := hide (open_any w2 (HT.out w2 HBW2.out) (HO.out w2 HBW2.out) _ T HL2.out.tsl HSH.out)
      rw [hE1] at HC3
      go_wp2_with fail
      refine HC3.out.mono ?_
      rintro e w3 ⟨⟨vt, rfl, hpn, hps⟩, hb3⟩
      have HL3 := hide (HL2.out.next hb3)
      have HB23 := hide hb3
      have HPN : Hid ((vt = .pointer none ∧ e1 ≠ 0) ∨ ∃ gt, vt = .pointer (some ⟨gt, 0, none⟩) ∧ e1 = 0 ∧ w2.heap.size ≤ gt ∧ Tbm w3 w2.heap.size gt T 0 (.map none)) := by
        by_cases h0 : e1 = 0
        · obtain ⟨gt, h1, h2, h3⟩ := hps h0
          exact .inr ⟨gt, h1, h0, h2, h3⟩
        · exact .inl ⟨hpn h0, h0⟩
      clear hpn hps hb3 HC3 HL2
      go_wp2_with fail
      refine (overTso_any HL3.out).mono ?_
      rintro e w4 ⟨rfl, hP⟩
      have HK34 : Hid (Kp (fun q => w1.heap.size ≤ q ∧ q < w2.heap.size) w3 w4) := hP.out.2.mono (fun q _ e => by
        have h1 := HE2.out
        rcases e with e | ⟨j, hj, e⟩
        · have := (HL3.out.o.lt g2 rfl).1
          omega
        · have h2 := HL3.out.a j hj
          have h3 := h1.2 j hj
          omega)
      have HZ : Hid (wr.heap.size ≤ w1.heap.size ∧ w1.heap.size ≤ w2.heap.size ∧ w2.heap.size ≤ w3.heap.size ∧ w3.heap.size ≤ w4.heap.size) := ⟨HB01.out.size, HB12.out.size, HB23.out.size, HK34.out.size⟩
      have HB03 : Hid (Below wr.heap.size wr w3) := (HB01.out.trans (HB12.out.mono HB01.out.size)).trans (HB23.out.mono (by have := HZ.out; omega))
      have HB04 : Hid (Below wr.heap.size wr w4) := HB03.out.trans (HK34.out.below HB03.out.size (fun q e => by have := HZ.out; omega))
      have HBW4 : Hid (Below W.heap.size W w4) := HX.out.b.trans (HB04.out.mono HX.out.b.size)
      have HW4 : Hid (Wsl W w4 (.slice a1 T.length c1) T) := ((HW1.out.next HB12.out).next HB23.out).kps HK34.out (fun q e s => by have := HQ1.out q e; omega)
      have HPN4 : Hid ((vt = .pointer none ∧ e1 ≠ 0) ∨ ∃ gt, vt = .pointer (some ⟨gt, 0, none⟩) ∧ e1 = 0 ∧ Tst w4 w2.heap.size w4.heap.size gt T) := by
        rcases HPN.out with h | ⟨gt, h1, h2, h3, h4⟩
        · exact .inl h
        · exact .inr ⟨gt, h1, h2, Tst.of (h4.kp HK34.out (fun q e => e.2) h3) h3⟩
      clear hP HL3 HK34 HB03 HB23 HB12 HPN HW1 HE2
      have HC5 := hide (rcheck11_any w4 _ T (HW4.out.tsl HBW4.out) HSH.out)
      rw [hE1, hP1] at HC5
      go_wp2_with fail
      refine HC5.out.mono ?_
      rintro e w5 ⟨rfl, hb5⟩
      have HB05 : Hid (Below wr.heap.size wr w5) := HB04.out.trans (hb5.mono HB04.out.size)
      have HBW5 : Hid (Below W.heap.size W w5) := HX.out.b.trans (HB05.out.mono HX.out.b.size)
      have HW5 := hide (HW4.out.next hb5)
      have HPN5 : Hid ((vt = .pointer none ∧ e1 ≠ 0) ∨ ∃ gt, vt = .pointer (some ⟨gt, 0, none⟩) ∧ e1 = 0 ∧ Tst w5 w2.heap.size w4.heap.size gt T) := by
        rcases HPN4.out with h | ⟨gt, h1, h2, h3⟩
        · exact .inl h
        · exact .inr ⟨gt, h1, h2, h3.next hb5⟩
      have HZ5 := hide hb5.size
      have HE1 := hide hE1
      clear hb5 HC5 HPN4 HW4 HBW4 HB04 hE1 hP1
      have ne1 := int_ne11 e1
      rcases HPN5.out with ⟨rfl, h0⟩ | ⟨gt, rfl, h0, htt⟩
      · as_aux_lemma =>
        have n0 : ((e1 : Int) != 0) = true := by rw [bne_iff_ne]; omega
        have HR := hide (HX.out.next HB05.out (Nat.le_succ i))
        clear HPN5 HX HW5 h0
        go_wp2_with (go_at_call 10; refine (HNU.out _ _).mono ?_; rintro e wq ⟨rfl, hwq⟩; have hwq := hwq.symm; subst hwq)
        go_roundw
        case rel => exact ⟨i + 1, _, _, _, _, by omega, rfl, rfl, by go_num, HR⟩
        case measure => simp [intOf]; omega
      · have HTT := hide htt
        have HOK : Hid (Okl T) := okl_of (by rw [HE1.out]; exact h0)
        subst h0
        have HCB := hide (HBX.out w5 HBW5.out).2
        clear HPN5 HE1 htt ne1
        go_wp2_with (first
          | (go_at_call 10; refine (HNU.out _ _).mono ?_; rintro e wq ⟨rfl, hwq⟩; have hwq := hwq.symm; subst hwq)
          | (refine wpList_aggAt rfl rfl HI.out HAG.out w.heap.size 0 #[.slice (some ⟨b, off, none⟩) ls.length cL, .slice an ks.length cn] rfl rfl HCB.out ?_))
        refine (names11_any w5 _ _ _ an cn ks (HNW.out.move (keep_below HBW5.out)) _ T (HW5.out.tsl HBW5.out) HCLn.out).mono ?_
        rintro e w6 ⟨a6, n6, c6, rfl, hP⟩
        obtain ⟨ns, hss, hnl, hb6, hq6⟩ := hP.out
        obtain ⟨a6', c6', e6, _⟩ := hss.form
        injection e6 with e61 e62 e63
        subst e62
        obtain ⟨C, f, t, u, hbk, htl, hlast⟩ := HX.out.e
        have hZ := HZ.out
        have hz5 := HZ5.out
        have hz6 := hb6.size
        have hWr := HX.out.b.size
        have HB06 : Hid (Below wr.heap.size wr w6) := HB05.out.trans (hb6.mono HB05.out.size)
        have HBW6 : Hid (Below W.heap.size W w6) := HX.out.b.trans (HB06.out.mono HX.out.b.size)
        have HBK := hide (hbk.next HB06.out)
        have HLT : Hid (Lst W w6 B f w2.heap.size w4.heap.size gt T (.slice a1 T.length c1)) := ⟨HTT.out.next hb6, by omega, HOK.out, HSH.out, HW5.out.next hb6, fun q e => ⟨by have := HQ1.out q e; omega, fun s => by have h1 := HQ1.out q e; have h2 := hbk.lt q s; omega⟩, fun q e => .inl (by have h2 := hbk.lt q e; omega)⟩
        have HNM : Hid (Nm3 w6 B f w4.heap.size (.slice a6 ns.length c6) ns) := ⟨hss, hnl, fun q e => ⟨by have := hq6 q e; omega, (hq6 q e).2, fun s => by have h1 := hq6 q e; have h2 := hbk.lt q s; omega⟩⟩
        have HTL : Hid (t ≤ 100000) := by show _ ≤ _; omega
        have HTI : Hid (t ≤ 5000 * i) := htl
        have HLA : Hid (vp = .pointer none ∨ ∃ N top g l, vp = .pointer (some ⟨g, 0, none⟩) ∧ Lst W w6 B f N top g l (.slice ab nb cb) ∧ top ≤ wr.heap.size) := by
          rcases hlast with h | ⟨N, top, g, l, h1, h2⟩
          · exact .inl h
          · exact .inr ⟨N, top, g, l, h1, h2.next HB06.out, h2.size.2.2⟩
        have HWR : Hid (wr.heap.size ≤ w2.heap.size ∧ w2.heap.size ≤ w4.heap.size) := by show _ ∧ _; omega
        clear hP hss hnl hb6 hq6 e61 e63 hbk htl hlast hZ hz5 hz6 hWr HX HTT HW5 HB05 HBW5 HCB HNW HVW HB06 HB01 HBW1 HBW2
        go_wp2_with fail
        refine (told_lst HLT.out HOW.out HBW6.out HWB.out HNM.out (Nat.le_refl _) HBK.out (by have := HTL.out; omega)).mono ?_
        rintro e w7 ⟨rfl, hP⟩
        obtain ⟨f7, h7⟩ := hP.out
        have H7 := hide h7
        obtain ⟨C7, t7, u7, hb7, ht7⟩ := h7.b
        have HBK7 := hide hb7
        have HT7 : Hid (t7 ≤ t + 1551) := ht7
        have HNM7 := hide (HNM.out.step h7.k h7.f (by have := HLT.out.size; omega))
        have HLA7 : Hid (vp = .pointer none ∨ ∃ N top g l, vp = .pointer (some ⟨g, 0, none⟩) ∧ Lst W w7 B f7 N top g l (.slice ab nb cb) ∧ top ≤ wr.heap.size) := by
          rcases HLA.out with h | ⟨N, top, g, l, h1, h2, h3⟩
          · exact .inl h
          · have hs := HLT.out.size
            have hs2 := h2.size
            have hw := HWR.out
            exact .inr ⟨N, top, g, l, h1, h2.oth HBK.out h7.k h7.f (.inr (by omega)) h7.c (fun q e => by have := (h2.q q e).1; omega), h3⟩
        clear hP h7 hb7 ht7 HLA HNM HLT HBK HBW6
        rcases HLA7.out with rfl | ⟨N, top, g, l, rfl, hll, htp⟩
        · as_aux_lemma =>
          clear HLA7
          go_wp2_with fail
          refine (told_lst H7.out.l HOW.out H7.out.bw HWB.out HNM7.out (Nat.le_refl _) HBK7.out (by have := HTL.out; have := HT7.out; omega)).mono ?_
          rintro e w8 ⟨rfl, hP⟩
          obtain ⟨f8, h8⟩ := hP.out
          obtain ⟨C8, t8, u8, hb8, ht8⟩ := h8.b
          have HR : Hid (Tlv W B B d (.pointer (some ⟨gt, 0, none⟩)) (.slice a1 T.length c1) (i + 1) w8) := ⟨h8.bw, C8, f8, t8, u8, hb8, by have h1 := HT7.out; have h2 := HTI.out; omega, .inr ⟨_, _, gt, T, rfl, h8.l⟩⟩
          clear hP h8 hb8 ht8 H7 HNM7 HBK7
          go_wp2_with fail
          go_roundw
          case rel => exact ⟨i + 1, _, _, _, _, by omega, rfl, rfl, by go_num, HR⟩
          case measure => simp [intOf]; omega
        · as_aux_lemma =>
          have HLL := hide hll
          have HTP := hide htp
          clear HLA7 hll htp
          go_wp2_with fail
          refine (told_lst HLL.out HOW.out H7.out.bw HWB.out HNM7.out (by have := HTP.out; have := HWR.out; omega) HBK7.out (by have := HTL.out; have := HT7.out; omega)).mono ?_
          rintro e w8 ⟨rfl, hP⟩
          obtain ⟨f8, h8⟩ := hP.out
          obtain ⟨C8, t8, u8, hb8, ht8⟩ := h8.b
          have HBK8 := hide hb8
          have HT8 : Hid (t8 ≤ t7 + 1551) := ht8
          have HW8 := hide h8.bw
          have hs := HLL.out.size
          have hs7 := H7.out.l.size
          have hw := HWR.out
          have htp := HTP.out
          have HNM8 := hide (HNM7.out.step h8.k h8.f (by omega))
          have HLT8 := hide (H7.out.l.oth HBK7.out h8.k h8.f (.inl (by omega)) h8.c (fun q e => by have := HQ1.out q e; omega))
          clear hP h8 hb8 ht8 HLL HNM7 HBK7 H7 hs hs7 hw htp
          go_wp2_with fail
          refine (told_lst HLT8.out HOW.out HW8.out HWB.out HNM8.out (Nat.le_refl _) HBK8.out (by have := HTL.out; have := HT7.out; have := HT8.out; omega)).mono ?_
          rintro e w9 ⟨rfl, hP⟩
          obtain ⟨f9, h9⟩ := hP.out
          obtain ⟨C9, t9, u9, hb9, ht9⟩ := h9.b
          have HR : Hid (Tlv W B B d (.pointer (some ⟨gt, 0, none⟩)) (.slice a1 T.length c1) (i + 1) w9) := ⟨h9.bw, C9, f9, t9, u9, hb9, by have h1 := HT7.out; have h2 := HTI.out; have h3 := HT8.out; omega, .inr ⟨_, _, gt, T, rfl, h9.l⟩⟩
          clear hP h9 hb9 ht9 HLT8 HNM8 HBK8
          go_wp2_with fail
          go_roundw
          case rel => exact ⟨i + 1, _, _, _, _, by omega, rfl, rfl, by go_num, HR⟩
          case measure => simp [intOf]; omega
    · have HLK : Hid (Calls Tryz.prog 13 #[.pointer (some ⟨B, 0, none⟩)] wr fun e w' => e = .returned (.bool true) ∧ Below W.heap.size W w') := by
        obtain ⟨C, f, t, u, hbk, _, _⟩ := HX.out.e
        refine (look4_any (F := Ft4 B f) (t := t) ⟨C, f, d, u, hbk, fun _ e => e⟩).mono ?_
        rintro e w' ⟨rfl, hP⟩
        exact ⟨rfl, HX.out.b.trans (hP.out.2.below HX.out.b.size (fun q e => by have h1 := (hbk.lt q e).1; have h2 := HWB.out; omega))⟩
      clear HX
      by_cases hlt : i < ls.length
      · as_aux_lemma =>
        have g1 : (i : Int) < (ls.length : Int) := by omega
        have g2 : ¬ (i : Int) < 20 := by omega
        go_wp2_with fail
        refine HLK.out.mono ?_
        rintro e wl ⟨rfl, hbl⟩
        have HBl := hide hbl
        clear hbl HLK
        go_wp2_with fail
        refine (HBG.out wl HBl.out).mono ?_
        rintro e wb ⟨rfl, hbb⟩
        have HBb : Hid (Below w.heap.size w wb) := HB0.out.trans ((HBl.out.trans (hbb.mono HBl.out.size)).mono HB0.out.size)
        clear hbb HBl
        go_wp2_with fail
        go_ret
        exact ⟨rfl, HBb.out⟩
      · as_aux_lemma =>
        have g1 : ¬ (i : Int) < (ls.length : Int) := by omega
        go_wp2_with fail
        refine HLK.out.mono ?_
        rintro e wl ⟨rfl, hbl⟩
        have HBl := hide hbl
        clear hbl HLK
        go_wp2_with fail
        refine (HBG.out wl HBl.out).mono ?_
        rintro e wb ⟨rfl, hbb⟩
        have HBb : Hid (Below w.heap.size w wb) := HB0.out.trans ((HBl.out.trans (hbb.mono HBl.out.size)).mono HB0.out.size)
        clear hbb HBl
        go_wp2_with fail
        go_ret
        exact ⟨rfl, HBb.out⟩
end
section
open Go.ChangeShapes Go.WideShapes Go.ChangeAt Go.RowKit Go.Deep Go.Joins Go
theorem weight_le {H : Type} {t : TypeId} {d : DataW H} (h : (d.weights Tryz.prog t).all (· ≤ reachBytes) = true) {n : Nat} (hn : n ∈ d.weights Tryz.prog t) : n ≤ 140737488351232 := by
  have := List.all_eq_true.1 h n hn
  unfold reachBytes at this
  simpa using this
theorem weight_each {H : Type} {ts : List TypeId} {ds : List (DataW H)} (h : (DataW.weightsEach Tryz.prog ts ds).all (· ≤ reachBytes) = true) {j : Nat} {t : TypeId} {d : DataW H} (ht : ts[j]? = some t) (hd : ds[j]? = some d) : (d.weights Tryz.prog t).all (· ≤ reachBytes) = true :=
  List.all_eq_true.2 fun n hn => List.all_eq_true.1 h n (DataW.weights_mem_each ht hd n hn)
theorem Tryz.bytesStr : Tryz.prog.bytesOf 9 = 16 := by kernel_rfl
theorem ssl_open {H : Type} {enc : TypeId × Value → H} {w : World} {base fuel : Nat} {held : Bool} {v : Value} {x : DataW H × List MemPlace} (h : DataW.trod enc Tryz.prog w base (fun _ => true) held fuel 23 [v] = some x) (hW : (x.1.weights Tryz.prog 23).all (· ≤ reachBytes) = true) : ∃ ks, SSl w v ks := by
  rcases open_strings Tryz.underlying23 Tryz.underlying9 Tryz.cells_str h with ⟨hcs, _⟩ | ⟨a, len, cap, ss, hcs, _, hl, hm, hmm, hx, hel, hsz⟩
  · injection hcs with hcs _
    subst hcs
    exact ⟨[], ⟨none, 0, rfl, ⟨by simp, fun _ => rfl⟩, .inl rfl⟩, by simp, by simp⟩
  · injection hcs with hcs _
    subst hcs
    simp only [if_true] at hmm
    have hlen : (ss.take len).length = len := by rw [List.length_take]; omega
    unfold maxLen at hm
    have hw1 : len ≤ 140737488351232 := by
      have h1 := weight_le hW (n := ((strs (H := H) (ss.take len)).length + (strs (H := H) (ss.drop len)).length) * Tryz.prog.bytesOf 9) (by rw [hx]; simp only [DataW.weights, Tryz.underlying23]; exact List.mem_cons_self ..)
      rw [Tryz.bytesStr] at h1
      have h2 : (strs (H := H) (ss.take len)).length = len := by simp [strs]; omega
      omega
    have hw2 : ∀ s ∈ ss.take len, s.size ≤ 140737488351232 := fun s hs => by
      refine weight_le hW ?_
      rw [hx]
      simp only [DataW.weights, Tryz.underlying23]
      refine List.mem_cons.2 (.inr (List.mem_append.2 (.inl (weights_all (d := .lit (.string s.data.toList)) (List.mem_map.2 ⟨s, hs, rfl⟩) _ ?_))))
      simp only [DataW.weights, List.mem_singleton]
      rfl
    refine ⟨ss.take len, ⟨some a, cap, by rw [hlen], ⟨by rw [hlen]; exact hl, fun h => by cases h⟩, ?_⟩, by rw [hlen]; exact hw1, hw2⟩
    by_cases hz : len = 0
    · exact .inl (by rw [hz]; rfl)
    · obtain ⟨b, off, spot⟩ := a
      have hspot : spot = none := by
        have := hel 0 (by omega)
        simpa [Addr.add] using World.cell?_spot this
      subst hspot
      refine .inr ⟨b, off, rfl, fun j s hj => ?_⟩
      have hjl : j < len := by
        have := (List.getElem?_eq_some_iff.1 hj).1
        omega
      have h1 := hel j (by omega)
      rw [addr_add] at h1
      rw [h1]
      rw [List.getElem?_take_of_lt hjl] at hj
      rw [List.getD_eq_getElem?_getD, hj]
      rfl
end
section
open Go.ChangeShapes Go.WideShapes Go.ChangeAt Go.RowKit Go.Deep Go.Joins Go
theorem gsl_of {α : Type} {n : Nat} {P : World → α → Array Value → Prop} {w : World} {a : Addr} {len cap : Nat} [Inhabited α] (hn : 0 < n) (hP : ∀ x c, P w x c → c.size = n) (hl : len ≤ cap) (hm : len ≤ 140737488351232) (each : ∀ i, i < len → ∃ t cs', P w t cs' ∧ ∀ j u, cs'[j]? = some u → w.cell? ((a.add (i * n)).add j) = some u) : ∃ is, GSl n P w (.slice (some a) len cap) is := by
  have hch : ∀ i, ∃ t : α, i < len → ∃ cs', P w t cs' ∧ ∀ j u, cs'[j]? = some u → w.cell? ((a.add (i * n)).add j) = some u := fun i => by
    by_cases hi : i < len
    · obtain ⟨t, h⟩ := each i hi
      exact ⟨t, fun _ => h⟩
    · exact ⟨default, fun h => absurd h hi⟩
  obtain ⟨f, hf⟩ := Classical.axiomOfChoice hch
  have hln : ((List.range len).map f).length = len := by simp
  refine ⟨(List.range len).map f, ⟨some a, cap, by rw [hln], ⟨by rw [hln]; exact hl, fun h => by cases h⟩, ?_⟩, by rw [hln]; omega⟩
  by_cases hz : len = 0
  · exact .inl (by rw [hz]; rfl)
  · obtain ⟨b, off, spot⟩ := a
    have hspot : spot = none := by
      obtain ⟨t, cs', ht, hc⟩ := each 0 (by omega)
      have hs := hP t cs' ht
      have := hc 0 (cs'[0]'(by omega)) (Array.getElem?_eq_getElem _)
      simpa [Addr.add] using World.cell?_spot this
    subst hspot
    refine .inr ⟨b, off, rfl, fun i t hi => ?_⟩
    have hil : i < len := by
      have := (List.getElem?_eq_some_iff.1 hi).1
      omega
    rw [List.getElem?_map, List.getElem?_range hil] at hi
    injection hi with hi
    subst hi
    obtain ⟨cs', h1, h2⟩ := hf i hil
    refine ⟨cs', h1, fun j u hu => ?_⟩
    have := h2 j u hu
    rw [addr_add, addr_add] at this
    exact this
theorem gsl_open {H : Type} {enc : TypeId × Value → H} {α : Type} [Inhabited α] {n : Nat} {P : World → α → Array Value → Prop} {S T : TypeId} {w : World} {base fuel : Nat} {held : Bool} {v : Value} {x : DataW H × List MemPlace} (hS : Tryz.prog.underlying S = some (.slice T)) (hcT : Tryz.prog.cellsOf T = n) (hbT : 0 < Tryz.prog.bytesOf T) (hn : 0 < n) (hP : ∀ x c, P w x c → c.size = n)
    (one : ∀ (fuel : Nat) (cs : List Value) (x : DataW H × List MemPlace), DataW.trod enc Tryz.prog w base (fun _ => true) held fuel T cs = some x → (x.1.weights Tryz.prog T).all (· ≤ reachBytes) = true → ∃ t, P w t cs.toArray)
    (h : DataW.trod enc Tryz.prog w base (fun _ => true) held fuel S [v] = some x) (hW : (x.1.weights Tryz.prog S).all (· ≤ reachBytes) = true) : ∃ is, GSl n P w v is := by
  rcases DataW.trod_slice hS h with ⟨hcs, _⟩ | ⟨a, len, cap, elems, rest, m, hfm, hcs, hx9, hb, hl, hm, hlen2, hel, _, _⟩
  · injection hcs with hcs _
    subst hcs
    exact ⟨[], GSl.nil⟩
  · injection hcs with hcs _
    subst hcs
    have hm2 : len ≤ 140737488351232 := by
      have h1 := weight_le hW (n := ((elems.map (·.1)).length + (rest.map (·.1)).length) * Tryz.prog.bytesOf T) (by rw [hx9]; simp only [DataW.weights, hS]; exact List.mem_cons_self ..)
      rw [List.length_map] at h1
      have h2 : len * 1 ≤ (elems.length + (rest.map (·.1)).length) * Tryz.prog.bytesOf T := Nat.mul_le_mul (by omega) hbT
      omega
    have hwe : ∀ (i : Nat) (z : DataW H × List MemPlace), elems[i]? = some z → (z.1.weights Tryz.prog T).all (· ≤ reachBytes) = true := fun i z hz => List.all_eq_true.2 fun n hn => by
      refine List.all_eq_true.1 hW n ?_
      rw [hx9]
      simp only [DataW.weights, hS]
      exact List.mem_cons.2 (.inr (List.mem_append.2 (.inl (weights_all (List.mem_map.2 ⟨z, List.mem_of_getElem? hz, rfl⟩) n hn))))
    refine gsl_of hn hP hl hm2 fun i hi => ?_
    have h1 := hel i hi
    rw [hcT] at h1
    have h2 : ∃ z, elems[i]? = some z := ⟨elems[i]'(by omega), List.getElem?_eq_getElem (by omega)⟩
    obtain ⟨z, hz⟩ := h2
    rw [hz] at h1
    obtain ⟨cs', h3, h4⟩ := Option.bind_eq_some_iff.1 h1
    obtain ⟨t, ht⟩ := one m cs' z h4 (hwe i z hz)
    obtain ⟨_, hln, hcell⟩ := World.cells?_some h3
    refine ⟨t, cs'.toArray, ht, fun j u hu => ?_⟩
    rw [List.getElem?_toArray] at hu
    have hj : j < n := by
      have := (List.getElem?_eq_some_iff.1 hu).1
      omega
    rw [hcell j hj]
    exact hu
instance : Inhabited Rf := ⟨zrf⟩
instance : Inhabited Fd := ⟨⟨⟨#[]⟩, ⟨#[]⟩, zrf, false⟩⟩
instance : Inhabited Cz := ⟨⟨⟨#[]⟩, ⟨#[]⟩⟩⟩
instance : Inhabited Tp := ⟨ztp⟩
theorem cellsRf : Tryz.prog.cellsOf 65 = 2 := by kernel_rfl
theorem cellsFd : Tryz.prog.cellsOf 104 = 5 := by kernel_rfl
theorem cellsCz : Tryz.prog.cellsOf 114 = 2 := by kernel_rfl
theorem cellsTp : Tryz.prog.cellsOf 69 = 9 := by kernel_rfl
theorem cells3 : Tryz.prog.cellsOf 3 = 1 := by kernel_rfl
theorem cells2 : Tryz.prog.cellsOf 2 = 1 := by kernel_rfl
theorem cells4 : Tryz.prog.cellsOf 4 = 1 := by kernel_rfl
theorem cells9 : Tryz.prog.cellsOf 9 = 1 := by kernel_rfl
theorem cellsFs : Tryz.prog.cellsOf 66 = 1 := by kernel_rfl
theorem cellsCs : Tryz.prog.cellsOf 67 = 1 := by kernel_rfl
theorem cellsWs : Tryz.prog.cellsOf 23 = 1 := by kernel_rfl
theorem bytesFd : Tryz.prog.bytesOf 104 = 64 := by kernel_rfl
theorem bytesCz : Tryz.prog.bytesOf 114 = 32 := by kernel_rfl
theorem bytesTp : Tryz.prog.bytesOf 69 = 136 := by kernel_rfl
theorem str_le {H : Type} {x : DataW H × List MemPlace} {s : ByteArray} (hx : x = (.lit (.string s.data.toList), [])) (hW : (x.1.weights Tryz.prog 9).all (· ≤ reachBytes) = true) : s.size ≤ 140737488351232 := by
  refine weight_le (t := 9) hW ?_
  rw [hx]
  simp only [DataW.weights, List.mem_singleton]
  rfl
set_option maxRecDepth 100000 in
theorem ref_open {H : Type} {enc : TypeId × Value → H} {w : World} {base fuel : Nat} {held : Bool} {c0 c1 : Value} {x : DataW H × List MemPlace} (h : DataW.trod enc Tryz.prog w base (fun _ => true) held fuel 65 [c0, c1] = some x) (hW : (x.1.weights Tryz.prog 65).all (· ≤ reachBytes) = true) : ∃ r : Rf, c0 = .string r.n ∧ c1 = .bool r.z ∧ r.n.size ≤ 140737488351232 := by
  obtain ⟨y0, y1, n, hx, _, h0, h1⟩ := trod_struct2 Tryz.underlying65 h
  have g0 : DataW.trod enc Tryz.prog w base (fun _ => true) held n 9 [c0] = some y0 := by simpa [cells9] using h0
  have g1 : DataW.trod enc Tryz.prog w base (fun _ => true) held n 4 [c1] = some y1 := by simpa [cells4] using h1
  obtain ⟨s, e0, hy0, _⟩ := DataW.trod_string Tryz.underlying9 g0
  obtain ⟨z, e1, _⟩ := DataW.trod_bool Tryz.underlying4 g1
  have hWE : (DataW.weightsEach Tryz.prog [9, 4] [y0.1, y1.1]).all (· ≤ reachBytes) = true := by
    rw [hx] at hW
    simp only [DataW.weights, Tryz.underlying65] at hW
    exact hW
  injection e0 with e0 _
  injection e1 with e1 _
  exact ⟨⟨s, z⟩, e0, e1, str_le hy0 (weight_each hWE (j := 0) rfl rfl)⟩
set_option maxRecDepth 100000 in
theorem field_open {H : Type} {enc : TypeId × Value → H} {w : World} {base : Nat} {held : Bool} (fuel : Nat) (cs : List Value) (x : DataW H × List MemPlace) (h : DataW.trod enc Tryz.prog w base (fun _ => true) held fuel 104 cs = some x) (hW : (x.1.weights Tryz.prog 104).all (· ≤ reachBytes) = true) : ∃ f, Fdi w f cs.toArray := by
  obtain ⟨xs, n, _, hx, hlen, hxl, hf⟩ := DataW.trod_struct Tryz.underlying104 h
  rw [cellsFd] at hlen
  match cs, hlen, xs, hxl with
  | [c0, c1, c2, c3, c4], _, [y0, y1, y2, y3], _ =>
    have g0 : DataW.trod enc Tryz.prog w base (fun _ => true) held n 9 [c0] = some y0 := by simpa [cells9] using hf 0 _ rfl
    have g1 : DataW.trod enc Tryz.prog w base (fun _ => true) held n 9 [c1] = some y1 := by simpa [cells9] using hf 1 _ rfl
    have g2 : DataW.trod enc Tryz.prog w base (fun _ => true) held n 65 [c2, c3] = some y2 := by simpa [cellsRf] using hf 2 _ rfl
    have g3 : DataW.trod enc Tryz.prog w base (fun _ => true) held n 4 [c4] = some y3 := by simpa [cells4] using hf 3 _ rfl
    have hWE : (DataW.weightsEach Tryz.prog [9, 9, 65, 4] [y0.1, y1.1, y2.1, y3.1]).all (· ≤ reachBytes) = true := by
      rw [hx] at hW
      simp only [DataW.weights, Tryz.underlying104] at hW
      exact hW
    obtain ⟨s0, e0, hy0, _⟩ := DataW.trod_string Tryz.underlying9 g0
    obtain ⟨s1, e1, hy1, _⟩ := DataW.trod_string Tryz.underlying9 g1
    obtain ⟨r, e2, e3, hr⟩ := ref_open g2 (weight_each hWE (j := 2) rfl rfl)
    obtain ⟨z, e4, _⟩ := DataW.trod_bool Tryz.underlying4 g3
    injection e0 with e0 _
    injection e1 with e1 _
    injection e4 with e4 _
    subst e0
    subst e1
    subst e2
    subst e3
    subst e4
    exact ⟨⟨s0, s1, r, z⟩, rfl, str_le hy0 (weight_each hWE (j := 0) rfl rfl), str_le hy1 (weight_each hWE (j := 1) rfl rfl), hr⟩
set_option maxRecDepth 100000 in
theorem case_open {H : Type} {enc : TypeId × Value → H} {w : World} {base : Nat} {held : Bool} (fuel : Nat) (cs : List Value) (x : DataW H × List MemPlace) (h : DataW.trod enc Tryz.prog w base (fun _ => true) held fuel 114 cs = some x) (hW : (x.1.weights Tryz.prog 114).all (· ≤ reachBytes) = true) : ∃ f, Czi w f cs.toArray := by
  obtain ⟨xs, n, _, hx, hlen, hxl, hf⟩ := DataW.trod_struct Tryz.underlying114 h
  rw [cellsCz] at hlen
  match cs, hlen, xs, hxl with
  | [c0, c1], _, [y0, y1], _ =>
    have g0 : DataW.trod enc Tryz.prog w base (fun _ => true) held n 9 [c0] = some y0 := by simpa [cells9] using hf 0 _ rfl
    have g1 : DataW.trod enc Tryz.prog w base (fun _ => true) held n 9 [c1] = some y1 := by simpa [cells9] using hf 1 _ rfl
    have hWE : (DataW.weightsEach Tryz.prog [9, 9] [y0.1, y1.1]).all (· ≤ reachBytes) = true := by
      rw [hx] at hW
      simp only [DataW.weights, Tryz.underlying114] at hW
      exact hW
    obtain ⟨s0, e0, hy0, _⟩ := DataW.trod_string Tryz.underlying9 g0
    obtain ⟨s1, e1, hy1, _⟩ := DataW.trod_string Tryz.underlying9 g1
    injection e0 with e0 _
    injection e1 with e1 _
    subst e0
    subst e1
    exact ⟨⟨s0, s1⟩, rfl, str_le hy0 (weight_each hWE (j := 0) rfl rfl), str_le hy1 (weight_each hWE (j := 1) rfl rfl)⟩
theorem i64_wf {z : Int} (h : (Lit.int .i64 z).wf = true) : -9223372036854775808 ≤ z ∧ z ≤ 9223372036854775807 := by
  simp [Lit.wf, IntKind.min, IntKind.max, IntKind.bits, IntKind.signed] at h
  omega
set_option maxRecDepth 100000 in
theorem type_open {H : Type} {enc : TypeId × Value → H} {w : World} {base : Nat} {held : Bool} (fuel : Nat) (cs : List Value) (x : DataW H × List MemPlace) (h : DataW.trod enc Tryz.prog w base (fun _ => true) held fuel 69 cs = some x) (hW : (x.1.weights Tryz.prog 69).all (· ≤ reachBytes) = true) : ∃ t, Tpi w t cs.toArray := by
  obtain ⟨xs, n, _, hx, hlen, hxl, hf⟩ := DataW.trod_struct Tryz.underlying69 h
  rw [cellsTp] at hlen
  match cs, hlen, xs, hxl with
  | [c0, c1, c2, c3, c4, c5, c6, c7, c8], _, [y0, y1, y2, y3, y4, y5, y6, y7], _ =>
    have g0 : DataW.trod enc Tryz.prog w base (fun _ => true) held n 9 [c0] = some y0 := by simpa [cells9] using hf 0 _ rfl
    have g1 : DataW.trod enc Tryz.prog w base (fun _ => true) held n 3 [c1] = some y1 := by simpa [cells3] using hf 1 _ rfl
    have g2 : DataW.trod enc Tryz.prog w base (fun _ => true) held n 2 [c2] = some y2 := by simpa [cells2] using hf 2 _ rfl
    have g3 : DataW.trod enc Tryz.prog w base (fun _ => true) held n 2 [c3] = some y3 := by simpa [cells2] using hf 3 _ rfl
    have g4 : DataW.trod enc Tryz.prog w base (fun _ => true) held n 65 [c4, c5] = some y4 := by simpa [cellsRf] using hf 4 _ rfl
    have g5 : DataW.trod enc Tryz.prog w base (fun _ => true) held n 66 [c6] = some y5 := by simpa [cellsFs] using hf 5 _ rfl
    have g6 : DataW.trod enc Tryz.prog w base (fun _ => true) held n 67 [c7] = some y6 := by simpa [cellsCs] using hf 6 _ rfl
    have g7 : DataW.trod enc Tryz.prog w base (fun _ => true) held n 23 [c8] = some y7 := by simpa [cellsWs] using hf 7 _ rfl
    have hWE : (DataW.weightsEach Tryz.prog [9, 3, 2, 2, 65, 66, 67, 23] [y0.1, y1.1, y2.1, y3.1, y4.1, y5.1, y6.1, y7.1]).all (· ≤ reachBytes) = true := by
      rw [hx] at hW
      simp only [DataW.weights, Tryz.underlying69] at hW
      exact hW
    obtain ⟨s0, e0, hy0, _⟩ := DataW.trod_string Tryz.underlying9 g0
    obtain ⟨n1, e1, _, w1⟩ := DataW.trod_int Tryz.underlying3 g1
    obtain ⟨n2, e2, _, w2⟩ := DataW.trod_int Tryz.underlying2 g2
    obtain ⟨n3, e3, _, w3⟩ := DataW.trod_int Tryz.underlying2 g3
    obtain ⟨r, e4, e5, hr⟩ := ref_open g4 (weight_each hWE (j := 4) rfl rfl)
    obtain ⟨fs, h5⟩ := gsl_open (P := Fdi) Tryz.underlying66 cellsFd (by rw [bytesFd]; decide) (by decide) (fun f c hc => by rw [hc.1]; rfl) field_open g5 (weight_each hWE (j := 5) rfl rfl)
    obtain ⟨cz, h6⟩ := gsl_open (P := Czi) Tryz.underlying67 cellsCz (by rw [bytesCz]; decide) (by decide) (fun f c hc => by rw [hc.1]; rfl) case_open g6 (weight_each hWE (j := 6) rfl rfl)
    obtain ⟨ws, h7⟩ := ssl_open g7 (weight_each hWE (j := 7) rfl rfl)
    injection e0 with e0 _
    injection e1 with e1 _
    injection e2 with e2 _
    injection e3 with e3 _
    subst e0
    subst e1
    subst e2
    subst e3
    subst e4
    subst e5
    exact ⟨⟨s0, n1, n2, n3, r, fs, cz, ws⟩, ⟨⟨c6, c7, c8, rfl, h5, h6, h7⟩, ⟨str_le hy0 (weight_each hWE (j := 0) rfl rfl), hr, i64_wf w1, i64_wf w2, i64_wf w3⟩⟩⟩
theorem types_open {H : Type} {enc : TypeId × Value → H} {w : World} {base fuel : Nat} {held : Bool} {v : Value} {x : DataW H × List MemPlace} (h : DataW.trod enc Tryz.prog w base (fun _ => true) held fuel 49 [v] = some x) (hW : (x.1.weights Tryz.prog 49).all (· ≤ reachBytes) = true) : ∃ l, TSl w v l :=
  gsl_open (P := Tpi) Tryz.underlying49 cellsTp (by rw [bytesTp]; decide) (by decide) (fun _ _ hc => hc.size9) type_open h hW
end
section
open Go.RowKit Go
theorem acc_eq : (Rows.laid_unicode_utf8_acceptRanges : DataW Unit) = Lib.acceptData := by kernel_rfl
theorem fst_eq : Rows.laid_unicode_utf8_first = Lib.firstData := by kernel_rfl
end
end Go.Proofs.YtbbalhfjgpaabaaGreatDoor
