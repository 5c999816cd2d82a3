import Derived.Test.YtagkogpjckjobaaGreatDoorJh
import Derived.Test.YtagkogpjckjobaaGreatDoorJe
import Derived.Test.YtagkogpjckjobaaGreatDoorJc
namespace Go.Proofs.YtagkogpjckjobaaGreatDoor
section
open Go.RowKit Go
theorem flw_sz {l : List Tp} (hl : ∀ t ∈ l, t.r.n.size ≤ 140737488351232) : ∀ (n : Nat) (s : ByteArray) (z : Bool), s.size ≤ 140737488351232 → (flw l n s z).1.size ≤ 140737488351232
  | 0, s, z, _ => by show (ByteArray.mk #[]).size ≤ _; decide
  | n + 1, s, z, h => by
    unfold flw
    split
    · exact h
    · exact flw_sz hl n _ _ (flw_size hl s)
theorem ownK_le {s : ByteArray} {k : Nat} (h : ownK s = some k) : k ≤ 9 := by
  unfold ownK at h
  cases hf : owns.find? fun p => decide (p.1 = s) with
  | none => rw [hf] at h; cases h
  | some p =>
    rw [hf] at h
    have hm := List.mem_of_find?_eq_some hf
    rw [← Option.some.inj h]
    simp only [owns, List.mem_cons, List.not_mem_nil, or_false] at hm
    rcases hm with rfl | rfl | rfl | rfl | rfl | rfl | rfl | rfl | rfl <;> decide
theorem knd_le (t : Tp) : knd t ≤ 9 := by
  unfold knd
  repeat' split
  all_goals try omega
  cases h : ownK t.n with
  | none => exact Nat.zero_le _
  | some k => exact ownK_le h
/-- The kinds that were met, as Go keeps them. -/
def sbc (seen : List Nat) : Array Value := #[.bool (seen.contains 0), .bool (seen.contains 1), .bool (seen.contains 2), .bool (seen.contains 3), .bool (seen.contains 4), .bool (seen.contains 5), .bool (seen.contains 6), .bool (seen.contains 7), .bool (seen.contains 8), .bool (seen.contains 9)]
theorem sbc_at (seen : List Nat) {k : Nat} (h : k ≤ 9) : (sbc seen)[k]? = some (.bool (seen.contains k)) := by
  rcases (show k = 0 ∨ k = 1 ∨ k = 2 ∨ k = 3 ∨ k = 4 ∨ k = 5 ∨ k = 6 ∨ k = 7 ∨ k = 8 ∨ k = 9 by omega) with h | h | h | h | h | h | h | h | h | h <;> subst h <;> rfl
theorem con_eq (seen : List Nat) (k : Nat) : (k :: seen).contains k = true := by simp
theorem con_ne (seen : List Nat) {k j : Nat} (h : j ≠ k) : (k :: seen).contains j = seen.contains j := by simp [h]
theorem sbc_set (seen : List Nat) {k : Nat} (h : k ≤ 9) : (sbc seen).setIfInBounds k (.bool true) = sbc (k :: seen) := by
  rcases (show k = 0 ∨ k = 1 ∨ k = 2 ∨ k = 3 ∨ k = 4 ∨ k = 5 ∨ k = 6 ∨ k = 7 ∨ k = 8 ∨ k = 9 by omega) with h | h | h | h | h | h | h | h | h | h <;> subst h <;> unfold sbc <;> rw [con_eq] <;> simp only [List.setIfInBounds_toArray, List.set_cons_zero, List.set_cons_succ] <;> (repeat rw [con_ne _ (by decide)])
/-- What kindsApart has in hand. -/
structure Kap (w : World) (bk tc : Array Value) (seen : List Nat) (wx : World) : Prop where
  a : wx.heap[w.heap.size]? = some (.cells bk 55 (0, 0))
  t : wx.heap[w.heap.size + 1]? = some (.cells tc 29 (0, 0))
  s : wx.heap[w.heap.size + 2]? = some (.cells (sbc seen) 127 (0, 0))
  b : Below w.heap.size w wx
theorem Kap.next {w wx wy : World} {bk tc : Array Value} {seen : List Nat} (h : Kap w bk tc seen wx) (hb : Below wx.heap.size wx wy) : Kap w bk tc seen wy := ⟨(hb.block _ (blk_lt h.a)).trans h.a, (hb.block _ (blk_lt h.t)).trans h.t, (hb.block _ (blk_lt h.s)).trans h.s, h.b.trans (hb.mono h.b.size)⟩
theorem Kap.set {w wx : World} {bk tc : Array Value} {seen : List Nat} (h : Kap w bk tc seen wx) {k : Nat} (hk : k ≤ 9) : Kap w bk tc (k :: seen) (wx.setCell ⟨w.heap.size + 2, k, none⟩ (.bool true)) := by
  refine ⟨blk_other k _ h.a (by omega), blk_other k _ h.t (by omega), ?_, ?_⟩
  · rw [← sbc_set seen hk]
    exact blk_set k _ h.s
  · exact h.b.trans (((Kp.refl (fun q => q = w.heap.size + 2) wx).setCell _ _ (fun _ => rfl)).below h.b.size (fun q e => by omega))
theorem Kap.bc {w wx : World} {bk tc : Array Value} {seen : List Nat} (h : Kap w bk tc seen wx) : ∀ j u, bk[j]? = some u → wx.cell? ⟨w.heap.size, 0 + j, none⟩ = some u := fun j u hu => by rw [Nat.zero_add]; exact blk_cell h.a hu
set_option maxRecDepth 1000000 in
set_option maxHeartbeats 1000000 in
theorem kindsApart_any (w : World) (hO : Otb w) (vt : Value) (B : Nat) (l : List Tp) (hB : Sbok w vt B l) (hl : ∀ t ∈ l, t.r.n.size ≤ 140737488351232) (t : Tp) (c : Array Value) (hc : Tpi w t c) : Calls Tryz.prog 51 #[.agg #[vt, .map (some B)], .agg c] w fun e w' => e = .returned (.bool (kap l [] t.cs)) ∧ Below w.heap.size w w' := by
  have HO : Hid (∀ wy, Below w.heap.size w wy → Otb wy) := fun wy hb => hO.next (keep_below hb)
  have HL := hide hl
  have HBI : Hid (∀ wx, Below w.heap.size w wx → Sbok wx vt B l) := fun wx hx => hB.next hx
  obtain ⟨⟨⟨a, cap, rfl, _, _⟩, _⟩, _⟩ := hB
  obtain ⟨⟨vf, vc, vw, rfl, ⟨⟨af, cf, rfl, -, hff⟩, hfm⟩, ⟨⟨ac, cc, rfl, -, hcf⟩, hcm⟩, ⟨⟨aw, cw, rfl, -, -⟩, hwm, -⟩⟩, hbd⟩ := hc
  have HC := hide hcf
  unfold tpc
  clear hff hfm hcf hwm hbd hO hl
  have HIB := hide infoBk
  have HAB : Hid (∀ w, (isAgg 55).run Tryz.prog w = .ok true w) := aggBk
  have HIC := hide infoCz
  have HAC : Hid (∀ w, (isAgg 82).run Tryz.prog w = .ok true w) := aggCz
  have HIT := hide infoTp
  have HAT : Hid (∀ w, (isAgg 29).run Tryz.prog w = .ok true w) := aggTp
  go_enter Tryz.func51, Tryz.ntmps51
  go_upto_region 2 with fail
  have HX : Hid (Kap w #[.slice a l.length cap, .map (some B)] #[.string t.n, .int .i64 t.k, .int .i64 t.lo, .int .i64 t.hi, .string t.r.n, .bool t.r.z, .slice af t.fs.length cf, .slice ac t.cs.length cc, .slice aw t.ws.length cw] [] (((w.alloc (.cells #[.slice a l.length cap, .map (some B)] 55)).alloc (.cells #[.string t.n, .int .i64 t.k, .int .i64 t.lo, .int .i64 t.hi, .string t.r.n, .bool t.r.z, .slice af t.fs.length cf, .slice ac t.cs.length cc, .slice aw t.ws.length cw] 29)).alloc (.cells #[.bool false, .bool false, .bool false, .bool false, .bool false, .bool false, .bool false, .bool false, .bool false, .bool false] 127))) := by
    have h := Bt.start w #[.slice a l.length cap, .map (some B)] #[.string t.n, .int .i64 t.k, .int .i64 t.lo, .int .i64 t.hi, .string t.r.n, .bool t.r.z, .slice af t.fs.length cf, .slice ac t.cs.length cc, .slice aw t.ws.length cw]
    have e2 : ((w.alloc (.cells #[.slice a l.length cap, .map (some B)] 55)).alloc (.cells #[.string t.n, .int .i64 t.k, .int .i64 t.lo, .int .i64 t.hi, .string t.r.n, .bool t.r.z, .slice af t.fs.length cf, .slice ac t.cs.length cc, .slice aw t.ws.length cw] 29)).heap.size = w.heap.size + 2 := by simp
    have h3 := heap_alloc_new ((w.alloc (.cells #[.slice a l.length cap, .map (some B)] 55)).alloc (.cells #[.string t.n, .int .i64 t.k, .int .i64 t.lo, .int .i64 t.hi, .string t.r.n, .bool t.r.z, .slice af t.fs.length cf, .slice ac t.cs.length cc, .slice aw t.ws.length cw] 29)) (.cells #[.bool false, .bool false, .bool false, .bool false, .bool false, .bool false, .bool false, .bool false, .bool false, .bool false] 127)
    rw [e2] at h3
    have hb3 := below_alloc4 ((w.alloc (.cells #[.slice a l.length cap, .map (some B)] 55)).alloc (.cells #[.string t.n, .int .i64 t.k, .int .i64 t.lo, .int .i64 t.hi, .string t.r.n, .bool t.r.z, .slice af t.fs.length cf, .slice ac t.cs.length cc, .slice aw t.ws.length cw] 29)) (.cells #[.bool false, .bool false, .bool false, .bool false, .bool false, .bool false, .bool false, .bool false, .bool false, .bool false] 127)
    have h4 := h.next hb3
    exact ⟨h4.a, h4.t, h3, h4.b⟩
  generalize ((w.alloc (.cells #[.slice a l.length cap, .map (some B)] 55)).alloc (.cells #[.string t.n, .int .i64 t.k, .int .i64 t.lo, .int .i64 t.hi, .string t.r.n, .bool t.r.z, .slice af t.fs.length cf, .slice ac t.cs.length cc, .slice aw t.ws.length cw] 29)).alloc (.cells #[.bool false, .bool false, .bool false, .bool false, .bool false, .bool false, .bool false, .bool false, .bool false, .bool false] 127) = w0 at *
  have HT7 : Hid ((#[.string t.n, .int .i64 t.k, .int .i64 t.lo, .int .i64 t.hi, .string t.r.n, .bool t.r.z, .slice af t.fs.length cf, .slice ac t.cs.length cc, .slice aw t.ws.length cw] : Array Value)[7]? = some (.slice ac t.cs.length cc)) := rfl
  obtain ⟨tc, htc⟩ : ∃ tc : Array Value, tc = #[.string t.n, .int .i64 t.k, .int .i64 t.lo, .int .i64 t.hi, .string t.r.n, .bool t.r.z, .slice af t.fs.length cf, .slice ac t.cs.length cc, .slice aw t.ws.length cw] := ⟨_, rfl⟩
  rw [← htc] at HX HT7
  clear htc
  have q7 : w0.cell? ⟨w.heap.size + 1, 7, none⟩ = some (.slice ac t.cs.length cc) := blk_cell (j := 7) HX.out.t HT7.out
  go_wp2_with fail
  clear q7
  go_loopw [15] (fun vi wx => ∃ (i : Nat) (seen : List Nat), i ≤ t.cs.length ∧ vi = .int .i64 (i : Nat) ∧ Hid (kap l seen (t.cs.drop i) = kap l [] t.cs) ∧ Hid (Kap w #[.slice a l.length cap, .map (some B)] tc seen wx)) (fun vi _ => t.cs.length - (intOf vi).toNat)
  case atStart => exact ⟨0, [], by omega, rfl, rfl, HX⟩
  case round =>
    obtain ⟨i, seen, hi, rfl, HE, HXi⟩ := hrel
    clear HX
    by_cases hlt : i < t.cs.length
    · as_aux_lemma =>
      have g1 : (i : Int) < (t.cs.length : Int) := by omega
      obtain ⟨x, hx⟩ : ∃ x, t.cs[i]? = some x := ⟨t.cs[i], List.getElem?_eq_getElem hlt⟩
      obtain ⟨b, off, rfl, hcc⟩ := HC.out.resolve_left (fun h => by rw [h] at hlt; simp at hlt)
      obtain ⟨c, ⟨rfl, _, hz2⟩, hcell⟩ := hcc i x hx
      unfold czc at hcell
      have HCL : Hid (∀ j u, (#[.string x.k, .string x.n] : Array Value)[j]? = some u → wr.cell? ⟨b, off + i * 2 + j, none⟩ = some u) := fun j u hj => keep_below HXi.out.b _ _ (hcell j u hj)
      have HZ2 := hide hz2
      have HD : Hid (t.cs.drop i = x :: t.cs.drop (i + 1)) := by
        show _ = _
        rw [List.drop_eq_getElem_cons hlt]
        rw [List.getElem?_eq_getElem hlt] at hx
        injection hx with hx
        rw [hx]
      rw [HD.out] at HE
      have HEE : Hid (kap l [] t.cs = if (flo l x.n).2 || decide (knd (fnd l (flo l x.n).1).1 = 0) || seen.contains (knd (fnd l (flo l x.n).1).1) then false else kap l (knd (fnd l (flo l x.n).1).1 :: seen) (t.cs.drop (i + 1))) := by
        show _ = _
        rw [← HE.out]
        rfl
      have HFZ : Hid ((flo l x.n).1.size ≤ 140737488351232) := flw_sz HL.out _ _ _ hz2
      have HKL : Hid (knd (fnd l (flo l x.n).1).1 ≤ 9) := knd_le _
      have HX1 := hide (HXi.out.next (below_alloc4 wr (.cells #[.string x.k, .string x.n] 82)))
      have HCB := hide HX1.out.bc
      clear hcc hcell hx hz2 HXi HC HD HE
      go_wp2_with (first
        | (refine wpList_aggAt rfl rfl HIC.out HAC.out b (off + i * 2) #[.string x.k, .string x.n] rfl rfl HCL.out ?_)
        | (refine wpList_aggAt rfl rfl HIB.out HAB.out w.heap.size 0 #[.slice a l.length cap, .map (some B)] rfl rfl HCB.out ?_))
      generalize wr.alloc (.cells #[.string x.k, .string x.n] 82) = w1 at *
      refine (follow_any w1 (HO.out w1 HX1.out.b) _ B l (HBI.out w1 HX1.out.b) HL.out x.n HZ2.out).mono ?_
      rintro e w2 ⟨rfl, hb⟩
      generalize (flo l x.n).1 = s1 at *
      generalize (flo l x.n).2 = z1 at *
      have HX2 := hide ((HX1.out.next hb).next (below_alloc4 w2 (.cells #[.string s1, .bool z1] 93)))
      have HE2 := hide (heap_alloc_new w2 (.cells #[.string s1, .bool z1] 93))
      have HCB2 := hide HX2.out.bc
      clear hb HX1 HCB HCL
      go_wp2_with (refine wpList_aggAt rfl rfl HIB.out HAB.out w.heap.size 0 #[.slice a l.length cap, .map (some B)] rfl rfl HCB2.out ?_)
      generalize w2.alloc (.cells #[.string s1, .bool z1] 93) = w3 at *
      generalize w2.heap.size = G at *
      refine (find_any w3 (HO.out w3 HX2.out.b) _ B l (HBI.out w3 HX2.out.b) s1 HFZ.out).mono ?_
      rintro e w4 ⟨c, rfl, hc, hb⟩
      generalize (fnd l s1).2 = fb at *
      generalize (fnd l s1).1 = u at *
      have HU := hide hc
      obtain ⟨⟨vf, vc, vw, rfl, ⟨⟨uf, ug, rfl, -, -⟩, -⟩, ⟨⟨uc, ud, rfl, -, -⟩, -⟩, ⟨⟨ux, uy, rfl, -, -⟩, -, -⟩⟩, -⟩ := hc
      unfold tpc at HU
      unfold tpc
      have hb5 := below_alloc4 w4 (.cells #[.string u.n, .int .i64 u.k, .int .i64 u.lo, .int .i64 u.hi, .string u.r.n, .bool u.r.z, .slice uf u.fs.length ug, .slice uc u.cs.length ud, .slice ux u.ws.length uy] 29)
      have HX5 := hide ((HX2.out.next hb).next hb5)
      have he4 := (hb.block _ (blk_lt HE2.out)).trans HE2.out
      have HE5 := hide ((hb5.block _ (blk_lt he4)).trans he4)
      have HU5 := hide (HU.out.move (keep_below hb5))
      have HUC : Hid (∀ j v, (#[.string u.n, .int .i64 u.k, .int .i64 u.lo, .int .i64 u.hi, .string u.r.n, .bool u.r.z, .slice uf u.fs.length ug, .slice uc u.cs.length ud, .slice ux u.ws.length uy] : Array Value)[j]? = some v → (w4.alloc (.cells #[.string u.n, .int .i64 u.k, .int .i64 u.lo, .int .i64 u.hi, .string u.r.n, .bool u.r.z, .slice uf u.fs.length ug, .slice uc u.cs.length ud, .slice ux u.ws.length uy] 29)).cell? ⟨w4.heap.size, 0 + j, none⟩ = some v) := fun j v hv => by rw [Nat.zero_add]; exact blk_cell (heap_alloc_new w4 _) hv
      clear hb hb5 he4 HX2 HE2 HCB2 HU HFZ
      go_wp2_with (refine wpList_aggAt rfl rfl HIT.out HAT.out w4.heap.size 0 #[.string u.n, .int .i64 u.k, .int .i64 u.lo, .int .i64 u.hi, .string u.r.n, .bool u.r.z, .slice uf u.fs.length ug, .slice uc u.cs.length ud, .slice ux u.ws.length uy] rfl rfl HUC.out ?_)
      generalize w4.alloc (.cells #[.string u.n, .int .i64 u.k, .int .i64 u.lo, .int .i64 u.hi, .string u.r.n, .bool u.r.z, .slice uf u.fs.length ug, .slice uc u.cs.length ud, .slice ux u.ws.length uy] 29) = w5 at *
      refine (kind_any w5 (HO.out w5 HX5.out.b) u _ HU5.out).mono ?_
      rintro e w6 ⟨rfl, hb⟩
      generalize knd u = K at *
      have HX6 := hide (HX5.out.next hb)
      have he6 := (hb.block _ (blk_lt HE5.out)).trans HE5.out
      have c1 : w6.cell? ⟨G, 1, none⟩ = some (.bool z1) := blk_cell (j := 1) he6 rfl
      have cS : w6.cell? ⟨w.heap.size + 2, K, none⟩ = some (.bool (seen.contains K)) := blk_cell HX6.out.s (sbc_at seen HKL.out)
      have gK : (K : Int) < 10 := by have := HKL.out; omega
      clear hb HX5 HE5 HU5 HUC he6
      cases z1 with
      | true =>
        have HR : Hid (kap l [] t.cs = false) := by show _ = _; rw [HEE.out]; rfl
        clear HEE
        go_wp2_with fail
        go_ret
        exact ⟨by rw [HR.out]; rfl, HX6.out.b⟩
      | false =>
        by_cases hK0 : K = 0
        · have g0 : ((K : Int) == 0) = true := beq_iff_eq.2 (by omega)
          have HR : Hid (kap l [] t.cs = false) := by show _ = _; rw [HEE.out, decide_eq_true hK0]; rfl
          clear HEE hK0
          go_wp2_with fail
          go_ret
          exact ⟨by rw [HR.out]; rfl, HX6.out.b⟩
        · have g0 : ((K : Int) == 0) = false := beq_eq_false_iff_ne.2 (by omega)
          rcases Bool.eq_false_or_eq_true (seen.contains K) with hcn | hcn
          · have HR : Hid (kap l [] t.cs = false) := by show _ = _; rw [HEE.out, hcn, Bool.or_true]; rfl
            rw [hcn] at cS
            clear HEE hK0 hcn
            go_wp2_with fail
            go_ret
            exact ⟨by rw [HR.out]; rfl, HX6.out.b⟩
          · have HE2 : Hid (kap l (K :: seen) (t.cs.drop (i + 1)) = kap l [] t.cs) := by show _ = _; rw [HEE.out, hcn, decide_eq_false hK0]; rfl
            rw [hcn] at cS
            have HX7 := hide (HX6.out.set HKL.out)
            have fS : w6.frozen? ⟨w.heap.size + 2, K, none⟩ = false := blk_frozen K HX6.out.s
            clear HEE hK0 hcn
            go_wp2_with fail
            go_roundw
            case rel => exact ⟨i + 1, K :: seen, by omega, by go_num, HE2, HX7⟩
            case measure => simp [intOf]; omega
    · as_aux_lemma =>
      have g1 : ¬ (i : Int) < (t.cs.length : Int) := by omega
      have HR : Hid (kap l [] t.cs = true) := by
        show _ = _
        rw [← HE.out, List.drop_of_length_le (by omega)]
        rfl
      clear HE
      go_wp2_with fail
      go_ret
      exact ⟨by rw [HR.out]; rfl, HXi.out.b⟩
set_option maxRecDepth 1000000 in
set_option maxHeartbeats 1000000 in
theorem together_any (w : World) (hO : Otb w) (vt : Value) (B : Nat) (l : List Tp) (hB : Sbok w vt B l) (hl : ∀ t ∈ l, t.r.n.size ≤ 140737488351232) (i : Nat) (t : Tp) (ht : l[i]? = some t) (hf1 : t.fs.length ≤ 1000) (hc1 : t.cs.length ≤ 1000) : Calls Tryz.prog 29 #[.agg #[vt, .map (some B)], .int .i64 (i : Nat)] w fun e w' => e = .returned (.int .i64 (tgt l t : Nat)) ∧ Below w.heap.size w w' := by
  have HO : Hid (∀ wy, Below w.heap.size w wy → Otb wy) := fun wy hb => hO.next (keep_below hb)
  have HB := hide hB
  have HL := hide hl
  have hmax := hB.t.max
  have hil : i < l.length := (List.getElem?_eq_some_iff.1 ht).1
  obtain ⟨⟨⟨a, cap, rfl, _, hform⟩, _⟩, _⟩ := hB
  have g1 : (i : Int) < (l.length : Int) := by omega
  obtain ⟨b, off, rfl, hcc⟩ := hform.resolve_left (fun h => by rw [h] at hil; simp at hil)
  obtain ⟨c, hc, hcell⟩ := hcc i t ht
  have HC := hide hc
  have HRZ := hide (rfs_size hc)
  obtain ⟨⟨vf, vc, vw, rfl, ⟨⟨af, cf, rfl, -, hff⟩, hfm⟩, ⟨⟨ac, cc, rfl, -, hcf⟩, hcm⟩, ⟨⟨aw, cw, rfl, -, -⟩, hwm, -⟩⟩, hbd⟩ := hc
  unfold tpc at hcell HC
  have HCL : Hid (∀ wx, Below w.heap.size w wx → ∀ j u, (#[.string t.n, .int .i64 t.k, .int .i64 t.lo, .int .i64 t.hi, .string t.r.n, .bool t.r.z, .slice af t.fs.length cf, .slice ac t.cs.length cc, .slice aw t.ws.length cw] : Array Value)[j]? = some u → wx.cell? ⟨b, off + i * 9 + j, none⟩ = some u) := fun wx hx j u hj => keep_below hx _ _ (hcell j u hj)
  have HCI : Hid (∀ wx, Below w.heap.size w wx → Tpi wx t #[.string t.n, .int .i64 t.k, .int .i64 t.lo, .int .i64 t.hi, .string t.r.n, .bool t.r.z, .slice af t.fs.length cf, .slice ac t.cs.length cc, .slice aw t.ws.length cw]) := fun wx hx => HC.out.move (keep_below hx)
  have HBI : Hid (∀ wx, Below w.heap.size w wx → Sbok wx (.slice (some ⟨b, off, none⟩) l.length cap) B l) := fun wx hx => HB.out.next hx
  have HF1 : Hid (t.fs.length ≤ 1000 ∧ t.cs.length ≤ 1000) := ⟨hf1, hc1⟩
  have HIT := hide infoTp
  have HAT : Hid (∀ w, (isAgg 29).run Tryz.prog w = .ok true w) := aggTp
  have HIB := hide infoBk
  have HAB : Hid (∀ w, (isAgg 55).run Tryz.prog w = .ok true w) := aggBk
  have HX := hide (Bt.start w #[.slice (some ⟨b, off, none⟩) l.length cap, .map (some B)] #[.string t.n, .int .i64 t.k, .int .i64 t.lo, .int .i64 t.hi, .string t.r.n, .bool t.r.z, .slice af t.fs.length cf, .slice ac t.cs.length cc, .slice aw t.ws.length cw])
  have hb0 := below_alloc4 w (.cells #[.slice (some ⟨b, off, none⟩) l.length cap, .map (some B)] 55)
  have HC0 := hide (HCL.out _ hb0)
  have q0 : (w.alloc (.cells #[.slice (some ⟨b, off, none⟩) l.length cap, .map (some B)] 55)).cell? ⟨w.heap.size, 0, none⟩ = some (.slice (some ⟨b, off, none⟩) l.length cap) := blk_cell (j := 0) (heap_alloc_new w _) rfl
  clear hform hcc hcell hff hfm hcf hcm hwm hbd hO hb0 ht hil HC HB hf1 hc1 hl
  go_enter Tryz.func29, Tryz.ntmps29
  go_upto_region 2 with (refine wpList_aggAt rfl rfl HIT.out HAT.out b (off + i * 9) #[.string t.n, .int .i64 t.k, .int .i64 t.lo, .int .i64 t.hi, .string t.r.n, .bool t.r.z, .slice af t.fs.length cf, .slice ac t.cs.length cc, .slice aw t.ws.length cw] rfl rfl HC0.out ?_)
  (try simp only [Act.put]); (try simp only [List.setIfInBounds_toArray, List.set_cons_zero, List.set_cons_succ])
  generalize (w.alloc (.cells #[.slice (some ⟨b, off, none⟩) l.length cap, .map (some B)] 55)).alloc (.cells #[.string t.n, .int .i64 t.k, .int .i64 t.lo, .int .i64 t.hi, .string t.r.n, .bool t.r.z, .slice af t.fs.length cf, .slice ac t.cs.length cc, .slice aw t.ws.length cw] 29) = w4 at *
  clear q0 HC0 HCL
  refine heldStart (S := Bt w #[.slice (some ⟨b, off, none⟩) l.length cap, .map (some B)] #[.string t.n, .int .i64 t.k, .int .i64 t.lo, .int .i64 t.hi, .string t.r.n, .bool t.r.z, .slice af t.fs.length cf, .slice ac t.cs.length cc, .slice aw t.ws.length cw]) (by kernel_rfl) ?_
  have hb : Below w4.heap.size w4 w4.drew := by
    refine Below.drew ?_
    exact Below.refl _ _
  replace HX := hide (HX.out.next hb)
  have hS := HX.out
  clear hb
  generalize w4.drew = w5 at *
  refine heldTake 0 _ rfl (by kernel_rfl) (by kernel_rfl) (by kernel_rfl) (fun _ _ _ h => h) rfl hS (fun wy hy => exec_aggAt (g := w.heap.size + 1) (off := 0) HIT.out HAT.out rfl rfl rfl hy.tc) ?_
  (try simp only [Act.put]); (try simp only [List.setIfInBounds_toArray, List.set_cons_zero, List.set_cons_succ])
  refine heldTake 2 _ rfl (by kernel_rfl) (by kernel_rfl) (by kernel_rfl) (fun _ _ _ h => h) rfl hS (fun wy hy => exec_aggAt (g := w.heap.size) (off := 0) HIB.out HAB.out rfl rfl rfl hy.bc) ?_
  (try simp only [Act.put]); (try simp only [List.setIfInBounds_toArray, List.set_cons_zero, List.set_cons_succ])
  refine heldTake 3 _ rfl (by kernel_rfl) (by kernel_rfl) (by kernel_rfl) (fun _ _ _ h => h) rfl hS (fun wy hy => by first | (go_simp; done) | (go_simp; rfl) | rfl) ?_
  (try simp only [Act.put]); (try simp only [List.setIfInBounds_toArray, List.set_cons_zero, List.set_cons_succ])
  refine heldStep 1 rfl (by kernel_rfl) (fun K hK => ?_)
  go_simp
  refine (references_any w5 t _ (HCI.out w5 HX.out.b) HF1.out.1 HF1.out.2).mono ?_
  rintro e w6 ⟨v, rfl, hP⟩
  have HRS := hide hP.out.1
  replace HX := hide (HX.out.next hP.out.2)
  refine (Hid.out hK) _ _ (HX.out) (fun hS2 => ?_)
  clear hK K hS
  have hS := hS2
  clear hS2
  (try simp only [Act.put]); (try simp only [List.setIfInBounds_toArray, List.set_cons_zero, List.set_cons_succ])
  clear hP
  refine heldStep 4 rfl (by kernel_rfl) (fun K hK => ?_)
  go_simp
  refine (containsNull_any w6 v (rfs t) HRS.out (.slice (some ⟨b, off, none⟩) l.length cap) B (fun j => ((rfs t).getD j zrf).z && (flo l ((rfs t).getD j zrf).n).2) (fun _ wx => Below w6.heap.size w6 wx) (Below.refl _ _) (fun j wx hI => RSl.mv HRS.out (keep_below hI)) (fun j x wx hx hI => by
    have hbw : Below w.heap.size w wx := HX.out.b.trans (hI.mono HX.out.b.size)
    refine (nullTwice_any wx (HO.out wx hbw) _ B l (HBI.out wx hbw) HL.out x (HRZ.out x (List.mem_of_getElem? hx))).mono ?_
    rintro e w' ⟨rfl, hb⟩
    exact ⟨by simp only [List.getD, hx]; rfl, hI.trans (hb.mono hI.size)⟩)).mono ?_
  rintro e w7 ⟨rfl, hI⟩
  have HX7 : Hid (Bt w #[.slice (some ⟨b, off, none⟩) l.length cap, .map (some B)] #[.string t.n, .int .i64 t.k, .int .i64 t.lo, .int .i64 t.hi, .string t.r.n, .bool t.r.z, .slice af t.fs.length cf, .slice ac t.cs.length cc, .slice aw t.ws.length cw] w7) := by
    obtain ⟨_, hI⟩ := hI.out
    exact HX.out.next hI
  replace HX := HX7
  have HAR : Hid ((rfs t).any (fun r => r.z && (flo l r.n).2) = (List.range (rfs t).length).any fun j => ((rfs t).getD j zrf).z && (flo l ((rfs t).getD j zrf).n).2) := any_map_range (rfs t) zrf (fun r => r.z && (flo l r.n).2)
  generalize (List.range (rfs t).length).any (fun j => ((rfs t).getD j zrf).z && (flo l ((rfs t).getD j zrf).n).2) = ab at *
  refine (Hid.out hK) _ _ (HX.out) (fun hS2 => ?_)
  clear hK K hS
  have hS := hS2
  clear hS2
  (try simp only [Act.put]); (try simp only [List.setIfInBounds_toArray, List.set_cons_zero, List.set_cons_succ])
  clear hI HX7 HRS
  refine heldTake 5 _ rfl (by kernel_rfl) (by kernel_rfl) (by kernel_rfl) (fun _ _ _ h => h) rfl hS (fun wy hy => by first | (go_simp; done) | (go_simp; rfl) | rfl) ?_
  (try simp only [Act.put]); (try simp only [List.setIfInBounds_toArray, List.set_cons_zero, List.set_cons_succ])
  refine heldDone (by kernel_rfl) ?_
  clear hS
  rcases Bool.eq_false_or_eq_true ab with hab | hab
  · as_aux_lemma =>
    rw [hab]
    rw [hab] at HAR
    have HR : Hid (tgt l t = 118) := by show _ = _; unfold tgt; rw [if_pos HAR.out]
    go_wp2_with fail
    go_ret
    exact ⟨by rw [HR.out]; rfl, HX.out.b⟩
  rw [hab]
  rw [hab] at HAR
  have c1 : w7.cell? ⟨w.heap.size + 1, 1, none⟩ = some (.int .i64 t.k) := blk_cell (j := 1) HX.out.t rfl
  by_cases h8 : t.k = 8
  · have g8 : (t.k == 8) = true := beq_iff_eq.2 h8
    have H8 := hide h8
    clear h8
    have HTC := hide HX.out.tc
    have HCB := hide HX.out.bc
    go_wp2_with (first
      | (refine wpList_aggAt rfl rfl HIT.out HAT.out (w.heap.size + 1) 0 #[.string t.n, .int .i64 t.k, .int .i64 t.lo, .int .i64 t.hi, .string t.r.n, .bool t.r.z, .slice af t.fs.length cf, .slice ac t.cs.length cc, .slice aw t.ws.length cw] rfl rfl HTC.out ?_)
      | (refine wpList_aggAt rfl rfl HIB.out HAB.out w.heap.size 0 #[.slice (some ⟨b, off, none⟩) l.length cap, .map (some B)] rfl rfl HCB.out ?_))
    refine (kindsApart_any w7 (HO.out w7 HX.out.b) _ B l (HBI.out w7 HX.out.b) HL.out t _ (HCI.out w7 HX.out.b)).mono ?_
    rintro e w8 ⟨rfl, hb⟩
    replace HX := hide (HX.out.next hb)
    clear hb HTC HCB c1
    rcases Bool.eq_false_or_eq_true (kap l [] t.cs) with hk | hk
    · as_aux_lemma =>
      have HR : Hid (tgt l t = 0) := by show _ = _; unfold tgt; rw [HAR.out, if_neg (by decide), if_neg (fun h => by rw [hk] at h; exact absurd h.2 (by decide))]
      rw [hk]
      go_wp2_with fail
      go_ret
      exact ⟨by rw [HR.out]; rfl, HX.out.b⟩
    · as_aux_lemma =>
      have HR : Hid (tgt l t = 116) := by show _ = _; unfold tgt; rw [HAR.out, if_neg (by decide), if_pos ⟨H8.out, hk⟩]
      rw [hk]
      go_wp2_with fail
      go_ret
      exact ⟨by rw [HR.out]; rfl, HX.out.b⟩
  · as_aux_lemma =>
    have g8 : (t.k == 8) = false := beq_eq_false_iff_ne.2 h8
    have HR : Hid (tgt l t = 0) := by show _ = _; unfold tgt; rw [HAR.out, if_neg (by decide), if_neg (fun h => h8 h.1)]
    go_wp2_with fail
    go_ret
    exact ⟨by rw [HR.out]; rfl, HX.out.b⟩
end
section
open Go.RowKit Go
theorem lk1_none {f : Nat → Tp → Nat} : ∀ (r : List Tp) (o : Nat), (∀ j t, r[j]? = some t → f (o + j) t = 0) → lk1 f o r = none
  | [], _, _ => rfl
  | t :: r, o, h => by
    unfold lk1
    rw [if_neg (fun e => e (h 0 t rfl))]
    exact lk1_none r (o + 1) (fun j u hu => by have := h (j + 1) u (by simpa using hu); rw [Nat.add_assoc, Nat.add_comm 1 j]; exact this)
theorem lk1_hit {f : Nat → Tp → Nat} : ∀ (r : List Tp) (o i : Nat) (t : Tp), r[i]? = some t → f (o + i) t ≠ 0 → (∀ j u, j < i → r[j]? = some u → f (o + j) u = 0) → lk1 f o r = some (f (o + i) t, o + i)
  | [], _, _, _, h, _, _ => by cases h
  | u :: r, o, 0, t, h, h0, _ => by
    have e : u = t := by simpa using h
    subst e
    rw [Nat.add_zero] at h0 ⊢
    unfold lk1
    rw [if_pos h0]
  | u :: r, o, i + 1, t, h, h0, hz => by
    unfold lk1
    rw [if_neg (fun e => e (hz 0 u (by omega) rfl))]
    have := lk1_hit r (o + 1) i t (by simpa using h) (by rw [Nat.add_assoc, Nat.add_comm 1 i]; exact h0) (fun j x hj hx => by have := hz (j + 1) x (by omega) (by simpa using hx); rw [Nat.add_assoc, Nat.add_comm 1 j]; exact this)
    rw [Nat.add_assoc, Nat.add_comm 1 i] at this
    exact this
/-- The looks, one behind the other. -/
def lks (l : List Tp) : Nat → Nat → Tp → Nat
  | 0, i, t => aln l i t
  | 1, _, t => rng l t
  | _, _, t => tgt l t
theorem chk_many {l : List Tp} (h : 64 < l.length) : chk11 l = (110, 0) := by
  unfold chk11
  rw [if_pos h]
theorem chk_hit {l : List Tp} (h64 : ¬ 64 < l.length) {k i : Nat} (hk : k ≤ 2) {t : Tp} (ht : l[i]? = some t) (h0 : lks l k i t ≠ 0) (hb : ∀ k' j u, k' < k → l[j]? = some u → lks l k' j u = 0) (hz : ∀ j u, j < i → l[j]? = some u → lks l k j u = 0) : chk11 l = (lks l k i t, i) := by
  unfold chk11
  rw [if_neg h64]
  have e : ∀ f : Nat → Tp → Nat, (∀ j u, l[j]? = some u → f j u = 0) → lk1 f 0 l = none := fun f hf => lk1_none l 0 (fun j u hu => by rw [Nat.zero_add]; exact hf j u hu)
  have g : ∀ f : Nat → Tp → Nat, f i t ≠ 0 → (∀ j u, j < i → l[j]? = some u → f j u = 0) → lk1 f 0 l = some (f i t, i) := fun f hf hn => by
    have := lk1_hit l 0 i t ht (by rw [Nat.zero_add]; exact hf) (fun j u hj hu => by rw [Nat.zero_add]; exact hn j u hj hu)
    rw [Nat.zero_add] at this
    exact this
  rcases (show k = 0 ∨ k = 1 ∨ k = 2 by omega) with rfl | rfl | rfl
  · rw [g (aln l) h0 hz]
    rfl
  · rw [e (aln l) (fun j u hu => hb 0 j u (by omega) hu)]
    simp only
    rw [g (fun _ t => rng l t) h0 hz]
    rfl
  · rw [e (aln l) (fun j u hu => hb 0 j u (by omega) hu)]
    simp only
    rw [e (fun _ t => rng l t) (fun j u hu => hb 1 j u (by omega) hu)]
    simp only
    rw [g (fun _ t => tgt l t) h0 hz]
    rfl
theorem chk_ok {l : List Tp} (h64 : ¬ 64 < l.length) (hb : ∀ k' j u, k' < 3 → l[j]? = some u → lks l k' j u = 0) : chk11 l = (0, 0) := by
  unfold chk11
  rw [if_neg h64]
  have e : ∀ f : Nat → Tp → Nat, (∀ j u, l[j]? = some u → f j u = 0) → lk1 f 0 l = none := fun f hf => lk1_none l 0 (fun j u hu => by rw [Nat.zero_add]; exact hf j u hu)
  rw [e (aln l) (fun j u hu => hb 0 j u (by omega) hu)]
  simp only
  rw [e (fun _ t => rng l t) (fun j u hu => hb 1 j u (by omega) hu)]
  simp only
  rw [e (fun _ t => tgt l t) (fun j u hu => hb 2 j u (by omega) hu)]
theorem tsl_r {w : World} {v : Value} {l : List Tp} (h : TSl w v l) : ∀ t ∈ l, t.r.n.size ≤ 140737488351232 := fun t ht => by
  obtain ⟨i, hi, e⟩ := List.getElem_of_mem ht
  rcases h.form with ⟨_, _, _, _, h | ⟨b, off, _, h⟩⟩
  · rw [h] at ht; cases ht
  · obtain ⟨_, h3, _⟩ := h i t (by rw [List.getElem?_eq_getElem hi, e])
    exact h3.b.r
/-- A list that is short enough to be walked. -/
def Shrt (l : List Tp) : Prop := ∀ t ∈ l, t.fs.length ≤ 1000 ∧ t.cs.length ≤ 1000 ∧ t.ws.length ≤ 1000
/-- A list that is short enough to be looked at. -/
def Wid (l : List Tp) : Prop := ∀ t ∈ l, tdy t = true → t.fs.length + t.cs.length + 1 ≤ 5864062014805
theorem shrt_wid {l : List Tp} (h : Shrt l) : Wid l := fun t ht _ => by
  obtain ⟨h1, h2, _⟩ := h t ht
  omega
theorem aln_short {l : List Tp} {i : Nat} {t : Tp} (h : aln l i t = 0) : t.fs.length ≤ 1000 ∧ t.cs.length ≤ 1000 ∧ t.ws.length ≤ 1000 := by
  unfold aln at h
  split at h
  · cases h
  split at h
  · cases h
  split at h
  · cases h
  split at h
  · cases h
  split at h
  · cases h
  split at h
  · cases h
  rename_i _ h2 _ _ h5 h6
  have hd : tdy t = true := by simpa using h2
  have hf : fft t = true := by simpa using h5
  have hc : cft t = true := by simpa using h6
  unfold fft at hf
  rw [Bool.and_eq_true, decide_eq_true_eq] at hf
  unfold tdy at hd
  simp only [Bool.and_eq_true, Bool.or_eq_true, decide_eq_true_eq, List.isEmpty_iff] at hd
  obtain ⟨⟨⟨_, _⟩, hcs⟩, hws⟩ := hd
  have h1 := hf.1
  refine ⟨by omega, ?_, ?_⟩
  · rcases hcs with (e | e) | e
    · unfold cft at hc
      rw [if_pos e, Bool.and_eq_true] at hc
      have := some64_le hc.1
      omega
    · unfold cft at hc
      rw [if_neg (by omega), if_pos e, Bool.and_eq_true] at hc
      have := some64_le hc.1
      omega
    · rw [e]; decide
  · rcases hws with e | e
    · unfold cft at hc
      rw [if_neg (by omega), if_neg (by omega), if_pos e, Bool.and_eq_true] at hc
      have := some64_le hc.1
      omega
    · rw [e]; decide
theorem lk1_zero {f : Nat → Tp → Nat} : ∀ (l : List Tp) (o : Nat), (∀ r, lk1 f o l = some r → r.1 = 0) → ∀ (i : Nat) (t : Tp), l[i]? = some t → f (o + i) t = 0
  | [], _, _, i, t, h => by simp at h
  | u :: l, o, hn, i, t, h => by
    unfold lk1 at hn
    split at hn
    · rename_i h0
      exact absurd (hn _ rfl) h0
    · rename_i h0
      rcases i with _ | i
      · have e : u = t := by simpa using h
        subst e
        exact Decidable.not_not.1 h0
      · have := lk1_zero l (o + 1) hn i t (by simpa using h)
        rw [Nat.add_assoc, Nat.add_comm 1 i] at this
        exact this
theorem chk_shrt {l : List Tp} (h : (chk11 l).1 = 0) : Shrt l := fun t ht => by
  obtain ⟨i, hi, e⟩ := List.getElem_of_mem ht
  unfold chk11 at h
  split at h
  · exact absurd h (by decide)
  · refine aln_short (l := l) (i := i) ?_
    have := lk1_zero (f := aln l) l 0 (fun r hr => by rw [hr] at h; exact h) i t (by rw [List.getElem?_eq_getElem hi, e])
    rw [Nat.zero_add] at this
    exact this
/-- What Check has in hand. -/
structure Chw (w : World) (vt : Value) (B : Nat) (l : List Tp) (g : Nat) (wx : World) : Prop where
  r : wx.heap[g]? = some (.cells #[.func (.func 27) #[.agg #[vt, .map (some B)]] #[], .func (.func 28) #[.agg #[vt, .map (some B)]] #[], .func (.func 29) #[.agg #[vt, .map (some B)]] #[]] 83 (0, 0))
  b : Below w.heap.size w wx
  o : Sbok wx vt B l
theorem Chw.next {w wx wy : World} {vt : Value} {B g : Nat} {l : List Tp} (h : Chw w vt B l g wx) (hb : Below wx.heap.size wx wy) : Chw w vt B l g wy := ⟨(hb.block _ (blk_lt h.r)).trans h.r, h.b.trans (hb.mono h.b.size), h.o.next hb⟩
set_option maxRecDepth 1000000 in
set_option maxHeartbeats 1000000 in
theorem check11_wid (w : World) (hT : Tabs w) (hO : Otb w) (v : Value) (l : List Tp) (hv : TSl w v l) (hS : Wid l) : Calls Tryz.prog 16 #[v] w fun e w' => e = .returned (.tuple #[.int .i64 ((chk11 l).1 : Nat), .int .i64 ((chk11 l).2 : Nat)]) ∧ Below w.heap.size w w' := by
  have HT : Hid (∀ wy, Below w.heap.size w wy → Tabs wy) := fun wy hb => hT.next hb
  have HO : Hid (∀ wy, Below w.heap.size w wy → Otb wy) := fun wy hb => hO.next (keep_below hb)
  have HV := hide hv
  have HSH := hide hS
  have hmax := hv.max
  obtain ⟨⟨a, cap, rfl, _, _⟩, _⟩ := hv
  clear hT hO hS
  go_enter Tryz.func16, Tryz.ntmps16
  by_cases h64 : 64 < l.length
  · as_aux_lemma =>
    have g64 : (64 : Int) < (l.length : Int) := by omega
    have HR := hide (chk_many h64)
    clear h64
    go_wp2_with fail
    go_ret2
    exact ⟨by rw [HR.out]; rfl, Below.refl _ _⟩
  have g64 : ¬ (64 : Int) < (l.length : Int) := by omega
  have H64 := hide h64
  clear h64
  go_wp2_with fail
  refine (opened_any w _ l HV.out).mono ?_
  rintro e w1 ⟨B, rfl, hP⟩
  have HM := hide hP.out.2.1
  have HB1 := hide hP.out.2.2
  clear hP
  have HCB : Hid (∀ j u, (#[.slice a l.length cap, .map (some B)] : Array Value)[j]? = some u → (w1.alloc (.cells #[.slice a l.length cap, .map (some B)] 55)).cell? ⟨w1.heap.size, 0 + j, none⟩ = some u) := fun j u hu => by rw [Nat.zero_add]; exact blk_cell (heap_alloc_new w1 _) hu
  have HIB := hide infoBk
  have HAB : Hid (∀ w, (isAgg 55).run Tryz.prog w = .ok true w) := aggBk
  go_upto_region 5 with (first
    | (refine wpList_aggAt rfl rfl HIB.out HAB.out w1.heap.size 0 #[.slice a l.length cap, .map (some B)] rfl rfl HCB.out ?_))
  have hb2 := below_alloc4 w1 (.cells #[.slice a l.length cap, .map (some B)] 55)
  have hb3 := below_alloc4 (w1.alloc (.cells #[.slice a l.length cap, .map (some B)] 55)) (.cells #[.func (.func 27) #[.agg #[.slice a l.length cap, .map (some B)]] #[], .func (.func 28) #[.agg #[.slice a l.length cap, .map (some B)]] #[], .func (.func 29) #[.agg #[.slice a l.length cap, .map (some B)]] #[]] 83)
  have e1 : (w1.alloc (.cells #[.slice a l.length cap, .map (some B)] 55)).heap.size = w1.heap.size + 1 := by simp
  have HX : Hid (Chw w (.slice a l.length cap) B l (w1.heap.size + 1) ((w1.alloc (.cells #[.slice a l.length cap, .map (some B)] 55)).alloc (.cells #[.func (.func 27) #[.agg #[.slice a l.length cap, .map (some B)]] #[], .func (.func 28) #[.agg #[.slice a l.length cap, .map (some B)]] #[], .func (.func 29) #[.agg #[.slice a l.length cap, .map (some B)]] #[]] 83))) := by
    have h := heap_alloc_new (w1.alloc (.cells #[.slice a l.length cap, .map (some B)] 55)) (.cells #[.func (.func 27) #[.agg #[.slice a l.length cap, .map (some B)]] #[], .func (.func 28) #[.agg #[.slice a l.length cap, .map (some B)]] #[], .func (.func 29) #[.agg #[.slice a l.length cap, .map (some B)]] #[]] 83)
    rw [e1] at h
    exact ⟨h, (HB1.out.trans (hb2.mono HB1.out.size)).trans (hb3.mono (Nat.le_trans HB1.out.size hb2.size)), ((Sbok.mk (HV.out.mv (keep_below HB1.out)) HM.out).next hb2).next hb3⟩
  clear hb2 hb3 e1 HCB HM HB1 HV
  generalize (w1.alloc (.cells #[.slice a l.length cap, .map (some B)] 55)).alloc (.cells #[.func (.func 27) #[.agg #[.slice a l.length cap, .map (some B)]] #[], .func (.func 28) #[.agg #[.slice a l.length cap, .map (some B)]] #[], .func (.func 29) #[.agg #[.slice a l.length cap, .map (some B)]] #[]] 83) = w2 at *
  generalize w1.heap.size + 1 = G at *
  go_loopw [22] (fun vk wx => ∃ k : Nat, k ≤ 3 ∧ vk = .int .i64 (k : Nat) ∧ Hid (∀ k' j u, k' < k → l[j]? = some u → lks l k' j u = 0) ∧ Hid (Chw w (.slice a l.length cap) B l G wx)) (fun vk _ => 3 - (intOf vk).toNat)
  case atStart => exact ⟨0, by omega, rfl, fun k' _ _ hk => absurd hk (by omega), HX⟩
  case round =>
    obtain ⟨k, hk, rfl, HP, HX2⟩ := hrel
    clear HX
    by_cases hk3 : k < 3
    · rcases (show k = 0 ∨ k = 1 ∨ k = 2 by omega) with rfl | rfl | rfl
      · as_aux_lemma =>
        have cK : wr.cell? ⟨G, 0, none⟩ = some (.func (.func 27) #[.agg #[.slice a l.length cap, .map (some B)]] #[]) := blk_cell (j := 0) HX2.out.r rfl
        go_wp2_with fail
        clear cK
        go_loopw [28] (fun vj wz => ∃ j : Nat, j ≤ l.length ∧ vj = .int .i64 (j : Nat) ∧ Hid (∀ j' u, j' < j → l[j']? = some u → lks l 0 j' u = 0) ∧ Hid (Chw w (.slice a l.length cap) B l G wz)) (fun vj _ => l.length - (intOf vj).toNat)
        case atStart => exact ⟨0, by omega, rfl, fun j' _ hj => absurd hj (by omega), HX2⟩
        case round =>
          rename World => wz
          obtain ⟨j, hj, rfl, HZ, HX3⟩ := hrel
          clear HX2
          by_cases hjl : j < l.length
          · as_aux_lemma =>
            have g2 : (j : Int) < (l.length : Int) := by omega
            obtain ⟨t, ht⟩ : ∃ t, l[j]? = some t := ⟨l[j], List.getElem?_eq_getElem hjl⟩
            have HTJ := hide ht
            have HS := hide (HSH.out t (List.mem_of_getElem? ht))
            have HCA := hide (alone_wid wz (HT.out wz HX3.out.b) (HO.out wz HX3.out.b) _ B l HX3.out.o j t ht HS.out)
            clear ht
            go_wp2_with fail
            refine HCA.out.mono ?_
            rintro e w4 ⟨rfl, hb⟩
            have HX4 := hide (HX3.out.next hb)
            clear hb HCA HX3
            by_cases h0 : aln l j t = 0
            · have HZ2 : Hid (∀ j' u, j' < j + 1 → l[j']? = some u → lks l 0 j' u = 0) := fun j' u hj' hu => by
                by_cases e : j' = j
                · subst e
                  rw [HTJ.out] at hu
                  rw [← Option.some.inj hu]
                  exact h0
                · exact HZ.out j' u (by omega) hu
              rw [h0]
              clear h0 HZ
              go_wp2_with fail
              go_roundw
              case rel => exact ⟨_, _, _, _, _, _, _, _, _, _, _, _, _, _, _, ⟨j + 1, by omega, by go_num, HZ2, HX4⟩, rfl⟩
              case measure => simp [intOf]; omega
            · have HR : Hid (chk11 l = (aln l j t, j)) := chk_hit H64.out (k := 0) (by decide) HTJ.out h0 (fun k' j u hk => HP.out k' j u hk) HZ.out
              obtain ⟨E, hE⟩ : ∃ E, E = aln l j t := ⟨_, rfl⟩
              rw [← hE] at h0 HR
              rw [← hE]
              have gE : ((E : Int) != 0) = true := by
                rw [bne_iff_ne]
                omega
              clear h0 hE HZ HTJ HS
              go_wp2_with fail
              go_ret2
              exact ⟨by rw [HR.out]; rfl, HX4.out.b⟩
          · as_aux_lemma =>
            have g2 : ¬ (j : Int) < (l.length : Int) := by omega
            have HP2 : Hid (∀ k' j u, k' < 0 + 1 → l[j]? = some u → lks l k' j u = 0) := fun k' j' u hk hu => by
              by_cases e : k' = 0
              · subst e
                exact HZ.out j' u (by have := (List.getElem?_eq_some_iff.1 hu).1; omega) hu
              · exact HP.out k' j' u (by omega) hu
            go_wp2_with fail
            go_roundw
            case rel => exact ⟨0 + 1, by omega, rfl, HP2, HX3⟩
            case measure => simp [intOf]
      · as_aux_lemma =>
        have cK : wr.cell? ⟨G, 1, none⟩ = some (.func (.func 28) #[.agg #[.slice a l.length cap, .map (some B)]] #[]) := blk_cell (j := 1) HX2.out.r rfl
        go_wp2_with fail
        clear cK
        go_loopw [28] (fun vj wz => ∃ j : Nat, j ≤ l.length ∧ vj = .int .i64 (j : Nat) ∧ Hid (∀ j' u, j' < j → l[j']? = some u → lks l 1 j' u = 0) ∧ Hid (Chw w (.slice a l.length cap) B l G wz)) (fun vj _ => l.length - (intOf vj).toNat)
        case atStart => exact ⟨0, by omega, rfl, fun j' _ hj => absurd hj (by omega), HX2⟩
        case round =>
          rename World => wz
          obtain ⟨j, hj, rfl, HZ, HX3⟩ := hrel
          clear HX2
          by_cases hjl : j < l.length
          · as_aux_lemma =>
            have g2 : (j : Int) < (l.length : Int) := by omega
            obtain ⟨t, ht⟩ : ∃ t, l[j]? = some t := ⟨l[j], List.getElem?_eq_getElem hjl⟩
            have HTJ := hide ht
            have HS := hide (HSH.out t (List.mem_of_getElem? ht))
            have HCA := hide (ring_any wz (HO.out wz HX3.out.b) _ B l HX3.out.o (tsl_r HX3.out.o.t) j t ht)
            clear ht
            go_wp2_with fail
            refine HCA.out.mono ?_
            rintro e w4 ⟨rfl, hb⟩
            have HX4 := hide (HX3.out.next hb)
            clear hb HCA HX3
            by_cases h0 : rng l t = 0
            · have HZ2 : Hid (∀ j' u, j' < j + 1 → l[j']? = some u → lks l 1 j' u = 0) := fun j' u hj' hu => by
                by_cases e : j' = j
                · subst e
                  rw [HTJ.out] at hu
                  rw [← Option.some.inj hu]
                  exact h0
                · exact HZ.out j' u (by omega) hu
              rw [h0]
              clear h0 HZ
              go_wp2_with fail
              go_roundw
              case rel => exact ⟨_, _, _, _, _, _, _, _, _, _, _, _, _, _, _, ⟨j + 1, by omega, by go_num, HZ2, HX4⟩, rfl⟩
              case measure => simp [intOf]; omega
            · have HR : Hid (chk11 l = (rng l t, j)) := chk_hit H64.out (k := 1) (by decide) HTJ.out h0 (fun k' j u hk => HP.out k' j u hk) HZ.out
              obtain ⟨E, hE⟩ : ∃ E, E = rng l t := ⟨_, rfl⟩
              rw [← hE] at h0 HR
              rw [← hE]
              have gE : ((E : Int) != 0) = true := by
                rw [bne_iff_ne]
                omega
              clear h0 hE HZ HTJ HS
              go_wp2_with fail
              go_ret2
              exact ⟨by rw [HR.out]; rfl, HX4.out.b⟩
          · as_aux_lemma =>
            have g2 : ¬ (j : Int) < (l.length : Int) := by omega
            have HP2 : Hid (∀ k' j u, k' < 1 + 1 → l[j]? = some u → lks l k' j u = 0) := fun k' j' u hk hu => by
              by_cases e : k' = 1
              · subst e
                exact HZ.out j' u (by have := (List.getElem?_eq_some_iff.1 hu).1; omega) hu
              · exact HP.out k' j' u (by omega) hu
            go_wp2_with fail
            go_roundw
            case rel => exact ⟨1 + 1, by omega, rfl, HP2, HX3⟩
            case measure => simp [intOf]
      · as_aux_lemma =>
        have cK : wr.cell? ⟨G, 2, none⟩ = some (.func (.func 29) #[.agg #[.slice a l.length cap, .map (some B)]] #[]) := blk_cell (j := 2) HX2.out.r rfl
        go_wp2_with fail
        clear cK
        go_loopw [28] (fun vj wz => ∃ j : Nat, j ≤ l.length ∧ vj = .int .i64 (j : Nat) ∧ Hid (∀ j' u, j' < j → l[j']? = some u → lks l 2 j' u = 0) ∧ Hid (Chw w (.slice a l.length cap) B l G wz)) (fun vj _ => l.length - (intOf vj).toNat)
        case atStart => exact ⟨0, by omega, rfl, fun j' _ hj => absurd hj (by omega), HX2⟩
        case round =>
          rename World => wz
          obtain ⟨j, hj, rfl, HZ, HX3⟩ := hrel
          clear HX2
          by_cases hjl : j < l.length
          · as_aux_lemma =>
            have g2 : (j : Int) < (l.length : Int) := by omega
            obtain ⟨t, ht⟩ : ∃ t, l[j]? = some t := ⟨l[j], List.getElem?_eq_getElem hjl⟩
            have HTJ := hide ht
            have HS := hide (aln_short (HP.out 0 j t (by omega) ht))
            have HCA := hide (together_any wz (HO.out wz HX3.out.b) _ B l HX3.out.o (tsl_r HX3.out.o.t) j t ht HS.out.1 HS.out.2.1)
            clear ht
            go_wp2_with fail
            refine HCA.out.mono ?_
            rintro e w4 ⟨rfl, hb⟩
            have HX4 := hide (HX3.out.next hb)
            clear hb HCA HX3
            by_cases h0 : tgt l t = 0
            · have HZ2 : Hid (∀ j' u, j' < j + 1 → l[j']? = some u → lks l 2 j' u = 0) := fun j' u hj' hu => by
                by_cases e : j' = j
                · subst e
                  rw [HTJ.out] at hu
                  rw [← Option.some.inj hu]
                  exact h0
                · exact HZ.out j' u (by omega) hu
              rw [h0]
              clear h0 HZ
              go_wp2_with fail
              go_roundw
              case rel => exact ⟨_, _, _, _, _, _, _, _, _, _, _, _, _, _, _, ⟨j + 1, by omega, by go_num, HZ2, HX4⟩, rfl⟩
              case measure => simp [intOf]; omega
            · have HR : Hid (chk11 l = (tgt l t, j)) := chk_hit H64.out (k := 2) (by decide) HTJ.out h0 (fun k' j u hk => HP.out k' j u hk) HZ.out
              obtain ⟨E, hE⟩ : ∃ E, E = tgt l t := ⟨_, rfl⟩
              rw [← hE] at h0 HR
              rw [← hE]
              have gE : ((E : Int) != 0) = true := by
                rw [bne_iff_ne]
                omega
              clear h0 hE HZ HTJ HS
              go_wp2_with fail
              go_ret2
              exact ⟨by rw [HR.out]; rfl, HX4.out.b⟩
          · as_aux_lemma =>
            have g2 : ¬ (j : Int) < (l.length : Int) := by omega
            have HP2 : Hid (∀ k' j u, k' < 2 + 1 → l[j]? = some u → lks l k' j u = 0) := fun k' j' u hk hu => by
              by_cases e : k' = 2
              · subst e
                exact HZ.out j' u (by have := (List.getElem?_eq_some_iff.1 hu).1; omega) hu
              · exact HP.out k' j' u (by omega) hu
            go_wp2_with fail
            go_roundw
            case rel => exact ⟨2 + 1, by omega, rfl, HP2, HX3⟩
            case measure => simp [intOf]
    · as_aux_lemma =>
      have g2 : ¬ (k : Int) < 3 := by omega
      have HR := hide (chk_ok H64.out (fun k' j u hk => HP.out k' j u (by omega)))
      go_wp2_with fail
      go_ret2
      exact ⟨by rw [HR.out]; rfl, HX2.out.b⟩
theorem check11_any (w : World) (hT : Tabs w) (hO : Otb w) (v : Value) (l : List Tp) (hv : TSl w v l) (hS : Shrt l) : Calls Tryz.prog 16 #[v] w fun e w' => e = .returned (.tuple #[.int .i64 ((chk11 l).1 : Nat), .int .i64 ((chk11 l).2 : Nat)]) ∧ Below w.heap.size w w' := check11_wid w hT hO v l hv (shrt_wid hS)
end
section
open Go.RowKit Go
/-- A type that hangs on no block of a set. -/
def Tpk (wx : World) (S : Nat → Prop) (t : Tp) (c : Array Value) : Prop := ∀ wy, Kp S wx wy → Tpi wy t c
theorem Tpk.kp {wx wy : World} {S : Nat → Prop} {t : Tp} {c : Array Value} (h : Tpk wx S t c) (hk : Kp S wx wy) : Tpk wy S t c := fun wz hz => h wz (hk.trans hz (fun _ _ e => e))
theorem Tpk.next {wx wy : World} {S : Nat → Prop} {t : Tp} {c : Array Value} (h : Tpk wx S t c) (hb : Below wx.heap.size wx wy) : Tpk wy S t c := h.kp (Kp.mono (Kp.of_below (S := fun _ => False) hb) (fun _ _ e => e.elim))
theorem Tpk.tpi {wx : World} {S : Nat → Prop} {t : Tp} {c : Array Value} (h : Tpk wx S t c) : Tpi wx t c := h wx (Kp.refl _ _)
/-- What Open has in hand: the row of the copies. -/
structure Opw (w : World) (v : Value) (L : List (Array Value)) (ts : List Tp) (wx : World) : Prop where
  o : wx.ownsRow w.heap.size 29 9 v L.length (gfl L)
  n : L.length = ts.length
  z : ∀ c ∈ L, c.size = 9
  k : ∀ (i : Nat) (t : Tp) (c : Array Value), ts[i]? = some t → L[i]? = some c → Tpk wx (fun q => q < w.heap.size ∨ v.ownBlock = some q) t c
  b : Below w.heap.size w wx
theorem Opw.start (w : World) : Opw w (.slice none 0 0) [] [] w := ⟨World.ownsRow_nil _ _ _ _, rfl, fun _ h => by simp at h, fun i _ _ h => by simp at h, Below.refl _ _⟩
theorem Opw.next {w wx wy : World} {v : Value} {L : List (Array Value)} {ts : List Tp} (h : Opw w v L ts wx) (hb : Below wx.heap.size wx wy) : Opw w v L ts wy :=
  ⟨(Kp.of_below (S := fun _ => False) hb).owns h.o (fun _ _ e => e), h.n, h.z, fun i t c h1 h2 => (h.k i t c h1 h2).next hb, h.b.trans (hb.mono h.b.size)⟩
theorem Opw.app {w wx wy : World} {v v' : Value} {L : List (Array Value)} {ts : List Tp} {t : Tp} {c : Array Value} (h : Opw w v L ts wx) (hg : wx.grownBy wy v.ownBlock) (ho : wy.ownsRow w.heap.size 29 9 v' (L.length + 1) (gfl (L ++ [c]))) (hl : v'.ownBlock = v.ownBlock ∨ v'.ownBlock = some wx.heap.size) (hc : c.size = 9) (hk : Tpk wx (fun q => q < w.heap.size ∨ v.ownBlock = some q) t c) : Opw w v' (L ++ [c]) (ts ++ [t]) wy := by
  have hkp := kp_grown hg
  have hone : ∀ (t : Tp) (c : Array Value), Tpk wx (fun q => q < w.heap.size ∨ v.ownBlock = some q) t c → Tpk wy (fun q => q < w.heap.size ∨ v'.ownBlock = some q) t c := fun t c h2 wz hz => by
    refine h2 wz (Kp.trans (hkp.mono (fun q _ e => .inr e)) hz (fun q hq e => ?_))
    rcases e with e | e
    · exact .inl e
    · rcases hl with h3 | h3
      · rw [h3] at e
        exact .inr e
      · rw [h3] at e
        have := Option.some.inj e
        omega
  refine ⟨by rw [List.length_append]; exact ho, by rw [List.length_append, List.length_append, h.n]; rfl, fun d hd => ?_, fun i u d h1 h2 => ?_, ?_⟩
  · rcases List.mem_append.1 hd with hd | hd
    · exact h.z d hd
    · rw [List.mem_singleton.1 hd]; exact hc
  · by_cases hi : i < ts.length
    · rw [List.getElem?_append_left hi] at h1
      rw [List.getElem?_append_left (by rw [h.n]; exact hi)] at h2
      exact hone u d (h.k i u d h1 h2)
    · have e : i = ts.length := by
        have := (List.getElem?_eq_some_iff.1 h1).1
        rw [List.length_append, List.length_singleton] at this
        omega
      subst e
      rw [List.getElem?_append_right (Nat.le_refl _), Nat.sub_self] at h1
      rw [← h.n, List.getElem?_append_right (Nat.le_refl _), Nat.sub_self] at h2
      have e1 : t = u := by simpa using h1
      have e2 : c = d := by simpa using h2
      subst e1
      subst e2
      exact hone t c hk
  · refine h.b.trans (hkp.below h.b.size (fun q e => ?_))
    exact (h.o.lt q e).1
theorem Opw.tsl {w wx : World} {v : Value} {L : List (Array Value)} {ts : List Tp} (h : Opw w v L ts wx) (hm : ts.length ≤ 140737488351232) : TSl wx v ts := own_gsl h.o h.z h.n hm (fun i t c h1 h2 => (h.k i t c h1 h2).tpi)
/-- A table in memory. -/
structure Tbl (w : World) (g : Nat) (l : List Tp) (d : Int) (m : Value) : Prop where
  e : ∃ vt B, w.heap[g]? = some (.cells #[vt, .map (some B), .int .u32 d, .int .i32 0, .int .u32 0, m] 71 (0, 0)) ∧ Sbok w vt B l ∧ ∀ wy, Kp (fun q => q = g) w wy → TSl wy vt l
/-- A table that hangs on no older block. -/
structure Tbm (w : World) (N g : Nat) (l : List Tp) (d : Int) (m : Value) : Prop where
  e : ∃ vt B, w.heap[g]? = some (.cells #[vt, .map (some B), .int .u32 d, .int .i32 0, .int .u32 0, m] 71 (0, 0)) ∧ ∀ wy, Kp (fun q => q < N ∨ q = g) w wy → Sbok wy vt B l
theorem Tbm.tbl {w : World} {N g : Nat} {l : List Tp} {d : Int} {m : Value} (h : Tbm w N g l d m) : Tbl w g l d m := by
  obtain ⟨vt, B, h1, h2⟩ := h.e
  exact ⟨⟨vt, B, h1, h2 w (Kp.refl _ _), fun wy hk => (h2 wy (hk.mono (fun _ _ e => .inr e))).t⟩⟩
theorem Tbm.next {w w' : World} {N g : Nat} {l : List Tp} {d : Int} {m : Value} (h : Tbm w N g l d m) (hb : Below w.heap.size w w') : Tbm w' N g l d m := by
  obtain ⟨vt, B, h1, h2⟩ := h.e
  exact ⟨⟨vt, B, (hb.block _ (blk_lt h1)).trans h1, fun wy hk => h2 wy ((Kp.mono (Kp.of_below (S := fun _ => False) hb) (fun _ _ e => e.elim)).trans hk (fun _ _ e => e))⟩⟩
/-- Something older is written over. -/
theorem Tbm.kp {w w' : World} {N g : Nat} {l : List Tp} {d : Int} {m : Value} {S : Nat → Prop} (h : Tbm w N g l d m) (hk : Kp S w w') (hs : ∀ q, S q → q < N) (hg : N ≤ g) : Tbm w' N g l d m := by
  obtain ⟨vt, B, h1, h2⟩ := h.e
  exact ⟨⟨vt, B, (hk.block _ (blk_lt h1) (fun e => by have := hs g e; omega)).trans h1, fun wy hk2 => h2 wy ((hk.mono (fun q _ e => .inl (hs q e))).trans hk2 (fun _ _ e => e))⟩⟩
set_option maxRecDepth 1000000 in
set_option maxHeartbeats 1000000 in
theorem open_wid (w : World) (hT : Tabs w) (hO : Otb w) (v : Value) (l : List Tp) (hv : TSl w v l) (hS : Wid l) : Calls Tryz.prog 6 #[v] w fun e w' => (∃ vp, e = .returned (.tuple #[vp, .int .i64 ((chk11 l).1 : Nat)]) ∧ ((chk11 l).1 ≠ 0 → vp = .pointer none) ∧ ((chk11 l).1 = 0 → ∃ g, vp = .pointer (some ⟨g, 0, none⟩) ∧ w.heap.size ≤ g ∧ Tbm w' w.heap.size g l 0 (.map none))) ∧ Below w.heap.size w w' := by
  have HV := hide hv
  have hmax := hv.max
  have HCK := hide (check11_wid w hT hO v l hv hS)
  obtain ⟨⟨a, cap, rfl, _, hform⟩, _⟩ := hv
  have HF := hide hform
  clear hform hT hO hS
  go_enter Tryz.func6, Tryz.ntmps6
  go_wp2_with fail
  refine HCK.out.mono ?_
  rintro e w1 ⟨rfl, hb1⟩
  have HB1 := hide hb1
  clear hb1 HCK
  obtain ⟨E, hE⟩ : ∃ E, E = (chk11 l).1 := ⟨_, rfl⟩
  rw [← hE]
  have HE := hide hE
  clear hE
  by_cases h0 : E = 0
  rotate_left
  · as_aux_lemma =>
    have g0 : ((E : Int) != 0) = true := by rw [bne_iff_ne]; omega
    have HE0 := hide h0
    clear h0
    go_wp2_with fail
    go_ret2
    refine ⟨⟨_, by rw [← HE.out]; rfl, fun _ => rfl, fun h => absurd (HE.out.trans h) HE0.out⟩, HB1.out⟩
  · have HE0 := hide h0
    have HSH : Hid (Shrt l) := chk_shrt (HE.out.symm.trans h0)
    have g0 : ((E : Int) != 0) = false := by rw [h0]; rfl
    have H64 : Hid (l.length ≤ 64) := by
      show _ ≤ _
      by_cases h : 64 < l.length
      · have h2 := HE.out
        rw [chk_many h] at h2
        omega
      · omega
    clear h0
    have HX := hide (Opw.start w1)
    go_wp2_with fail
    go_loopw [6, 19] (fun vo vi wx => ∃ (i : Nat) (a0 : Option Addr) (n0 c0 : Nat) (L : List (Array Value)), i ≤ l.length ∧ vo = .slice a0 n0 c0 ∧ vi = .int .i64 (i : Nat) ∧ Hid (Opw w1 (.slice a0 n0 c0) L (l.take i) wx)) (fun _ vi _ => l.length - (intOf vi).toNat)
    case atStart => exact ⟨0, none, 0, 0, [], by omega, rfl, rfl, HX⟩
    case round =>
      obtain ⟨i, a0, n0, c0, L, hi, rfl, rfl, HXi⟩ := hrel
      clear HX
      by_cases hlt : i < l.length
      · as_aux_lemma =>
        have g1 : (i : Int) < (l.length : Int) := by omega
        obtain ⟨t, ht⟩ : ∃ t, l[i]? = some t := ⟨l[i], List.getElem?_eq_getElem hlt⟩
        obtain ⟨b, off, rfl, hcc⟩ := HF.out.resolve_left (fun h => by rw [h] at hlt; simp at hlt)
        obtain ⟨c, hc, hcell⟩ := hcc i t ht
        have HC := hide hc
        obtain ⟨⟨vf, vc, vw, rfl, ⟨⟨af, cf, rfl, -, hff⟩, hfm⟩, ⟨⟨ac, cc, rfl, -, hcf⟩, hcm⟩, ⟨⟨aw, cw, rfl, -, -⟩, hwm, -⟩⟩, hbd⟩ := hc
        unfold tpc at hcell HC
        have hbw : Below w.heap.size w wr := HB1.out.trans (HXi.out.b.mono HB1.out.size)
        have HCL : Hid (∀ j u, (#[.string t.n, .int .i64 t.k, .int .i64 t.lo, .int .i64 t.hi, .string t.r.n, .bool t.r.z, .slice af t.fs.length cf, .slice ac t.cs.length cc, .slice aw t.ws.length cw] : Array Value)[j]? = some u → wr.cell? ⟨b, off + i * 9 + j, none⟩ = some u) := fun j u hj => keep_below hbw _ _ (hcell j u hj)
        have hb2 := below_alloc4 wr (.cells #[.string t.n, .int .i64 t.k, .int .i64 t.lo, .int .i64 t.hi, .string t.r.n, .bool t.r.z, .slice af t.fs.length cf, .slice ac t.cs.length cc, .slice aw t.ws.length cw] 29)
        have HC2 : Hid (Tpi (wr.alloc (.cells #[.string t.n, .int .i64 t.k, .int .i64 t.lo, .int .i64 t.hi, .string t.r.n, .bool t.r.z, .slice af t.fs.length cf, .slice ac t.cs.length cc, .slice aw t.ws.length cw] 29)) t #[.string t.n, .int .i64 t.k, .int .i64 t.lo, .int .i64 t.hi, .string t.r.n, .bool t.r.z, .slice af t.fs.length cf, .slice ac t.cs.length cc, .slice aw t.ws.length cw]) := HC.out.move (keep_below (hbw.trans (hb2.mono hbw.size)))
        have HX2 := hide (HXi.out.next hb2)
        have HTC : Hid (∀ j u, (#[.string t.n, .int .i64 t.k, .int .i64 t.lo, .int .i64 t.hi, .string t.r.n, .bool t.r.z, .slice af t.fs.length cf, .slice ac t.cs.length cc, .slice aw t.ws.length cw] : Array Value)[j]? = some u → (wr.alloc (.cells #[.string t.n, .int .i64 t.k, .int .i64 t.lo, .int .i64 t.hi, .string t.r.n, .bool t.r.z, .slice af t.fs.length cf, .slice ac t.cs.length cc, .slice aw t.ws.length cw] 29)).cell? ⟨wr.heap.size, 0 + j, none⟩ = some u) := fun j u hu => by rw [Nat.zero_add]; exact blk_cell (heap_alloc_new wr _) hu
        have HS := hide (HSH.out t (List.mem_of_getElem? ht))
        have HTK := hide (takeP l i t ht)
        have HLL : Hid (L.length ≤ 1000000) := by
          have h1 := HXi.out.n
          rw [List.length_take] at h1
          have h2 := H64.out
          show _ ≤ _
          omega
        have HIT := hide infoTp
        have HAT : Hid (∀ w, (isAgg 29).run Tryz.prog w = .ok true w) := aggTp
        clear hcc hcell hff hfm hcf hcm hwm hbd ht HXi HF HC hb2 hbw
        go_wp2_with (first
          | (refine wpList_aggAt rfl rfl HIT.out HAT.out b (off + i * 9) #[.string t.n, .int .i64 t.k, .int .i64 t.lo, .int .i64 t.hi, .string t.r.n, .bool t.r.z, .slice af t.fs.length cf, .slice ac t.cs.length cc, .slice aw t.ws.length cw] rfl rfl HCL.out ?_)
          | (refine wpList_aggAt rfl rfl HIT.out HAT.out wr.heap.size 0 #[.string t.n, .int .i64 t.k, .int .i64 t.lo, .int .i64 t.hi, .string t.r.n, .bool t.r.z, .slice af t.fs.length cf, .slice ac t.cs.length cc, .slice aw t.ws.length cw] rfl rfl HTC.out ?_))
        generalize wr.alloc (.cells #[.string t.n, .int .i64 t.k, .int .i64 t.lo, .int .i64 t.hi, .string t.r.n, .bool t.r.z, .slice af t.fs.length cf, .slice ac t.cs.length cc, .slice aw t.ws.length cw] 29) = w2 at *
        refine (fresh_any w2 t _ HC2.out HS.out.1 HS.out.2.1 HS.out.2.2).mono ?_
        rintro e w3 ⟨c', rfl, hP⟩
        have hb3 := hP.out.2.1
        have hb4 := below_alloc4 w3 (.cells c' 29)
        have HX4 := hide ((HX2.out.next hb3).next hb4)
        have HK4 : Hid (Tpk (w3.alloc (.cells c' 29)) (fun q => q < w1.heap.size ∨ (Value.slice a0 n0 c0).ownBlock = some q) t c') := fun wy hk => hP.out.2.2 _ wy (fun q e => by
          rcases e with e | e
          · exact Nat.lt_of_lt_of_le e HX2.out.b.size
          · exact (HX2.out.o.lt q e).2) ((Kp.mono (Kp.of_below (S := fun _ => False) hb4) (fun _ _ e => e.elim)).trans hk (fun _ _ e => e))
        have HZ9 := hide hP.out.1.size9
        have H1C : Hid (∀ u ∈ c'.toList, u.oneCell' = true) := fun u hu => by
          have h := hP.out.1.all1
          rw [Array.all_eq_true_iff_forall_mem] at h
          exact h u (by simpa using hu)
        have HAL : Hid (w1.heap.size ≤ (w3.alloc (.cells c' 29)).heap.size) := HX4.out.b.size
        have HAP : Hid (∀ (ops : Array Oper) (rest : List Oper) (o : Oper) (ac : Act) (Q : Exit → Act → World → Prop) (s y : Operand), o.guard = none → o.op = .call { callee := .builtin .append, args := #[s, y], argTypes := #[22, 22] } → ac.eval s = .slice a0 n0 c0 → ac.eval y = .slice (some ⟨w3.heap.size, 0, none⟩) 1 1 → (∀ v' w', Opw w1 v' (L ++ [c']) (l.take (i + 1)) w' → wpList Tryz.prog ops Q rest (ac.put o.dst v') w') → wpList Tryz.prog ops Q (o :: rest) ac (w3.alloc (.cells c' 29))) := fun ops rest o ac Q s y h1 h2 h3 h4 h5 =>
          append_g infoTp3 Tryz.underlying22 rfl (by decide) (by decide) h1 h2 h3 HX4.out.o h4 (heap_alloc_new w3 _) HZ9.out H1C.out HLL.out HAL.out (fun v' w' h6 h7 h8 => h5 v' w' (by rw [HTK.out]; exact HX4.out.app h7 h6 h8 HZ9.out HK4.out))
        clear hP hb3 hb4 HCL HTC HC2
        go_wp2_with (first
          | (refine row1 infoTp3 Tryz.underlying22 (by decide) (by decide) rfl rfl rfl (c := c') rfl HZ9.out ?_)
          | (refine HAP.out _ _ _ _ _ _ _ rfl rfl rfl rfl ?_; intro v' w' hr'))
        obtain ⟨a2, c2, hv0, _⟩ := own_formG hr'.o
        subst hv0
        have HR' := hide hr'
        clear hr'
        go_wp2_with fail
        go_roundw
        case rel => exact ⟨i + 1, _, _, _, _, by omega, rfl, by go_num, HR'⟩
        case measure => simp [intOf]; omega
      · as_aux_lemma =>
        have g1 : ¬ (i : Int) < (l.length : Int) := by omega
        have HX2 : Hid (Opw w1 (.slice a0 n0 c0) L l wr) := by have h := HXi.out; rw [List.take_of_length_le (by omega)] at h; exact h
        clear HXi HF
        go_wp2_with fail
        refine (opened_any wr _ l (HX2.out.tsl (by omega))).mono ?_
        rintro e w4 ⟨B, rfl, hP⟩
        have HM := hide hP.out.2.1
        have HB4 := hide hP.out.2.2
        have HBN := hide hP.out.1
        clear hP
        have HBW : Hid (Below w.heap.size w w4) := (HB1.out.trans (HX2.out.b.mono HB1.out.size)).trans (HB4.out.mono (Nat.le_trans HB1.out.size HX2.out.b.size))
        have HOK : Hid (∀ wy, Kp (fun q => q < w.heap.size ∨ q = w4.heap.size) w4 wy → Sbok wy (.slice a0 n0 c0) B l) := fun wy hk => by
          have hk2 : Kp (fun q => q < w.heap.size ∨ q = w4.heap.size) wr wy := (Kp.mono (Kp.of_below (S := fun _ => False) HB4.out) (fun _ _ e => e.elim)).trans hk (fun _ _ e => e)
          have hz1 := HB1.out.size
          have hz2 := HB4.out.size
          have hz3 := HX2.out.b.size
          have hbn := HBN.out
          obtain ⟨n, hm⟩ := HM.out
          have hml := hm.lt
          refine ⟨own_gsl (hk2.owns HX2.out.o (fun q e hs => ?_)) HX2.out.z HX2.out.n (by omega) (fun i t c h1 h2 => HX2.out.k i t c h1 h2 wy (hk2.mono (fun q hq e => ?_))), ⟨n, hm.kp hk (fun e => ?_)⟩⟩
          · have h1 := HX2.out.o.lt q e
            have hs' : q < w.heap.size ∨ q = w4.heap.size := hs
            omega
          · have e' : q < w.heap.size ∨ q = w4.heap.size := e
            exact .inl (by omega)
          · have e' : B < w.heap.size ∨ B = w4.heap.size := e
            omega
        clear HM HB4 HX2 HBN
        go_wp2_with fail
        go_ret2
        have hb5 := below_alloc4 w4 (.cells #[.slice a0 n0 c0, .map (some B), .int .u32 0, .int .i32 0, .int .u32 0, .map none] 71)
        refine ⟨⟨_, by rw [← HE.out, HE0.out]; rfl, fun h => absurd (HE.out.symm.trans HE0.out) h, fun _ => ⟨w4.heap.size, rfl, HBW.out.size, ⟨⟨_, _, heap_alloc_new w4 _, fun wy hk => HOK.out wy ((Kp.mono (Kp.of_below (S := fun _ => False) hb5) (fun _ _ e => e.elim)).trans hk (fun _ _ e => e))⟩⟩⟩⟩, HBW.out.trans (hb5.mono HBW.out.size)⟩
theorem open_any (w : World) (hT : Tabs w) (hO : Otb w) (v : Value) (l : List Tp) (hv : TSl w v l) (hS : Shrt l) : Calls Tryz.prog 6 #[v] w fun e w' => (∃ vp, e = .returned (.tuple #[vp, .int .i64 ((chk11 l).1 : Nat)]) ∧ ((chk11 l).1 ≠ 0 → vp = .pointer none) ∧ ((chk11 l).1 = 0 → ∃ g, vp = .pointer (some ⟨g, 0, none⟩) ∧ w.heap.size ≤ g ∧ Tbm w' w.heap.size g l 0 (.map none))) ∧ Below w.heap.size w w' := open_wid w hT hO v l hv (shrt_wid hS)
end
section
open Go.RowKit Go
theorem shrt_fnd {l : List Tp} (h : Shrt l) (s : ByteArray) : (fnd l s).1.fs.length ≤ 1000 ∧ (fnd l s).1.cs.length ≤ 1000 ∧ (fnd l s).1.ws.length ≤ 1000 := by
  unfold fnd
  cases hp : plc l s with
  | some i =>
    obtain ⟨t, ht, _⟩ := plc_lt hp
    simp only [List.getD, ht]
    exact h t (List.mem_of_getElem? ht)
  | none =>
    simp only
    split
    · exact ⟨Nat.zero_le _, Nat.zero_le _, Nat.zero_le _⟩
    · exact ⟨Nat.zero_le _, Nat.zero_le _, Nat.zero_le _⟩
set_option maxRecDepth 1000000 in
set_option maxHeartbeats 1000000 in
theorem tfind_any (w : World) (hO : Otb w) (g : Nat) (l : List Tp) (d : Int) (m : Value) (hTb : Tbl w g l d m) (hS : Shrt l) (s : ByteArray) (hs : s.size ≤ 140737488351232) : Calls Tryz.prog 17 #[.pointer (some ⟨g, 0, none⟩), .string s] w fun e w' => ∃ c, e = .returned (.tuple #[.agg c, .bool (fnd l s).2]) ∧ Hid (Tpi w' (fnd l s).1 c ∧ Below w.heap.size w w') := by
  have HO := hide hO
  have HS := hide hs
  have HSF := hide (shrt_fnd hS s)
  obtain ⟨vt, B, hg, hB, _⟩ := hTb.e
  have HB := hide hB
  obtain ⟨⟨⟨a, cap, rfl, _, _⟩, _⟩, _⟩ := hB
  have hb0 := below_alloc4 w (.cells #[.string ⟨#[]⟩, .int .i64 0, .int .i64 0, .int .i64 0, .string ⟨#[]⟩, .bool false, .slice none 0 0, .slice none 0 0, .slice none 0 0] 29)
  have HB0 := hide hb0
  have hg1 := (hb0.block _ (blk_lt hg)).trans hg
  have HCB : Hid (∀ j u, (#[.slice a l.length cap, .map (some B)] : Array Value)[j]? = some u → (w.alloc (.cells #[.string ⟨#[]⟩, .int .i64 0, .int .i64 0, .int .i64 0, .string ⟨#[]⟩, .bool false, .slice none 0 0, .slice none 0 0, .slice none 0 0] 29)).cell? ⟨g, 0 + j, none⟩ = some u) := sub_cell (o := 0) hg1 (fun j u hj => by
    rcases j with _ | _ | j
    · exact hj
    · exact hj
    · simp at hj)
  have HR0 := hide (heap_alloc_new w (.cells #[.string ⟨#[]⟩, .int .i64 0, .int .i64 0, .int .i64 0, .string ⟨#[]⟩, .bool false, .slice none 0 0, .slice none 0 0, .slice none 0 0] 29))
  have HIB := hide infoBk
  have HAB : Hid (∀ w, (isAgg 55).run Tryz.prog w = .ok true w) := aggBk
  have HIT := hide infoTp
  have HAT : Hid (∀ w, (isAgg 29).run Tryz.prog w = .ok true w) := aggTp
  clear hO hs hTb hS hb0 hg hg1
  go_enter Tryz.func17, Tryz.ntmps17
  go_wp2_with (refine wpList_aggAt rfl rfl HIB.out HAB.out g 0 #[.slice a l.length cap, .map (some B)] rfl rfl HCB.out ?_)
  generalize w.alloc (.cells #[.string ⟨#[]⟩, .int .i64 0, .int .i64 0, .int .i64 0, .string ⟨#[]⟩, .bool false, .slice none 0 0, .slice none 0 0, .slice none 0 0] 29) = w1 at *
  refine (find_any w1 (HO.out.next (keep_below HB0.out)) _ B l (HB.out.next HB0.out) s HS.out).mono ?_
  rintro e w2 ⟨c, rfl, hc, hb⟩
  obtain ⟨t, ht⟩ : ∃ t, t = (fnd l s).1 := ⟨_, rfl⟩
  have HTE := hide ht
  rw [← ht] at hc HSF
  clear ht
  have HC := hide hc
  obtain ⟨⟨vf, vc, vw, rfl, ⟨⟨af, cf, rfl, -, -⟩, -⟩, ⟨⟨ac, cc, rfl, -, -⟩, -⟩, ⟨⟨aw, cw, rfl, -, -⟩, -, -⟩⟩, -⟩ := hc
  unfold tpc at HC
  unfold tpc
  have hb3 := below_alloc4 w2 (.cells #[.string t.n, .int .i64 t.k, .int .i64 t.lo, .int .i64 t.hi, .string t.r.n, .bool t.r.z, .slice af t.fs.length cf, .slice ac t.cs.length cc, .slice aw t.ws.length cw] 29)
  have hr2 := (hb.block _ (blk_lt HR0.out)).trans HR0.out
  have HR3 := hide ((hb3.block _ (blk_lt hr2)).trans hr2)
  have HB3 : Hid (Below w.heap.size w (w2.alloc (.cells #[.string t.n, .int .i64 t.k, .int .i64 t.lo, .int .i64 t.hi, .string t.r.n, .bool t.r.z, .slice af t.fs.length cf, .slice ac t.cs.length cc, .slice aw t.ws.length cw] 29))) := (HB0.out.trans (hb.mono HB0.out.size)).trans (hb3.mono (Nat.le_trans HB0.out.size hb.size))
  have HC3 := hide (HC.out.move (keep_below hb3))
  have HTC : Hid (∀ j u, (#[.string t.n, .int .i64 t.k, .int .i64 t.lo, .int .i64 t.hi, .string t.r.n, .bool t.r.z, .slice af t.fs.length cf, .slice ac t.cs.length cc, .slice aw t.ws.length cw] : Array Value)[j]? = some u → (w2.alloc (.cells #[.string t.n, .int .i64 t.k, .int .i64 t.lo, .int .i64 t.hi, .string t.r.n, .bool t.r.z, .slice af t.fs.length cf, .slice ac t.cs.length cc, .slice aw t.ws.length cw] 29)).cell? ⟨w2.heap.size, 0 + j, none⟩ = some u) := fun j u hu => by rw [Nat.zero_add]; exact blk_cell (heap_alloc_new w2 _) hu
  clear hb hb3 hr2 HC HCB HR0
  go_wp2_with (refine wpList_aggAt rfl rfl HIT.out HAT.out w2.heap.size 0 #[.string t.n, .int .i64 t.k, .int .i64 t.lo, .int .i64 t.hi, .string t.r.n, .bool t.r.z, .slice af t.fs.length cf, .slice ac t.cs.length cc, .slice aw t.ws.length cw] rfl rfl HTC.out ?_)
  generalize w2.alloc (.cells #[.string t.n, .int .i64 t.k, .int .i64 t.lo, .int .i64 t.hi, .string t.r.n, .bool t.r.z, .slice af t.fs.length cf, .slice ac t.cs.length cc, .slice aw t.ws.length cw] 29) = w3 at *
  refine (fresh_any w3 t _ HC3.out HSF.out.1 HSF.out.2.1 HSF.out.2.2).mono ?_
  rintro e w4 ⟨c', rfl, hP⟩
  have hb4 := hP.out.2.1
  have HR4 := hide ((hb4.block _ (blk_lt HR3.out)).trans HR3.out)
  have HB4 : Hid (Below w.heap.size w w4) := HB3.out.trans (hb4.mono HB3.out.size)
  have HK4 : Hid (∀ wy, Kp (fun q => q = w.heap.size) w4 wy → Tpi wy t c') := fun wy hk => hP.out.2.2 _ wy (fun q e => by rw [e]; exact blk_lt HR3.out) hk
  have HZ9 := hide hP.out.1.size9
  have HA1 := hide hP.out.1.all1
  have HI2 : Hid ((Tryz.prog.info? 29).map (·.size) = some c'.size) := by show _ = _; rw [HZ9.out]; exact infoTp
  have HZ2 : Hid ((#[.string ⟨#[]⟩, .int .i64 0, .int .i64 0, .int .i64 0, .string ⟨#[]⟩, .bool false, .slice none 0 0, .slice none 0 0, .slice none 0 0] : Array Value).size = c'.size) := by show _ = _; rw [HZ9.out]; rfl
  clear hP hb4 HR3 HB3 HC3 HTC
  go_wp2_with (refine wpList_storeRow rfl rfl w.heap.size #[.string ⟨#[]⟩, .int .i64 0, .int .i64 0, .int .i64 0, .string ⟨#[]⟩, .bool false, .slice none 0 0, .slice none 0 0, .slice none 0 0] c' 29 rfl rfl HR4.out HI2.out HZ2.out HA1.out ?_)
  have hkr := row_kp w4 w.heap.size c'
  exact bodyPost_ret (end_ct rfl (row_same HR4.out) rfl rfl Tryz.underlying29 HI2.out) rfl ⟨_, rfl, HTE.out ▸ HK4.out _ hkr, HB4.out.trans (hkr.below HB4.out.size (fun q e => by omega))⟩
end
end Go.Proofs.YtagkogpjckjobaaGreatDoor
