import Derived.Test.YtidglddjinfncaaDoorJl
namespace Go.Proofs.YtidglddjinfncaaDoor
section
open Go.RowKit Go
theorem sl_extract (s : ByteArray) (i j : Nat) : sl (s.extract i j) = ((sl s).take j).drop i := by
  unfold sl
  rw [ByteArray.data_extract, Array.toList_extract, List.extract_eq_take_drop, List.map_take, List.map_drop, ← List.drop_take]
theorem sl_tail (s : ByteArray) : sl (s.extract 1 s.size) = (sl s).drop 1 := by
  rw [sl_extract, List.take_of_length_le (by rw [sl_len]; exact Nat.le_refl _)]
theorem ext_tail (s : ByteArray) : s.extract 1 s.size = nstr ((sl s).drop 1) := by
  rw [← sl_tail, nstr_sl]
theorem ext_head (s : ByteArray) {x : Nat} {r : List Nat} (h : sl s = x :: r) (c : UInt8) : ((s.extract 0 1).toList == [c]) = decide (x = c.toNat) := by
  have h1 : sl (s.extract 0 1) = [x] := by rw [sl_extract, h]; rfl
  have h2 : (s.extract 0 1).toList = (s.extract 0 1).data.toList := ByteArray.toList_eq _
  rw [h2]
  unfold sl at h1
  generalize (s.extract 0 1).data.toList = l at *
  cases l with
  | nil => simp at h1
  | cons u m =>
    simp only [List.map_cons, List.cons.injEq, List.map_eq_nil_iff] at h1
    obtain ⟨h3, rfl⟩ := h1
    subst h3
    rw [Bool.eq_iff_iff]
    simp [UInt8.toNat_inj]
theorem not_empty (s : ByteArray) {x : Nat} {r : List Nat} (h : sl s = x :: r) : s.toList.isEmpty = false := by
  rw [ByteArray.toList_eq]
  unfold sl at h
  cases hl : s.data.toList with
  | nil => rw [hl] at h; simp at h
  | cons u m => rfl
/-- What split tells. -/
def spl : List Nat → Bs × List Nat × Bool
  | [] => (b0, [], false)
  | x :: r => if x = 81 then (b58, x :: r, true) else if x = 102 then (b16, r, true) else if x = 98 then (b32, r, true) else if x = 122 then (b58, r, true) else (b0, r, false)
structure Bz (w wx : World) : Prop where
  r : wx.heap[w.heap.size]? = some (.cells b0.cs 62 (0, 0))
  b : Below w.heap.size w wx
theorem Bz.below {w wx wy : World} (h : Bz w wx) (hb : Below wx.heap.size wx wy) : Bz w wy := ⟨(hb.block _ (blk_lt h.r)).trans h.r, h.b.trans (hb.mono h.b.size)⟩
theorem Bz.start (w : World) : Bz w (w.alloc (.cells #[.string ⟨#[]⟩, .string ⟨#[]⟩, .int .i64 0] 62)) := ⟨heap_alloc_new w _, below_alloc4 w _⟩
theorem below_drewN (w : World) (n : Nat) : Below w.heap.size w (w.drewN n) := ((Kp.refl (fun _ => False) w).drewN n).below (Nat.le_refl _) (fun _ h => h.elim)
set_option maxRecDepth 1000000 in
set_option maxHeartbeats 2000000 in
theorem split_any (w : World) (s : ByteArray) (hs : s.size ≤ 1000) :
    Calls Tryd.prog 38 #[.string s] w fun e w' => e = .returned (.tuple #[.agg (spl (sl s)).1.cs, .string (nstr (spl (sl s)).2.1), .bool (spl (sl s)).2.2]) ∧ Below w.heap.size w w' := by
  have HZ0 := hide (Bz.start w)
  cases hsl : sl s with
  | nil =>
    have g0 : s.toList.isEmpty = true := by
      rw [ByteArray.toList_eq]
      unfold sl at hsl
      simpa using hsl
    have HR0 := hide HZ0.out.r
    clear hsl
    go_enter Tryd.func38, Tryd.ntmps38
    go_wp2_with (refine wpList_storeB rfl rfl w.heap.size b0.cs b0 rfl rfl rfl HR0.out ?_)
    exact bodyPost_ret (end_c3 rfl Tryd.underlying62 infoB rfl (row_same HR0.out) rfl rfl rfl) rfl ⟨rfl, HZ0.out.b.trans ((row_kp _ _ _).below HZ0.out.b.size (fun q e => by omega))⟩
  | cons x r =>
    have g0 := not_empty s hsl
    have HT : Hid (s.extract 1 s.size = nstr r) := by show _ = _; rw [ext_tail, hsl]; rfl
    have HSE : Hid (s = nstr (x :: r)) := by show _ = _; rw [← hsl, nstr_sl]
    have HH := hide (fun c => ext_head s hsl c)
    have hp : (1 : Int) ≤ (s.size : Int) := by have := sl_len s; rw [hsl, List.length_cons] at this; omega
    clear hsl
    by_cases h81 : x = 81
    · as_aux_lemma =>
      have HSP : Hid (spl (x :: r) = (b58, x :: r, true)) := by show _ = _; simp only [spl]; rw [if_pos h81]
      rw [HSP.out]
      have k81 := HH.out 81
      rw [decide_eq_true (by exact h81)] at k81
      clear HH h81
      go_enter Tryd.func38, Tryd.ntmps38
      go_wp2_with fail
      go_quiet (fail)
      go_wp2_with fail
      have HZ1 := hide (HZ0.out.below (below_drewN _ nq))
      generalize (w.alloc (.cells #[.string ⟨#[]⟩, .string ⟨#[]⟩, .int .i64 0] 62)).drewN nq = w1 at *
      have HBO : Calls Tryd.prog 33 #[.int .i64 3] w1 fun e w' => e = .returned (.tuple #[.agg b58.cs, .bool true]) ∧ Below w1.heap.size w1 w' := baseOf_any w1 3
      refine HBO.mono ?_
      rintro e w2 ⟨rfl, hb2⟩
      have HZ3 : Hid (Bz w (w2.alloc (.cells b58.cs 62))) := (HZ1.out.below hb2).below (below_alloc4 w2 _)
      have HTB : Hid ((w2.alloc (.cells b58.cs 62)).heap[w2.heap.size]? = some (.cells b58.cs 62 (0, 0))) := heap_alloc_new w2 _
      have HR3 := hide HZ3.out.r
      clear hb2
      go_wp2_with (first
        | (refine wpList_storeB rfl rfl w2.heap.size b0.cs b58 rfl rfl rfl (heap_alloc_new w2 _) ?_; rw [World.setRow_alloc_new])
        | (refine wpList_loadB rfl rfl w2.heap.size b58.cs rfl rfl HTB.out ?_)
        | (refine wpList_storeB rfl rfl w.heap.size b0.cs b58 rfl rfl rfl HR3.out ?_))
      exact bodyPost_ret (end_c3 rfl Tryd.underlying62 infoB rfl (row_same HR3.out) rfl rfl rfl) rfl ⟨by rw [← HSE.out]; rfl, HZ3.out.b.trans ((row_kp _ _ _).below HZ3.out.b.size (fun q e => by omega))⟩
    · skip
      by_cases h102 : x = 102
      · as_aux_lemma =>
        have HSP : Hid (spl (x :: r) = (b16, r, true)) := by show _ = _; simp only [spl]; rw [if_neg h81]; rw [if_pos h102]
        rw [HSP.out]
        have k81 := HH.out 81
        rw [decide_eq_false (by exact h81)] at k81
        have k102 := HH.out 102
        rw [decide_eq_true (by exact h102)] at k102
        clear HH h81 h102
        go_enter Tryd.func38, Tryd.ntmps38
        go_wp2_with fail
        go_quiet (fail)
        go_wp2_with fail
        have HZ1 := hide (HZ0.out.below (below_drewN _ nq))
        generalize (w.alloc (.cells #[.string ⟨#[]⟩, .string ⟨#[]⟩, .int .i64 0] 62)).drewN nq = w1 at *
        have HBO : Calls Tryd.prog 33 #[.int .i64 1] w1 fun e w' => e = .returned (.tuple #[.agg b16.cs, .bool true]) ∧ Below w1.heap.size w1 w' := baseOf_any w1 1
        refine HBO.mono ?_
        rintro e w2 ⟨rfl, hb2⟩
        have HZ3 : Hid (Bz w (w2.alloc (.cells b16.cs 62))) := (HZ1.out.below hb2).below (below_alloc4 w2 _)
        have HTB : Hid ((w2.alloc (.cells b16.cs 62)).heap[w2.heap.size]? = some (.cells b16.cs 62 (0, 0))) := heap_alloc_new w2 _
        have HR3 := hide HZ3.out.r
        clear hb2
        go_wp2_with (first
          | (refine wpList_storeB rfl rfl w2.heap.size b0.cs b16 rfl rfl rfl (heap_alloc_new w2 _) ?_; rw [World.setRow_alloc_new])
          | (refine wpList_loadB rfl rfl w2.heap.size b16.cs rfl rfl HTB.out ?_)
          | (refine wpList_storeB rfl rfl w.heap.size b0.cs b16 rfl rfl rfl HR3.out ?_))
        exact bodyPost_ret (end_c3 rfl Tryd.underlying62 infoB rfl (row_same HR3.out) rfl rfl rfl) rfl ⟨by rw [← HT.out]; rfl, HZ3.out.b.trans ((row_kp _ _ _).below HZ3.out.b.size (fun q e => by omega))⟩
      · skip
        by_cases h98 : x = 98
        · as_aux_lemma =>
          have HSP : Hid (spl (x :: r) = (b32, r, true)) := by show _ = _; simp only [spl]; rw [if_neg h81]; rw [if_neg h102]; rw [if_pos h98]
          rw [HSP.out]
          have k81 := HH.out 81
          rw [decide_eq_false (by exact h81)] at k81
          have k102 := HH.out 102
          rw [decide_eq_false (by exact h102)] at k102
          have k98 := HH.out 98
          rw [decide_eq_true (by exact h98)] at k98
          clear HH h81 h102 h98
          go_enter Tryd.func38, Tryd.ntmps38
          go_wp2_with fail
          go_quiet (fail)
          go_wp2_with fail
          have HZ1 := hide (HZ0.out.below (below_drewN _ nq))
          generalize (w.alloc (.cells #[.string ⟨#[]⟩, .string ⟨#[]⟩, .int .i64 0] 62)).drewN nq = w1 at *
          have HBO : Calls Tryd.prog 33 #[.int .i64 2] w1 fun e w' => e = .returned (.tuple #[.agg b32.cs, .bool true]) ∧ Below w1.heap.size w1 w' := baseOf_any w1 2
          refine HBO.mono ?_
          rintro e w2 ⟨rfl, hb2⟩
          have HZ3 : Hid (Bz w (w2.alloc (.cells b32.cs 62))) := (HZ1.out.below hb2).below (below_alloc4 w2 _)
          have HTB : Hid ((w2.alloc (.cells b32.cs 62)).heap[w2.heap.size]? = some (.cells b32.cs 62 (0, 0))) := heap_alloc_new w2 _
          have HR3 := hide HZ3.out.r
          clear hb2
          go_wp2_with (first
            | (refine wpList_storeB rfl rfl w2.heap.size b0.cs b32 rfl rfl rfl (heap_alloc_new w2 _) ?_; rw [World.setRow_alloc_new])
            | (refine wpList_loadB rfl rfl w2.heap.size b32.cs rfl rfl HTB.out ?_)
            | (refine wpList_storeB rfl rfl w.heap.size b0.cs b32 rfl rfl rfl HR3.out ?_))
          exact bodyPost_ret (end_c3 rfl Tryd.underlying62 infoB rfl (row_same HR3.out) rfl rfl rfl) rfl ⟨by rw [← HT.out]; rfl, HZ3.out.b.trans ((row_kp _ _ _).below HZ3.out.b.size (fun q e => by omega))⟩
        · skip
          by_cases h122 : x = 122
          · as_aux_lemma =>
            have HSP : Hid (spl (x :: r) = (b58, r, true)) := by show _ = _; simp only [spl]; rw [if_neg h81]; rw [if_neg h102]; rw [if_neg h98]; rw [if_pos h122]
            rw [HSP.out]
            have k81 := HH.out 81
            rw [decide_eq_false (by exact h81)] at k81
            have k102 := HH.out 102
            rw [decide_eq_false (by exact h102)] at k102
            have k98 := HH.out 98
            rw [decide_eq_false (by exact h98)] at k98
            have k122 := HH.out 122
            rw [decide_eq_true (by exact h122)] at k122
            clear HH h81 h102 h98 h122
            go_enter Tryd.func38, Tryd.ntmps38
            go_wp2_with fail
            go_quiet (fail)
            go_wp2_with fail
            have HZ1 := hide (HZ0.out.below (below_drewN _ nq))
            generalize (w.alloc (.cells #[.string ⟨#[]⟩, .string ⟨#[]⟩, .int .i64 0] 62)).drewN nq = w1 at *
            have HBO : Calls Tryd.prog 33 #[.int .i64 3] w1 fun e w' => e = .returned (.tuple #[.agg b58.cs, .bool true]) ∧ Below w1.heap.size w1 w' := baseOf_any w1 3
            refine HBO.mono ?_
            rintro e w2 ⟨rfl, hb2⟩
            have HZ3 : Hid (Bz w (w2.alloc (.cells b58.cs 62))) := (HZ1.out.below hb2).below (below_alloc4 w2 _)
            have HTB : Hid ((w2.alloc (.cells b58.cs 62)).heap[w2.heap.size]? = some (.cells b58.cs 62 (0, 0))) := heap_alloc_new w2 _
            have HR3 := hide HZ3.out.r
            clear hb2
            go_wp2_with (first
              | (refine wpList_storeB rfl rfl w2.heap.size b0.cs b58 rfl rfl rfl (heap_alloc_new w2 _) ?_; rw [World.setRow_alloc_new])
              | (refine wpList_loadB rfl rfl w2.heap.size b58.cs rfl rfl HTB.out ?_)
              | (refine wpList_storeB rfl rfl w.heap.size b0.cs b58 rfl rfl rfl HR3.out ?_))
            exact bodyPost_ret (end_c3 rfl Tryd.underlying62 infoB rfl (row_same HR3.out) rfl rfl rfl) rfl ⟨by rw [← HT.out]; rfl, HZ3.out.b.trans ((row_kp _ _ _).below HZ3.out.b.size (fun q e => by omega))⟩
          · skip
            as_aux_lemma =>
            have HSP : Hid (spl (x :: r) = (b0, r, false)) := by show _ = _; simp only [spl]; rw [if_neg h81]; rw [if_neg h102]; rw [if_neg h98]; rw [if_neg h122]
            rw [HSP.out]
            have k81 := HH.out 81
            rw [decide_eq_false (by exact h81)] at k81
            have k102 := HH.out 102
            rw [decide_eq_false (by exact h102)] at k102
            have k98 := HH.out 98
            rw [decide_eq_false (by exact h98)] at k98
            have k122 := HH.out 122
            rw [decide_eq_false (by exact h122)] at k122
            clear HH h81 h102 h98 h122
            go_enter Tryd.func38, Tryd.ntmps38
            go_wp2_with fail
            go_quiet (fail)
            go_wp2_with fail
            have HZ1 := hide (HZ0.out.below (below_drewN _ nq))
            generalize (w.alloc (.cells #[.string ⟨#[]⟩, .string ⟨#[]⟩, .int .i64 0] 62)).drewN nq = w1 at *
            have HBO : Calls Tryd.prog 33 #[.int .i64 0] w1 fun e w' => e = .returned (.tuple #[.agg b0.cs, .bool false]) ∧ Below w1.heap.size w1 w' := baseOf_any w1 0
            refine HBO.mono ?_
            rintro e w2 ⟨rfl, hb2⟩
            have HZ3 : Hid (Bz w (w2.alloc (.cells b0.cs 62))) := (HZ1.out.below hb2).below (below_alloc4 w2 _)
            have HTB : Hid ((w2.alloc (.cells b0.cs 62)).heap[w2.heap.size]? = some (.cells b0.cs 62 (0, 0))) := heap_alloc_new w2 _
            have HR3 := hide HZ3.out.r
            clear hb2
            go_wp2_with (first
              | (refine wpList_storeB rfl rfl w2.heap.size b0.cs b0 rfl rfl rfl (heap_alloc_new w2 _) ?_; rw [World.setRow_alloc_new])
              | (refine wpList_loadB rfl rfl w2.heap.size b0.cs rfl rfl HTB.out ?_)
              | (refine wpList_storeB rfl rfl w.heap.size b0.cs b0 rfl rfl rfl HR3.out ?_))
            exact bodyPost_ret (end_c3 rfl Tryd.underlying62 infoB rfl (row_same HR3.out) rfl rfl rfl) rfl ⟨by rw [← HT.out]; rfl, HZ3.out.b.trans ((row_kp _ _ _).below HZ3.out.b.size (fun q e => by omega))⟩
end
section
open Go.RowKit Go
/-- The row that a text is in a base. -/
def rowd (b : Bs) (s : List Nat) : Option (List Nat) := (looks (sl b.t) s).bind fun l => if b.n = 0 then some (conv b.t.size 256 l) else if encW b.n (decW b.n l) = l then some (decW b.n l) else none
theorem rowd_byte {b : Bs} {s o : List Nat} (h : rowd b s = some o) : ∀ x ∈ o, x < 256 := by
  unfold rowd at h
  obtain ⟨l, _, h⟩ := Option.bind_eq_some_iff.1 h
  split at h
  · injection h with h
    subst h
    exact conv_lt (by decide) l
  · split at h
    · injection h with h
      subst h
      exact decW_lt _ l
    · cases h
set_option maxRecDepth 1000000 in
set_option maxHeartbeats 1000000 in
theorem row_any (w : World) (b : Bs) (s : ByteArray) (hb : Bok b) (hs : s.size ≤ 1000) :
    Calls Tryd.prog 39 #[.agg b.cs, .string s] w fun e w' => ∃ v o, e = .returned (.tuple #[v, .bool (rowd b (sl s)).isSome]) ∧ w'.ownsRow w.heap.size 5 1 v o.length (bv o) ∧ (∀ x, rowd b (sl s) = some x → o = x) ∧ Below w.heap.size w w' := by
  have HB := hide hb
  have HS := hide hs
  have HRD : Hid (rowd b (sl s) = (looks (sl b.t) (sl s)).bind fun l => if b.n = 0 then some (conv b.t.size 256 l) else if encW b.n (decW b.n l) = l then some (decW b.n l) else none) := rfl
  have HLT : Hid (∀ l, looks (sl b.t) (sl s) = some l → (∀ x ∈ l, x < b.t.size) ∧ l.length = s.size) := fun l h => ⟨fun x hx => by have := looks_lt h x hx; rw [sl_len] at this; exact this, by rw [looks_len h, sl_len]⟩
  clear hb hs
  obtain ⟨bl, bt, bn⟩ := b
  have HT : Hid ((w.alloc (.cells #[.string bl, .string bt, .int .i64 (bn : Nat)] 62)).heap[w.heap.size]? = some (.cells (Bs.cs ⟨bl, bt, bn⟩) 62 (0, 0))) := heap_alloc_new w _
  have HB0 := hide (below_alloc4 w (.cells #[.string bl, .string bt, .int .i64 (bn : Nat)] 62))
  simp only [Bs.cs] at HRD HLT ⊢
  generalize rowd ⟨bl, bt, bn⟩ (sl s) = RD at *
  go_enter Tryd.func39, Tryd.ntmps39
  go_wp2_with fail
  generalize w.alloc (.cells #[.string bl, .string bt, .int .i64 (bn : Nat)] 62) = w0 at *
  refine (numbers_any w0 bl bt s (bn : Nat) HB.out.t2 HB.out.w HS.out).mono ?_
  rintro e w1 ⟨v1, rfl, ho1, hb1⟩
  have HB1 : Hid (Below w.heap.size w w1) := HB0.out.trans (hb1.mono HB0.out.size)
  have HT1 : Hid (w1.heap[w.heap.size]? = some (.cells (Bs.cs ⟨bl, bt, bn⟩) 62 (0, 0))) := (hb1.block _ (blk_lt HT.out)).trans HT.out
  have c1 : w1.cell? ⟨w.heap.size, 1, none⟩ = some (.string bt) := blk_cell HT1.out rfl
  have c2 : w1.cell? ⟨w.heap.size, 2, none⟩ = some (.int .i64 (bn : Nat)) := blk_cell HT1.out rfl
  cases hlo : looks (sl bt) (sl s) with
  | none =>
    as_aux_lemma =>
    rw [hlo] at ho1 HRD
    simp only [Option.isSome_none, Option.getD_none, Option.bind_none] at ho1 HRD ⊢
    obtain ⟨a2, cc2, hv2, hq1, hq2, hq3⟩ := own_form ho1
    subst hv2
    clear ho1 hb1 hq1 hq2 hq3 hlo
    go_wp2_with fail
    go_ret2
    exact ⟨_, [], by rw [HRD.out]; rfl, World.ownsRow_nil _ _ _ _, fun x hx => (by rw [HRD.out] at hx; cases hx), HB1.out⟩
  | some l =>
    rw [hlo] at ho1 HRD
    have hll := HLT.out l hlo
    simp only [Option.isSome_some, Option.getD_some, Option.bind_some] at ho1 HRD ⊢
    have HLX := hide hll.1
    have HLN := hide hll.2
    have HBS := hide (BSl.own ho1 (fun x hx => by have := hll.1 x hx; have := HB.out.t2; simp only at this; omega))
    obtain ⟨a2, cc2, hv2, hq1, hq2, hq3⟩ := own_form ho1
    subst hv2
    clear ho1 hb1 hq1 hq2 hq3 hlo hll HLT
    by_cases h0 : bn = 0
    · subst h0
      as_aux_lemma =>
      have HRE : Hid (RD = some (conv bt.size 256 l)) := by show _ = _; rw [HRD.out, if_pos rfl]
      clear HRD
      go_wp2_with fail
      have HRC : Calls Tryd.prog 63 #[.slice a2 l.length cc2, .int .i64 (bt.size : Nat), .int .i64 256] w1 _ := recast_any w1 _ l bt.size 256 HBS.out HB.out.t (Nat.le_trans HB.out.t2 (by decide)) (by decide) (by decide) HLX.out (by rw [HLN.out]; exact HS.out)
      refine HRC.mono ?_
      rintro e w2 ⟨v3, rfl, ho3, hb3⟩
      have HO := hide (own_mono4 ho3 HB1.out.size)
      have HB2 : Hid (Below w.heap.size w w2) := HB1.out.trans (hb3.mono HB1.out.size)
      obtain ⟨a3, cc3, hv3, hq1, hq2, hq3⟩ := own_form ho3
      subst hv3
      clear ho3 hb3 hq1 hq2 hq3
      go_wp2_with fail
      go_ret2
      exact ⟨_, _, by rw [HRE.out]; rfl, HO.out, fun x hx => (by rw [HRE.out] at hx; injection hx), HB2.out⟩
    · have g0 : ((bn : Int) == 0) = false := beq_eq_false_iff_ne.2 (by omega)
      have hn8 : bn ≤ 8 := HB.out.n
      have h0' : 0 < bn := by omega
      have HPW : Hid (∀ x ∈ l, x < 2 ^ bn) := fun x hx => by have h1 := HB.out.e h0; simp only at h1; rw [h1]; exact HLX.out x hx
      rw [if_neg h0] at HRD
      clear h0
      go_wp2_with fail
      have HRC : Calls Tryd.prog 64 #[.slice a2 l.length cc2, .int .i64 (bn : Nat), .int .i64 8] w1 _ := regroup_any w1 _ l bn 8 HBS.out h0' hn8 (by decide) (by decide) HPW.out (by rw [HLN.out]; exact HS.out)
      refine HRC.mono ?_
      rintro e w2 ⟨v3, out, R, rfl, hg, hR, ho3, hb3⟩
      have HED := hide (enc_dec h0' HPW.out hg hR)
      have HDW : Hid (decW bn l = out) := (hg.grp (by decide) hR).symm
      rw [HDW.out] at HRD
      have HO := hide (own_mono4 ho3 HB1.out.size)
      have HB2 : Hid (Below w.heap.size w w2) := HB1.out.trans (hb3.mono HB1.out.size)
      have c3 : w2.cell? ⟨w.heap.size, 2, none⟩ = some (.int .i64 (bn : Nat)) := keep_below hb3 _ _ c2
      obtain ⟨a3, cc3, hv3, hq1, hq2, hq3⟩ := own_form ho3
      subst hv3
      clear ho3 hb3 hq1 hq2 hq3 c1 c2 hg HDW
      by_cases hlt : R.length < bn
      · have g1 : (R.length : Int) < (bn : Int) := by omega
        by_cases hz : valB 2 R = 0
        · as_aux_lemma =>
          have HRE : Hid (RD = some out) := by show _ = _; rw [HRD.out, if_pos (HED.out.2 ⟨hlt, hz⟩)]
          rw [hz]
          clear HRD HED
          go_wp2_with fail
          go_ret2
          exact ⟨_, _, by rw [HRE.out]; rfl, HO.out, fun x hx => (by rw [HRE.out] at hx; injection hx), HB2.out⟩
        · as_aux_lemma =>
          have HRE : Hid (RD = none) := by show _ = _; rw [HRD.out, if_neg (fun e => hz (HED.out.1 e).2)]
          have g2 : ((valB 2 R : Int) == 0) = false := beq_eq_false_iff_ne.2 (by omega)
          clear HRD HED
          go_wp2_with fail
          go_ret2
          exact ⟨_, _, by rw [HRE.out]; rfl, HO.out, fun x hx => (by rw [HRE.out] at hx; cases hx), HB2.out⟩
      · as_aux_lemma =>
        have g1 : ¬ (R.length : Int) < (bn : Int) := by omega
        have HRE : Hid (RD = none) := by show _ = _; rw [HRD.out, if_neg (fun e => hlt (HED.out.1 e).1)]
        clear HRD HED
        go_wp2_with fail
        go_ret2
        exact ⟨_, _, by rw [HRE.out]; rfl, HO.out, fun x hx => (by rw [HRE.out] at hx; cases hx), HB2.out⟩
end
section
open Go.RowKit Go
set_option maxRecDepth 1000000 in
set_option maxHeartbeats 1000000 in
theorem parse4_any (w : World) (v : Value) (b : List Nat) (hb : BSl w v b) :
    Calls Tryd.prog 29 #[v] w fun e w' => e = .returned (.tuple #[lkv (lparse b).1, .int .i64 ((lparse b).2 : Nat)]) ∧ Below w.heap.size w w' := by
  have HB := hide hb
  obtain ⟨⟨a, cap, rfl, hn, hc⟩, hmax, hby⟩ := hb
  have HF0 := hide (Fz.start w)
  clear hn hc hby
  go_enter Tryd.func29, Tryd.ntmps29
  go_wp2_with fail
  generalize w.alloc (.cells #[.int .i64 0, .int .u64 0, .int .u64 0, .string ⟨#[]⟩] 35) = w0 at *
  refine (first4_any w0 _ b (HB.out.move (keep_below HF0.out.b))).mono ?_
  rintro e w1 ⟨rfl, hb1⟩
  have HF1 := hide (HF0.out.below hb1)
  have HPR : Hid (lparse b = if (lfirst b).2.2 ≠ 0 then (Lk.none, (lfirst b).2.2) else if (lfirst b).2.1 < b.length then (Lk.none, 44) else ((lfirst b).1, 0)) := rfl
  clear hb1
  generalize lfirst b = r at *
  obtain ⟨⟨lv, lc, lh, ld⟩, n, er⟩ := r
  simp only at HPR ⊢
  have HL2 : Hid ((w1.alloc (.cells #[.int .i64 lv, .int .u64 (lc : Nat), .int .u64 (lh : Nat), .string (nstr ld)] 35)).heap[w1.heap.size]? = some (.cells (lcs ⟨lv, lc, lh, ld⟩) 35 (0, 0))) := heap_alloc_new w1 _
  have HF2 : Hid (Fz w (w1.alloc (.cells #[.int .i64 lv, .int .u64 (lc : Nat), .int .u64 (lh : Nat), .string (nstr ld)] 35))) := HF1.out.below (below_alloc4 w1 _)
  have HR2 := hide HF2.out.r
  clear HF1 HF0
  simp only [lkv]
  by_cases he : er = 0
  · subst he
    by_cases hlt : n < b.length
    · as_aux_lemma =>
      have g1 : (n : Int) < (b.length : Int) := by omega
      have HP2 : Hid (lparse b = (Lk.none, 44)) := by show _ = _; rw [HPR.out]; simp [hlt]
      clear HPR hlt
      go_wp2_with (refine wpList_zero rfl rfl w.heap.size rfl rfl HR2.out ?_)
      exact bodyPost_ret (end_c2 rfl Tryd.underlying35 info61 rfl HR2.out rfl rfl) rfl ⟨by rw [HP2.out]; rfl, HF2.out.b⟩
    · as_aux_lemma =>
      have g1 : ¬ (n : Int) < (b.length : Int) := by omega
      have HP2 : Hid (lparse b = (⟨lv, lc, lh, ld⟩, 0)) := by show _ = _; rw [HPR.out]; simp [hlt]
      clear HPR hlt
      go_wp2_with (first
        | (refine wpList_loadLk rfl rfl w1.heap.size _ rfl rfl HL2.out ?_)
        | (refine wpList_storeLk rfl rfl w.heap.size zlk ⟨lv, lc, lh, ld⟩ rfl rfl rfl HR2.out ?_))
      exact bodyPost_ret (end_c2 rfl Tryd.underlying35 info61 rfl (row_same HR2.out) rfl rfl) rfl ⟨by rw [HP2.out]; rfl, HF2.out.b.trans ((row_kp _ _ _).below HF2.out.b.size (fun q e => by omega))⟩
  · as_aux_lemma =>
    have g1 : ((er : Int) == 0) = false := beq_eq_false_iff_ne.2 (by omega)
    have HP2 : Hid (lparse b = (Lk.none, er)) := by show _ = _; rw [HPR.out]; simp [he]
    clear HPR he
    go_wp2_with (refine wpList_zero rfl rfl w.heap.size rfl rfl HR2.out ?_)
    exact bodyPost_ret (end_c2 rfl Tryd.underlying35 info61 rfl HR2.out rfl rfl) rfl ⟨by rw [HP2.out]; rfl, HF2.out.b⟩
end
section
open Go.RowKit Go
theorem enc_map {t : List Nat} {s l x : List Nat} (ht : ∀ i, i < t.length → look t (t.getD i 0) = some i) (hl : looks t s = some l) (hx : ∀ i ∈ x, i < t.length) : x.map (t.getD · 0) = s ↔ x = l := by
  constructor
  · intro e
    have h := looks_map ht hx
    rw [e, hl] at h
    injection h with h
    exact h.symm
  · intro e
    rw [e]
    exact (looks_back hl).1
theorem rowd16 (s : List Nat) : rowd b16 s = in16 s := by
  unfold rowd in16
  show ((looks (sl s16) s).bind fun l => if (4 : Nat) = 0 then _ else if encW 4 (decW 4 l) = l then some (decW 4 l) else none) = _
  rw [sl16]
  cases h : looks d16 s with
  | none => rfl
  | some l =>
    simp only [Option.bind_some]
    rw [if_neg (by decide)]
    have e := enc_map (t := d16) look16 h (encW_lt (w := 4) (by decide) (decW 4 l))
    unfold of16
    by_cases h1 : encW 4 (decW 4 l) = l
    · rw [if_pos h1, if_pos (e.2 h1)]
    · rw [if_neg h1, if_neg (fun h => h1 (e.1 h))]
theorem rowd32 (s : List Nat) : rowd b32 s = in32 s := by
  unfold rowd in32
  show ((looks (sl s32) s).bind fun l => if (5 : Nat) = 0 then _ else if encW 5 (decW 5 l) = l then some (decW 5 l) else none) = _
  rw [sl32]
  cases h : looks d32 s with
  | none => rfl
  | some l =>
    simp only [Option.bind_some]
    rw [if_neg (by decide)]
    have e := enc_map (t := d32) look32 h (encW_lt (w := 5) (by decide) (decW 5 l))
    unfold of32
    by_cases h1 : encW 5 (decW 5 l) = l
    · rw [if_pos h1, if_pos (e.2 h1)]
    · rw [if_neg h1, if_neg (fun h => h1 (e.1 h))]
theorem rowd58 (s : List Nat) : rowd b58 s = in58 s := by
  unfold rowd in58
  show ((looks (sl s58) s).bind fun l => some (conv 58 256 l)) = _
  rw [sl58]
  cases looks d58 s <;> rfl
/-- What ParseText tells, by the landed code's steps. -/
def ptx (s : List Nat) : Lk × Nat :=
  if 153 < s.length then (Lk.none, 46) else if (spl s).2.2 = false then (Lk.none, 45)
  else match rowd (spl s).1 (spl s).2.1 with
    | none => (Lk.none, 46)
    | some b => if (lparse b).2 ≠ 0 then (Lk.none, (lparse b).2) else if decide ((lparse b).1.v = 0) ≠ decide (s.head? = some 81) then (Lk.none, 41) else ((lparse b).1, 0)
theorem ptx_eq {s : List Nat} (hs : ∀ x ∈ s, x < 256) : ptx s = lparsetext s := by
  unfold ptx lparsetext
  by_cases h1 : 153 < s.length
  · rw [if_pos h1, if_pos h1]
  · rw [if_neg h1, if_neg h1]
    have key : ∀ (b : List Nat) (v : Int) (q : Bool), (∀ x ∈ b, x < 256) → (v = if q then 0 else 1) → (if (lparse b).2 ≠ 0 then (Lk.none, (lparse b).2) else if decide ((lparse b).1.v = 0) ≠ q then (Lk.none, 41) else ((lparse b).1, 0)) = (if (lparse b).2 ≠ 0 then (Lk.none, (lparse b).2) else if (lparse b).1.v ≠ v then (Lk.none, 41) else ((lparse b).1, 0)) := by
      intro b v q hb hv
      by_cases h2 : (lparse b).2 = 0
      · have hok := (lparse_back (l := (lparse b).1) hb (by rw [← h2])).1
        have hv01 : (lparse b).1.v = 0 ∨ (lparse b).1.v = 1 := by
          rcases hok with h | h
          · exact .inl h.1
          · exact .inr h.1
        subst hv
        simp only [h2, ne_eq, not_true_eq_false, if_false]
        generalize (lparse b).1 = l at *
        cases q
        · rcases hv01 with h | h
          · simp [h]
          · simp [h]
        · rcases hv01 with h | h
          · simp [h]
          · simp [h]
      · rw [if_pos h2, if_pos h2]
    cases s with
    | nil => rfl
    | cons x r =>
      have hr : ∀ y ∈ r, y < 256 := fun y hy => hs y (List.mem_cons_of_mem _ hy)
      have main : ∀ (bb : Bs) (t : List Nat) (v : Int) (q : Bool), spl (x :: r) = (bb, t, true) → decide ((x :: r).head? = some 81) = q → (v = if q then 0 else 1) → ltake (x :: r) = (rowd bb t).map (fun b => (v, b)) → ¬ ((x :: r).head? ≠ some 81 ∧ (x :: r).head? ≠ some 102 ∧ (x :: r).head? ≠ some 98 ∧ (x :: r).head? ≠ some 122) →
          (if (spl (x :: r)).2.2 = false then (Lk.none, 45) else match rowd (spl (x :: r)).1 (spl (x :: r)).2.1 with
            | none => (Lk.none, 46)
            | some b => if (lparse b).2 ≠ 0 then (Lk.none, (lparse b).2) else if decide ((lparse b).1.v = 0) ≠ decide ((x :: r).head? = some 81) then (Lk.none, 41) else ((lparse b).1, 0)) =
          (if (x :: r).head? ≠ some 81 ∧ (x :: r).head? ≠ some 102 ∧ (x :: r).head? ≠ some 98 ∧ (x :: r).head? ≠ some 122 then (Lk.none, 45) else match ltake (x :: r) with
            | none => (Lk.none, 46)
            | some (v, b) => if (lparse b).2 ≠ 0 then (Lk.none, (lparse b).2) else if (lparse b).1.v ≠ v then (Lk.none, 41) else ((lparse b).1, 0)) := by
        intro bb t v q e1 e2 e3 e4 e5
        rw [if_neg e5, e1, e2, e4]
        rw [if_neg (by simp)]
        simp only
        cases hrow : rowd bb t with
        | none => rfl
        | some b => exact key b v q (rowd_byte hrow) e3
      by_cases h81 : x = 81
      · subst h81
        exact main b58 (81 :: r) 0 true rfl rfl rfl (by rw [rowd58]; rfl) (by simp)
      · by_cases h102 : x = 102
        · subst h102
          exact main b16 r 1 false rfl rfl rfl (by rw [rowd16]; rfl) (by simp)
        · by_cases h98 : x = 98
          · subst h98
            exact main b32 r 1 false rfl rfl rfl (by rw [rowd32]; rfl) (by simp)
          · by_cases h122 : x = 122
            · subst h122
              exact main b58 r 1 false rfl rfl rfl (by rw [rowd58]; rfl) (by simp)
            · have e : spl (x :: r) = (b0, r, false) := by
                simp only [spl]
                rw [if_neg h81, if_neg h102, if_neg h98, if_neg h122]
              rw [e, if_pos rfl, if_pos (by simp [h81, h102, h98, h122])]
theorem spl_ok {s : List Nat} (h : (spl s).2.2 = true) : Bok (spl s).1 := by
  cases s with
  | nil => simp [spl] at h
  | cons x r =>
    simp only [spl] at h ⊢
    split
    · exact bok58
    · split
      · exact bok16
      · split
        · exact bok32
        · split
          · exact bok58
          · rename_i h1 h2 h3 h4
            rw [if_neg h1, if_neg h2, if_neg h3, if_neg h4] at h
            cases h
theorem spl_cons {s : List Nat} (h : (spl s).2.2 = true) : ∃ x r, s = x :: r := by
  cases s with
  | nil => simp [spl] at h
  | cons x r => exact ⟨x, r, rfl⟩
theorem spl_len (s : List Nat) : (spl s).2.1.length ≤ s.length := by
  cases s with
  | nil => simp [spl]
  | cons x r =>
    simp only [spl]
    repeat' split
    all_goals simp
theorem spl_byte {s : List Nat} (h : ∀ x ∈ s, x < 256) : ∀ x ∈ (spl s).2.1, x < 256 := by
  cases s with
  | nil => simp [spl]
  | cons x r =>
    have hr : ∀ y ∈ r, y < 256 := fun y hy => h y (List.mem_cons_of_mem _ hy)
    simp only [spl]
    repeat' split
    all_goals first | exact h | exact hr
end
section
open Go.RowKit Go
set_option maxRecDepth 1000000 in
set_option maxHeartbeats 2000000 in
theorem parsetext_any (w : World) (s : ByteArray) (hs : s.size ≤ 9223372036854775807) :
    Calls Tryd.prog 15 #[.string s] w fun e w' => e = .returned (.tuple #[lkv (lparsetext (sl s)).1, .int .i64 ((lparsetext (sl s)).2 : Nat)]) ∧ Below w.heap.size w w' := by
  have HF0 := hide (Fz.start w)
  rw [← ptx_eq (sl_byte s)]
  have HPX : Hid (ptx (sl s) = if 153 < (sl s).length then (Lk.none, 46) else if (spl (sl s)).2.2 = false then (Lk.none, 45)
    else match rowd (spl (sl s)).1 (spl (sl s)).2.1 with
      | none => (Lk.none, 46)
      | some b => if (lparse b).2 ≠ 0 then (Lk.none, (lparse b).2) else if decide ((lparse b).1.v = 0) ≠ decide ((sl s).head? = some 81) then (Lk.none, 41) else ((lparse b).1, 0)) := rfl
  rw [sl_len] at HPX
  have HR0 := hide HF0.out.r
  generalize ptx (sl s) = R at *
  by_cases h153 : 153 < s.size
  · as_aux_lemma =>
    have g1 : (153 : Int) < (s.size : Int) := by omega
    rw [if_pos h153] at HPX
    clear h153
    go_enter Tryd.func15, Tryd.ntmps15
    go_wp2_with (refine wpList_zero rfl rfl w.heap.size rfl rfl HR0.out ?_)
    exact bodyPost_ret (end_c2 rfl Tryd.underlying35 info61 rfl HR0.out rfl rfl) rfl ⟨by rw [HPX.out]; rfl, HF0.out.b⟩
  · have g1 : ¬ (153 : Int) < (s.size : Int) := by omega
    rw [if_neg h153] at HPX
    have HSP := hide (split_any (w.alloc (.cells #[.int .i64 0, .int .u64 0, .int .u64 0, .string ⟨#[]⟩] 35)) s (by omega))
    have HSO := hide (spl_ok (s := sl s))
    have HSC := hide (spl_cons (s := sl s))
    have HSL := hide (spl_len (sl s))
    have HSB := hide (spl_byte (sl_byte s))
    rw [sl_len] at HSL
    have hS153 : s.size ≤ 153 := by omega
    clear h153
    go_enter Tryd.func15, Tryd.ntmps15
    go_wp2_with fail
    generalize w.alloc (.cells #[.int .i64 0, .int .u64 0, .int .u64 0, .string ⟨#[]⟩] 35) = w0 at *
    refine HSP.out.mono ?_
    rintro e w1 ⟨rfl, hb1⟩
    have HF1 := hide (HF0.out.below hb1)
    clear HSP HF0 HR0 hb1
    generalize hsp : spl (sl s) = sp at *
    clear hsp
    obtain ⟨⟨bl, bt, bn⟩, dd, ok⟩ := sp
    simp only [Bs.cs] at HPX HSO HSL HSB HSC ⊢
    have hb2 := below_alloc4 w1 (.cells #[.string bl, .string bt, .int .i64 (bn : Nat)] 62)
    have HF2 := hide (HF1.out.below hb2)
    have HTB : Hid ((w1.alloc (.cells #[.string bl, .string bt, .int .i64 (bn : Nat)] 62)).heap[w1.heap.size]? = some (.cells (Bs.cs ⟨bl, bt, bn⟩) 62 (0, 0))) := heap_alloc_new w1 _
    have HR2 := hide HF2.out.r
    clear hb2 HF1
    cases ok with
    | false =>
      as_aux_lemma =>
      rw [if_pos rfl] at HPX
      go_wp2_with (refine wpList_zero rfl rfl w.heap.size rfl rfl HR2.out ?_)
      exact bodyPost_ret (end_c2 rfl Tryd.underlying35 info61 rfl HR2.out rfl rfl) rfl ⟨by rw [HPX.out]; rfl, HF2.out.b⟩
    | true =>
      rw [if_neg (by decide)] at HPX
      have HBO := hide (HSO.out rfl)
      clear HSO
      have q0 : (w1.alloc (.cells #[.string bl, .string bt, .int .i64 (bn : Nat)] 62)).cell? ⟨w1.heap.size, 0, none⟩ = some (.string bl) := blk_cell HTB.out rfl
      have q1 : (w1.alloc (.cells #[.string bl, .string bt, .int .i64 (bn : Nat)] 62)).cell? ⟨w1.heap.size, 1, none⟩ = some (.string bt) := blk_cell HTB.out rfl
      have q2 : (w1.alloc (.cells #[.string bl, .string bt, .int .i64 (bn : Nat)] 62)).cell? ⟨w1.heap.size, 2, none⟩ = some (.int .i64 (bn : Nat)) := blk_cell HTB.out rfl
      have HRW := hide (row_any (w1.alloc (.cells #[.string bl, .string bt, .int .i64 (bn : Nat)] 62)) ⟨bl, bt, bn⟩ (nstr dd) HBO.out (by rw [nstr_size HSB.out]; have := HSL.out; omega))
      rw [sl_nstr HSB.out] at HRW
      go_wp2_with fail
      clear q0 q1 q2
      generalize w1.alloc (.cells #[.string bl, .string bt, .int .i64 (bn : Nat)] 62) = w2 at *
      refine HRW.out.mono ?_
      rintro e w3 ⟨v3, o, rfl, ho3, hox, hb3⟩
      have HF3 := hide (HF2.out.below hb3)
      have HR3 := hide HF3.out.r
      have HRB := hide (fun o => rowd_byte (b := ⟨bl, bt, bn⟩) (s := dd) (o := o))
      clear hb3 HF2 HR2 HTB HRW
      cases hrow : rowd ⟨bl, bt, bn⟩ dd with
      | none =>
        as_aux_lemma =>
        rw [hrow] at HPX
        simp only at HPX
        obtain ⟨a3, c3, hv3, hq1, hq2, hq3⟩ := own_form ho3
        subst hv3
        clear ho3 hox hq1 hq2 hq3 hrow
        simp only [Option.isSome_none]
        go_wp2_with (refine wpList_zero rfl rfl w.heap.size rfl rfl HR3.out ?_)
        exact bodyPost_ret (end_c2 rfl Tryd.underlying35 info61 rfl HR3.out rfl rfl) rfl ⟨by rw [HPX.out]; rfl, HF3.out.b⟩
      | some x =>
        have hoe := hox x hrow
        subst hoe
        rw [hrow] at HPX
        simp only at HPX
        have HV3 := hide (BSl.own ho3 (HRB.out o hrow))
        obtain ⟨a3, c3, hv3, hq1, hq2, hq3⟩ := own_form ho3
        subst hv3
        clear ho3 hox hq1 hq2 hq3 hrow HRB
        simp only [Option.isSome_some]
        go_wp2_with fail
        refine (parse4_any w3 _ o HV3.out).mono ?_
        rintro e w4 ⟨rfl, hb4⟩
        have HF4 := hide (HF3.out.below hb4)
        clear hb4 HF3 HR3 HV3
        generalize lparse o = lp at *
        obtain ⟨⟨lv, lc, lh, ld⟩, er⟩ := lp
        simp only [lkv] at HPX ⊢
        have HF5 := hide (HF4.out.below (below_alloc4 w4 (.cells #[.int .i64 lv, .int .u64 (lc : Nat), .int .u64 (lh : Nat), .string (nstr ld)] 35)))
        have HL5 : Hid ((w4.alloc (.cells #[.int .i64 lv, .int .u64 (lc : Nat), .int .u64 (lh : Nat), .string (nstr ld)] 35)).heap[w4.heap.size]? = some (.cells (lcs ⟨lv, lc, lh, ld⟩) 35 (0, 0))) := heap_alloc_new w4 _
        have HR5 := hide HF5.out.r
        clear HF4
        by_cases her : er = 0
        · subst her
          rw [if_neg (by simp)] at HPX
          obtain ⟨x, r, hxr⟩ := HSC.out (by simp)
          have hp : (1 : Int) ≤ (s.size : Int) := by have := sl_len s; rw [hxr, List.length_cons] at this; omega
          have k81 := ext_head s hxr 81
          have HHD : Hid (decide ((sl s).head? = some 81) = decide (x = (81 : UInt8).toNat)) := by show _ = _; rw [hxr]; simp
          rw [HHD.out] at HPX
          generalize decide (x = (81 : UInt8).toNat) = qq at *
          have c0 : (w4.alloc (.cells #[.int .i64 lv, .int .u64 (lc : Nat), .int .u64 (lh : Nat), .string (nstr ld)] 35)).cell? ⟨w4.heap.size, 0, none⟩ = some (.int .i64 lv) := blk_cell HL5.out rfl
          have HVB : Hid ((lv == 0) = decide (lv = 0)) := by show _ = _; rw [Bool.eq_iff_iff]; simp
          clear HHD hxr HSC
          by_cases hm : decide (lv = 0) = qq
          · as_aux_lemma =>
            rw [if_neg (fun h => h hm)] at HPX
            have kv : (lv == 0) = qq := by rw [HVB.out, hm]
            clear hm HVB
            go_wp2_with fail
            go_quiet (fail)
            have HRQ := hide ((below_drewN (w4.alloc (.cells #[.int .i64 lv, .int .u64 (lc : Nat), .int .u64 (lh : Nat), .string (nstr ld)] 35)) nq))
            have HF6 := hide (HF5.out.below HRQ.out)
            have HL6 := hide ((HRQ.out.block _ (blk_lt HL5.out)).trans HL5.out)
            have HR6 := hide HF6.out.r
            go_wp2_with (first
              | (refine wpList_loadLk rfl rfl w4.heap.size (lcs ⟨lv, lc, lh, ld⟩) rfl rfl HL6.out ?_)
              | (refine wpList_storeLk rfl rfl w.heap.size zlk ⟨lv, lc, lh, ld⟩ rfl rfl rfl HR6.out ?_))
            exact bodyPost_ret (end_c2 rfl Tryd.underlying35 info61 rfl (row_same HR6.out) rfl rfl) rfl ⟨by rw [HPX.out]; rfl, HF6.out.b.trans ((row_kp _ _ _).below HF6.out.b.size (fun q e => by omega))⟩
          · as_aux_lemma =>
            rw [if_pos hm] at HPX
            have kv : (lv == 0) = !qq := by rw [HVB.out]; cases qq <;> simpa using hm
            clear hm HVB
            go_wp2_with fail
            go_quiet (fail)
            have HRQ := hide ((below_drewN (w4.alloc (.cells #[.int .i64 lv, .int .u64 (lc : Nat), .int .u64 (lh : Nat), .string (nstr ld)] 35)) nq))
            have HF6 := hide (HF5.out.below HRQ.out)
            have HR6 := hide HF6.out.r
            go_wp2_with (refine wpList_zero rfl rfl w.heap.size rfl rfl HR6.out ?_)
            exact bodyPost_ret (end_c2 rfl Tryd.underlying35 info61 rfl HR6.out rfl rfl) rfl ⟨by rw [HPX.out]; rfl, HF6.out.b⟩
        · as_aux_lemma =>
          rw [if_pos her] at HPX
          have g2 : ((er : Int) == 0) = false := beq_eq_false_iff_ne.2 (by omega)
          clear her
          go_wp2_with (refine wpList_zero rfl rfl w.heap.size rfl rfl HR5.out ?_)
          exact bodyPost_ret (end_c2 rfl Tryd.underlying35 info61 rfl HR5.out rfl rfl) rfl ⟨by rw [HPX.out]; rfl, HF5.out.b⟩
end
section
open Go.RowKit Go
set_option maxRecDepth 1000000 in
set_option maxHeartbeats 1000000 in
theorem text4_any (w : World) (l : Lk) (hl : Lkb l) :
    Calls Tryd.prog 9 #[lkv l] w fun e w' => e = .returned (.tuple #[.string (nstr (lttx l).1), .int .i64 (lttx l).2]) ∧ Below w.heap.size w w' := by
  have HL := hide hl
  have HT : Hid ((w.alloc (.cells #[.int .i64 l.v, .int .u64 (l.c : Nat), .int .u64 (l.h : Nat), .string (nstr l.d)] 35)).heap[w.heap.size]? = some (.cells (lcs l) 35 (0, 0))) := heap_alloc_new w _
  have HB := hide (below_alloc4 w (.cells #[.int .i64 l.v, .int .u64 (l.c : Nat), .int .u64 (l.h : Nat), .string (nstr l.d)] 35))
  simp only [lkv]
  generalize hR : lttx l = R
  have HR := hide hR
  clear hR hl
  by_cases hv : l.v = 0
  · have HR2 : Hid (R = if lok l then (btext b58 (lrow l), 0) else ([], 40)) := by
      show _ = _
      rw [← HR.out]
      unfold lttx
      by_cases hk : lok l
      · rw [if_pos hk, if_pos hk]
        unfold ltext lrow
        rw [if_pos hv, if_pos hk, btext58]
      · rw [if_neg hk, if_neg hk]
    clear HR
    obtain ⟨lv, lc, lh, ld⟩ := l
    simp only at hv
    subst hv
    simp only at HT HB ⊢
    go_enter Tryd.func9, Tryd.ntmps9
    go_wp2_with fail
    generalize w.alloc (.cells #[.int .i64 0, .int .u64 (lc : Nat), .int .u64 (lh : Nat), .string (nstr ld)] 35) = w0 at *
    refine (bytes4_any w0 ⟨0, lc, lh, ld⟩ HL.out).mono ?_
    rintro e w1 ⟨v1, rfl, ho1, hb1⟩
    have HB1 : Hid (Below w.heap.size w w1) := HB.out.trans (hb1.mono HB.out.size)
    have HV1 := hide (BSl.own ho1 (lrow_byte HL.out.d))
    have HRL := hide (lrow_len ⟨0, lc, lh, ld⟩)
    obtain ⟨a1, c1, hv1, hq1, hq2, hq3⟩ := own_form ho1
    subst hv1
    clear ho1 hb1 hq1 hq2 hq3 HT HB
    by_cases hlk : lok ⟨0, lc, lh, ld⟩
    · as_aux_lemma =>
      rw [if_pos hlk] at HR2 ⊢
      clear hlk
      go_wp2_with fail
      have HBO : Calls Tryd.prog 33 #[.int .i64 3] w1 fun e w' => e = .returned (.tuple #[.agg b58.cs, .bool true]) ∧ Below w1.heap.size w1 w' := baseOf_any w1 3
      refine HBO.mono ?_
      rintro e w2 ⟨rfl, hb2⟩
      have hb3 := below_alloc4 w2 (.cells b58.cs 62)
      have hb4 := hb2.trans (hb3.mono hb2.size)
      have HB3 : Hid (Below w.heap.size w (w2.alloc (.cells b58.cs 62))) := HB1.out.trans (hb4.mono HB1.out.size)
      have HTB : Hid ((w2.alloc (.cells b58.cs 62)).heap[w2.heap.size]? = some (.cells b58.cs 62 (0, 0))) := heap_alloc_new w2 _
      have HV3 := hide (HV1.out.move (keep_below hb4))
      clear hb2 hb3 hb4
      have HBT := hide (text_any (w2.alloc (.cells b58.cs 62)) b58 _ (lrow ⟨0, lc, lh, ld⟩) bok58 HV3.out (Nat.le_trans HRL.out (by decide)))
      have HCS : Hid (b58.cs = #[.string b58.l, .string b58.t, .int .i64 (b58.n : Nat)]) := rfl
      generalize btext b58 (lrow ⟨0, lc, lh, ld⟩) = bx at *
      rw [HCS.out] at HB3 HTB HBT ⊢
      generalize b58.l = L5 at *
      generalize b58.t = T5 at *
      generalize (b58.n : Int) = N5 at *
      go_wp2_with fail
      refine HBT.out.mono ?_
      rintro e w4 ⟨rfl, hb4⟩
      have HB4 : Hid (Below w.heap.size w w4) := HB3.out.trans (hb4.mono HB3.out.size)
      clear hb4
      go_wp2_with fail
      go_ret2
      exact ⟨by rw [HR2.out]; rfl, HB4.out⟩
    · as_aux_lemma =>
      rw [if_neg hlk] at HR2 ⊢
      clear hlk
      go_wp2_with fail
      go_ret2
      exact ⟨by rw [HR2.out]; rfl, HB1.out⟩
  · have HR2 : Hid (R = ltin l 2) := by
      show _ = _
      rw [← HR.out]
      by_cases hk : lok l
      · have := ltin_text hk hv (n := 2) (by omega)
        have e : ((2 : Nat) : Int) = 2 := rfl
        rw [e] at this
        rw [this]
        unfold lttx ltext
        rw [if_pos hk, if_neg hv]
      · unfold lttx ltin
        rw [if_neg hk, if_neg hk]
    clear HR
    have g0 : (l.v != 0) = true := bne_iff_ne.2 hv
    clear hv
    go_enter Tryd.func9, Tryd.ntmps9
    go_wp2_with fail
    generalize w.alloc (.cells #[.int .i64 l.v, .int .u64 (l.c : Nat), .int .u64 (l.h : Nat), .string (nstr l.d)] 35) = w0 at *
    refine (textin_any w0 l 2 HL.out).mono ?_
    rintro e w1 ⟨rfl, hb1⟩
    have HB1 : Hid (Below w.heap.size w w1) := HB.out.trans (hb1.mono HB.out.size)
    rw [← HR2.out]
    clear hb1
    go_wp2_with fail
    go_ret2
    exact ⟨rfl, HB1.out⟩
end
section
open Go.RowKit Go
theorem lof_lkb {c : Nat} (b : List Nat) (hc : c < 18446744073709551616) : Lkb (lof c b).1 := by
  unfold lof
  split
  · exact ⟨hc, by simp, sha_byte b, by simp only [sha_len]; decide⟩
  · exact ⟨by simp [Lk.none], by simp [Lk.none], by simp [Lk.none], by simp [Lk.none]⟩
set_option maxRecDepth 1000000 in
set_option maxHeartbeats 1000000 in
theorem of_any (w : World) (c : Nat) (vb : Value) (b : List Nat) (hcb : Cb w) (hb : BSl w vb b) (hbl : b.length ≤ 140737488351232) :
    Calls Tryd.prog 18 #[.int .u64 (c : Nat), vb] w fun e w' => e = .returned (.tuple #[lkv (lof c b).1, .int .i64 ((lof c b).2 : Nat)]) ∧ Below w.heap.size w w' := by
  have HB := hide hb
  have HBL := hide hbl
  have HCB := hide hcb
  obtain ⟨⟨a, cap, rfl, hn, hc⟩, hmax, hby⟩ := hb
  clear hn hc hby hbl hcb
  have HR0 : Hid ((w.alloc (.cells #[.int .i64 0, .int .u64 0, .int .u64 0, .string ⟨#[]⟩] 35)).heap[w.heap.size]? = some (.cells zlk 35 (0, 0))) := heap_alloc_new w _
  have HB0 := hide (below_alloc4 w (.cells #[.int .i64 0, .int .u64 0, .int .u64 0, .string ⟨#[]⟩] 35))
  generalize hn : (c : Int) = n at *
  have HN := hide hn
  clear hn
  by_cases hc63 : n < 9223372036854775808
  · have HP : Hid (lof c b = (⟨1, c, 18, sha b⟩, 0)) := by show _ = _; unfold lof; rw [if_pos (by have := HN.out; omega)]
    rw [HP.out]
    have hc64 : ¬ (9223372036854775808 : Int) ≤ n := by omega
    clear HP
    go_enter Tryd.func18, Tryd.ntmps18
    go_wp2_with fail
    generalize w.alloc (.cells #[.int .i64 0, .int .u64 0, .int .u64 0, .string ⟨#[]⟩] 35) = w0 at *
    refine (sum_any w0 _ b (HCB.out.below HB0.out) (HB.out.move (keep_below HB0.out)) HBL.out).mono ?_
    rintro e w1 ⟨rfl, hb1⟩
    have HI := hide (info32d b)
    have HON := hide (one32 b)
    have HSL := hide (sha_len b)
    have HSB := hide (sha_byte b)
    have hb2 := hb1.trans ((below_alloc4 w1 (.cells (bv (sha b)).toArray 76)).mono hb1.size)
    have HR2 : Hid ((w1.alloc (.cells (bv (sha b)).toArray 76)).heap[w.heap.size]? = some (.cells zlk 35 (0, 0))) := (hb2.block _ (blk_lt HR0.out)).trans HR0.out
    have HB2 : Hid (Below w.heap.size w (w1.alloc (.cells (bv (sha b)).toArray 76))) := HB0.out.trans (hb2.mono HB0.out.size)
    have HBD := hide (bsl_block (heap_alloc_new w1 (.cells (bv (sha b)).toArray 76)) HSB.out (by rw [HSL.out]; decide))
    rw [HSL.out] at HBD
    clear hb1 hb2 HR0 HB0
    generalize hD : sha b = D at HI HON HSL HSB HR2 HB2 HBD ⊢
    have HDE := hide hD
    clear hD
    have cv := HBD.out.text
    have HAG : Hid (lcs ⟨1, c, 18, D⟩ = #[.int .i64 1, .int .u64 n, .int .u64 18, .string (nstr D)]) := by show _ = _; rw [← HN.out]; rfl
    go_wp2_with (first
      | (refine wpList_storeRow rfl rfl w1.heap.size _ (bv D).toArray 76 rfl rfl (heap_alloc_new w1 _) HI.out (by simp [bv_len, HSL.out]) HON.out ?_; rw [World.setRow_alloc_new])
      | (refine wpList_storeLk rfl rfl w.heap.size zlk ⟨1, c, 18, D⟩ rfl (by rw [HAG.out]; rfl) rfl HR2.out ?_))
    exact bodyPost_ret (end_c2 rfl Tryd.underlying35 info61 rfl (row_same HR2.out) rfl rfl) rfl ⟨by rw [HDE.out]; rfl, HB2.out.trans ((row_kp _ _ _).below HB2.out.size (fun q e => by omega))⟩
  · have HP : Hid (lof c b = (Lk.none, 40)) := by show _ = _; unfold lof; rw [if_neg (by have := HN.out; omega)]
    rw [HP.out]
    have hc64 : (9223372036854775808 : Int) ≤ n := by omega
    clear HP hc63
    go_enter Tryd.func18, Tryd.ntmps18
    go_wp2_with (refine wpList_zero rfl rfl w.heap.size rfl rfl HR0.out ?_)
    exact bodyPost_ret (end_c2 rfl Tryd.underlying35 info61 rfl HR0.out rfl rfl) rfl ⟨rfl, HB0.out⟩
end
end Go.Proofs.YtidglddjinfncaaDoor
